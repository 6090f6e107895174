/- StoV. -/
import Derived.Test.YtjeinblcpejpnabGreatDoorStoUJ

/- A store in memory: Flush. -/
namespace Go.Proofs.YtjeinblcpejpnabGreatDoor
open Go.RowKit Go.WideShapes

/-- One thing is done behind another. -/
theorem OpEnd.after {n : Nat} {w w1 w2 : World} {S S1 : List Nat} {sb cb : Nat} {M M1 : CM} {P Pf P' Pf' : List Ent → Prop} {Q Q' : CM → Man → List Ent → List Tb → Prop} {e : Ending}
    (hl : M.left < 0 → M1.left = M.left) (hq : ∀ k, M.left ≤ k → 0 ≤ k → M1.left ≤ k) (hw : M1.wk = M.wk) (hk : Kp w w1 S) (hS : ∀ b ∈ S1, b ∈ S ∨ w.heap.size ≤ b)
    (h : OpEnd n w1 w2 S1 sb cb M1 P Pf Q e) (hP : ∀ r, P r → P' r) (hPf : ∀ r, Pf r → Pf' r) (hQ : ∀ M' m' hand' N', Q M' m' hand' N' → Q' M' m' hand' N') : OpEnd n w w2 S sb cb M P' Pf' Q' e := by
  cases h with
  | ok M' m' a' x' S' N' O' he hs hi hr hl' hq' hw' hk' hS' hQ' =>
    refine .ok M' m' a' x' S' N' O' he hs hi (hP _ hr) (fun h0 => ?_) (fun k k1 k2 => hq' k (hq k k1 k2) k2) (hw'.trans hw) (hk.new hk' hS) (fun b hb => ?_) (hQ _ _ _ _ hQ')
    · rw [hl' (by rw [hl h0]; exact h0), hl h0]
    · rcases hS' b hb with h1 | h1
      · exact hS b h1
      · exact .inr (Nat.le_trans hk.size h1)
  | fell M' he hl' hc hw' hf hk' =>
    refine .fell M' he (fun h0 => hl' (by rw [hl h0]; exact h0)) hc (hw'.trans hw) (fun how => ?_) (hk.new hk' hS)
    obtain ⟨m, a, hand, N, O, h1, h2, h3⟩ := hf how
    exact ⟨m, a, hand, N, O, h1, hPf _ h2, h3⟩
/-- What compactMany says besides: few new tables are left; there is no other log, no other hand. -/
def ManyQ (M : CM) (m : Man) (hand : List Ent) (M' : CM) (m' : Man) (hand' : List Ent) (N' : List Tb) : Prop := N'.length ≤ 2 ∧ hand' = hand ∧ m'.lg = m.lg ∧ (∀ g : Nat, m.lg = (g : Int) → M'.pg g = M.pg g) ∧ (∀ b : Nat, (b : Int) ∈ m'.nw → (b : Int) ∈ m.nw) ∧ ∀ b, M.bd b = true → M'.bd b = true
/-- What is answered: nothing is wrong, or the machine fell. -/
theorem OpEnd.two {n : Nat} {w w' : World} {S : List Nat} {sb cb : Nat} {M : CM} {P Pf : List Ent → Prop} {Q : CM → Man → List Ent → List Tb → Prop} {e : Ending} (h : OpEnd n w w' S sb cb M P Pf Q e) :
    (e = .returned .nilIface ∧ Hid (OpEnd n w w' S sb cb M P Pf Q (.returned .nilIface))) ∨ (e = .returned (.iface 88 (.int .i64 9)) ∧ Hid (OpEnd n w w' S sb cb M P Pf Q (.returned (.iface 88 (.int .i64 9))))) := by
  cases h with
  | ok M' m' a' x' S' N' O' he hs hi hr hl hq hw hk hS hQ => exact .inl ⟨he, .ok M' m' a' x' S' N' O' rfl hs hi hr hl hq hw hk hS hQ⟩
  | fell M' he hl hc hw hf hk => exact .inr ⟨he, .fell M' rfl hl hc hw hf hk⟩
theorem OpEnd.down {n n' : Nat} {w w' : World} {S : List Nat} {sb cb : Nat} {M : CM} {P P' Pf Pf' : List Ent → Prop} {Q Q' : CM → Man → List Ent → List Tb → Prop} (h : OpEnd n w w' S sb cb M P Pf Q (.returned (.iface 88 (.int .i64 9)))) (hn : n ≤ n') (hP : ∀ r, Pf r → Pf' r) : OpEnd n' w w' S sb cb M P' Pf' Q' (.returned (.iface 88 (.int .i64 9))) := by
  cases h with
  | ok M' m' a' x' S' N' O' he => cases he
  | fell M' he hl hc hw hf hk =>
    refine .fell M' rfl hl hc hw (fun how => ?_) hk
    obtain ⟨m, a, hand, N, O, h1, h2, h3⟩ := hf how
    exact ⟨m, a, hand, N, O, h1.keep (fun _ _ => rfl) (fun _ _ => rfl) h1.nst.up rfl h1.bw (fun b => Nat.le_trans (h1.wr b) hn) hn, hP _ h2, h3⟩
set_option maxRecDepth 20000 in
set_option maxHeartbeats 1000000 in
theorem compactMany_any (n : Nat) (w : World) (S : List Nat) (sb cb : Nat) (M : CM) (m : Man) (a : Nat) (x : SMem) (N O : List Tb) (h : StoAt w S sb cb M m a x) (hI : Inv n M m a (x.ns.map Nd.e) N O) (hub : M.left ≤ 9223372036854775807) (hn : n ≤ 90000) :
    Calls Tryz.prog 46 #[.pointer (some ⟨sb, 0, none⟩)] w fun e w' => OpEnd (n + 3) w w' S sb cb M (· = rowsE (x.ns.map Nd.e) N O) (· = rowsE (x.ns.map Nd.e) N O) (ManyQ M m (x.ns.map Nd.e)) e := by
  have k3 := h.blk.cell 3
  simp [storeC] at k3
  have hlen : m.nw.length = N.length := by rw [hI.nw]; simp
  by_cases h3 : N.length < 3
  · have HR : Hid (OpEnd (n + 3) w w S sb cb M (· = rowsE (x.ns.map Nd.e) N O) (· = rowsE (x.ns.map Nd.e) N O) (ManyQ M m (x.ns.map Nd.e)) (.returned .nilIface)) :=
      .ok M m a x S N O rfl h (hI.keep (fun _ _ => rfl) (fun _ _ => rfl) hI.nst.up rfl hI.bw (fun b => Nat.le_trans (hI.wr b) (by omega)) (by omega)) rfl (fun _ => rfl) (fun _ h _ => h) rfl (Kp.refl _ _) (fun b hb => .inl hb) ⟨by omega, rfl, rfl, fun _ _ => rfl, fun _ h => h, fun _ h => h⟩
    have hl3 : (m.nw.length : Int) < 3 := by omega
    clear h hI hlen h3
    go_enter Tryz.func46, Tryz.ntmps46
    go_wp2
    go_ret
    exact HR.out
  · have CC : Hid (Calls Tryz.prog 20 #[.pointer (some ⟨sb, 0, none⟩)] w fun e w' => OpEnd (n + 3) w w' S sb cb M (· = rowsE (x.ns.map Nd.e) N O) (· = rowsE (x.ns.map Nd.e) N O) (ManyQ M m (x.ns.map Nd.e)) e) := by
      refine (compact_any n w S sb cb M m a x N O h hI hub hn).mono ?_
      intro e w' hO
      cases hO with
      | ok M' m' a' x' S' N' O' he hs hi hr hl hq hw hk hS hQ =>
        obtain ⟨q1, q2, q3, q4, q5⟩ := hQ
        refine .ok M' m' a' x' S' N' O' he hs hi hr hl hq hw hk hS ⟨by rw [q1]; simp, q2, q3, q4, fun b hb => ?_, q5⟩
        rw [hi.nw, q1] at hb
        simp at hb
      | fell M' he hl hc hw hf hk => exact .fell M' he hl hc hw hf hk
    have hl3 : ¬ (m.nw.length : Int) < 3 := by omega
    clear h hI hlen h3
    go_enter Tryz.func46, Tryz.ntmps46
    go_wp2_with (go_at_call 20; refine (CC.out.mono fun _ _ h => h.two).mono ?_; rintro e w1 (⟨rfl, HO1⟩ | ⟨rfl, HO1⟩))
    all_goals
      go_ret
      exact HO1.out
/-- What Flush says besides. -/
def FlushQ (M : CM) (m : Man) (M' : CM) (m' : Man) (hand' : List Ent) (N' : List Tb) : Prop := N'.length ≤ 2 ∧ hand' = [] ∧ (∃ g : Nat, m'.lg = (g : Int) ∧ M'.pg g = [] ∧ M.bd g = false ∧ M.wk g = false) ∧ ∀ b : Nat, (b : Int) ∈ m'.nw → (b : Int) ∈ m.nw ∨ M.bd b = false
/-- Behind layHand. -/
def MidQ (M : CM) (m : Man) (M' : CM) (m' : Man) (hand' : List Ent) (_ : List Tb) : Prop := hand' = [] ∧ (∃ g : Nat, m'.lg = (g : Int) ∧ M'.pg g = [] ∧ M.bd g = false ∧ M.wk g = false) ∧ ∀ b : Nat, (b : Int) ∈ m'.nw → (b : Int) ∈ m.nw ∨ M.bd b = false
set_option maxRecDepth 20000 in
set_option maxHeartbeats 2000000 in
theorem flush_any (n : Nat) (w : World) (S : List Nat) (sb cb : Nat) (M : CM) (m : Man) (a : Nat) (x : SMem) (N O : List Tb) (h : StoAt w S sb cb M m a x) (hI : Inv n M m a (x.ns.map Nd.e) N O) (hub : M.left ≤ 9223372036854775807) (hn : n ≤ 80000) :
    Calls Tryz.prog 19 #[.pointer (some ⟨sb, 0, none⟩)] w fun e w' => OpEnd (n + 9) w w' S sb cb M (· = rowsE (x.ns.map Nd.e) N O) (· = rowsE (x.ns.map Nd.e) N O) (FlushQ M m) e := by
  have C1 := (compactMany_any n w S sb cb M m a x N O h hI hub (by omega)).mono fun _ _ h => h.two
  generalize rowsE (x.ns.map Nd.e) N O = rw0 at *
  have C2 : Hid (∀ w1, OpEnd (n + 3) w w1 S sb cb M (· = rw0) (· = rw0) (ManyQ M m (x.ns.map Nd.e)) (.returned .nilIface) → Calls Tryz.prog 47 #[.pointer (some ⟨sb, 0, none⟩)] w1 fun e w' => OpEnd (n + 6) w w' S sb cb M (· = rw0) (· = rw0) (MidQ M m) e) := fun w1 hO => by
    cases hO with
    | fell M' he => cases he
    | ok M1 m1 a1 x1 S1 N1 O1 he hs1 hi1 hr1 hl1 hq1 hw1 hk1 hS1 hQ1 =>
      have := layHand_any (n + 3) w1 S1 sb cb M1 m1 a1 x1 N1 O1 hs1 hi1 (hq1 _ hub (by decide)) (by omega) hQ1.1
      rw [hr1] at this
      refine this.mono fun e w' hO => hO.after hl1 hq1 hw1 hk1 hS1 (fun _ h => h) (fun _ h => h) (fun M' m' hand' N' hq => ?_)
      obtain ⟨_, _, _, _, p5, p6⟩ := hQ1
      obtain ⟨q1, ⟨g, q2, q3, q4, q6⟩, q5, _⟩ := hq
      have hbd : ∀ b, M1.bd b = false → M.bd b = false := fun b hb => by
        cases hh : M.bd b with
        | false => rfl
        | true => have := p6 b hh; rw [hb] at this; cases this
      refine ⟨q1, ⟨g, q2, q3, hbd g q4, by rw [← hw1]; exact q6⟩, fun b hb => ?_⟩
      rcases q5 b hb with h' | h'
      · exact .inl (p5 b h')
      · exact .inr (hbd b h')
  have C3 : Hid (∀ w1, OpEnd (n + 6) w w1 S sb cb M (· = rw0) (· = rw0) (MidQ M m) (.returned .nilIface) → Calls Tryz.prog 46 #[.pointer (some ⟨sb, 0, none⟩)] w1 fun e w' => OpEnd (n + 9) w w' S sb cb M (· = rw0) (· = rw0) (FlushQ M m) e) := fun w1 hO => by
    cases hO with
    | fell M' he => cases he
    | ok M1 m1 a1 x1 S1 N1 O1 he hs1 hi1 hr1 hl1 hq1 hw1 hk1 hS1 hQ1 =>
      have := compactMany_any (n + 6) w1 S1 sb cb M1 m1 a1 x1 N1 O1 hs1 hi1 (hq1 _ hub (by decide)) (by omega)
      rw [hr1] at this
      refine this.mono fun e w' hO => hO.after hl1 hq1 hw1 hk1 hS1 (fun _ h => h) (fun _ h => h) (fun M' m' hand' N' hq => ?_)
      obtain ⟨q1, ⟨g, q2, q3, q4, q6⟩, q5⟩ := hQ1
      obtain ⟨r1, r2, r3, r4, r5, r6⟩ := hq
      exact ⟨r1, by rw [r2, q1], ⟨g, by rw [r3, q2], by rw [r4 g q2]; exact q3, q4, q6⟩, fun b hb => q5 b (r5 b hb)⟩
  have HC1 : Hid (Calls Tryz.prog 46 #[.pointer (some ⟨sb, 0, none⟩)] w fun e w' => (e = .returned .nilIface ∧ Hid (OpEnd (n + 3) w w' S sb cb M (· = rw0) (· = rw0) (ManyQ M m (x.ns.map Nd.e)) (.returned .nilIface))) ∨ (e = .returned (.iface 88 (.int .i64 9)) ∧ Hid (OpEnd (n + 3) w w' S sb cb M (· = rw0) (· = rw0) (ManyQ M m (x.ns.map Nd.e)) (.returned (.iface 88 (.int .i64 9)))))) := C1
  clear h hI hub C1
  have t1 : True := trivial
  go_enter Tryz.func19, Tryz.ntmps19
  go_wp2_with (first
    | (go_at_call 46; have _t := t1; clear t1; refine HC1.out.mono ?_; rintro e w1 (⟨rfl, HO1⟩ | ⟨rfl, HO1⟩))
    | (go_at_call 47; refine ((C2.out _ HO1.out).mono fun _ _ h => h.two).mono ?_; rintro e w2 (⟨rfl, HO2⟩ | ⟨rfl, HO2⟩))
    | (go_at_call 46; refine ((C3.out _ HO2.out).mono fun _ _ h => h.two).mono ?_; rintro e w3 (⟨rfl, HO3⟩ | ⟨rfl, HO3⟩)))
  all_goals
    go_ret
    first
      | exact HO3.out
      | exact HO2.out.down (by omega) (fun _ h => h)
      | exact HO1.out.down (by omega) (fun _ h => h)
end Go.Proofs.YtjeinblcpejpnabGreatDoor
