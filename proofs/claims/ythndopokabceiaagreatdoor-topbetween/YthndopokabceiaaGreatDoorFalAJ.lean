/- FalA. -/
import Derived.Test.YthndopokabceiaaGreatDoorLawAJ
import Derived.DeepKeys

/- Falls of power: an act that is done with a fuse. -/
namespace Go.Proofs.YthndopokabceiaaGreatDoor
open Go.RowKit Go.WideShapes

theorem ent_eq (k v k' v' : ByteArray) (g g' : Bool) (w : World) : (Op.equalIn 10000 49 (.agg #[.string k, .string v, .bool g]) (.agg #[.string k', .string v', .bool g'])).run Tryz.prog w = .ok ((k.toList == k'.toList) && ((v.toList == v'.toList) && (g == g'))) w := by
  have hf : (Tryz.prog.fieldsOf 49).toList = [{ name := "Key", type := 9, offset := 0, embedded := false, tag := "", pkgPath := "", byteOffset := 0 }, { name := "Val", type := 9, offset := 1, embedded := false, tag := "", pkgPath := "", byteOffset := 16 }, { name := "Gone", type := 4, offset := 2, embedded := false, tag := "", pkgPath := "", byteOffset := 32 }] := by kernel_rfl
  have s1 : ∀ a b w, (Op.equalIn 9999 9 (.string a) (.string b)).run Tryz.prog w = .ok (a.toList == b.toList) w := fun a b w => run_equalIn_string w 9998 9 a b Tryz.underlying9
  have s2 : ∀ a b w, (Op.equalIn 9999 4 (.bool a) (.bool b)).run Tryz.prog w = .ok (a == b) w := fun a b w => run_equalIn_bool w 9998 4 a b Tryz.underlying4
  have p0 : ∀ (a b : Value) (w : World) (x : ByteArray), (part 9 #[.string x, a, b] 0).run Tryz.prog w = .ok (.string x) w := fun _ _ _ _ => by kernel_rfl
  have p1 : ∀ (a b : Value) (w : World) (x : ByteArray), (part 9 #[a, .string x, b] 1).run Tryz.prog w = .ok (.string x) w := fun _ _ _ _ => by kernel_rfl
  have p2 : ∀ (a b : Value) (w : World) (x : Bool), (part 4 #[a, b, .bool x] 2).run Tryz.prog w = .ok (.bool x) w := fun _ _ _ _ => by kernel_rfl
  have hu : Tryz.prog.underlying 49 = some (.struct (Tryz.prog.fieldsOf 49)) := by kernel_rfl
  rw [show (10000 : Nat) = 9999 + 1 from rfl, run_equalIn_struct w 9999 49 _ _ hu (by kernel_rfl), hf]
  cases h1 : (k.toList == k'.toList) <;> cases h2 : (v.toList == v'.toList) <;> cases h3 : (g == g') <;> simp [Op.eqFields, p0, p1, p2, s1, s2, h1, h2, h3]
theorem ent_neq (k v k' v' : ByteArray) (g g' : Bool) (w : World) : (binOp .neq 49 (.agg #[.string k, .string v, .bool g]) (.agg #[.string k', .string v', .bool g'])).run Tryz.prog w = .ok (.bool (!((k.toList == k'.toList) && ((v.toList == v'.toList) && (g == g'))))) w := by
  simp only [binOp]
  simp [Op.equal, Op.maxDepth, ent_eq]
/-- Are two lists the same? Whatever is answered. -/
theorem sameE_some (ao bo : Option Addr) (ca cb : Nat) (es fs : List Ent) (w : World) (hl : es.length ≤ 1000) (ha : EntsAt w ao es) (hb : EntsAt w bo fs) :
    Calls Tryz.prog 34 #[.slice ao es.length ca, .slice bo fs.length cb] w fun e w' => ∃ r, e = .returned (.bool r) ∧ Ext w w' := by
  by_cases hlen : es.length = fs.length
  · rw [← hlen]
    go_enter Tryz.func34, Tryz.ntmps34
    go_wp2
    go_loopw [5] (fun i w' => ∃ k q : Nat, k ≤ es.length ∧ i = .int .i64 k ∧ w' = w.drewN q) (fun i _ => es.length - (intOf i).toNat)
    case atStart => exact ⟨0, 0, Nat.zero_le _, rfl, rfl⟩
    case round =>
      obtain ⟨k, q, hk, rfl, rfl⟩ := hrel
      by_cases hlt : k < es.length
      · obtain ⟨b, off, key, val, gone, rfl, he, h1, h2, h3⟩ := ha.get hlt
        obtain ⟨b', off', key', val', gone', rfl, he', g1, g2, g3⟩ := hb.get (show k < fs.length by omega)
        clear he he' ha hb
        cases hq : (key.toList == key'.toList) && ((val.toList == val'.toList) && (gone == gone')) with
        | true =>
          have hne : ∀ W : World, (binOp .neq 49 (.agg #[.string key, .string val, .bool gone]) (.agg #[.string key', .string val', .bool gone'])).run Tryz.prog W = .ok (.bool false) W := fun W => by rw [ent_neq, hq]; rfl
          clear hq
          go_wp2
          go_quiet (fail)
          go_wp2
          go_roundw
          case rel => exact ⟨k + 1, _, by omega, by go_num, rfl⟩
          case measure => simp [intOf]; omega
        | false =>
          have hne : ∀ W : World, (binOp .neq 49 (.agg #[.string key, .string val, .bool gone]) (.agg #[.string key', .string val', .bool gone'])).run Tryz.prog W = .ok (.bool true) W := fun W => by rw [ent_neq, hq]; rfl
          clear hq
          go_wp2
          go_quiet (fail)
          go_wp2
          go_ret
          exact ⟨_, rfl, ((Ext.refl _).drewN _).drewN _⟩
      · clear ha hb
        go_wp2
        go_ret
        exact ⟨_, rfl, (Ext.refl _).drewN _⟩
  · have hne : ¬ (es.length : Int) = (fs.length : Int) := by omega
    clear ha hb hlen
    go_enter Tryz.func34, Tryz.ntmps34
    go_wp2
    go_ret
    exact ⟨_, rfl, Ext.refl _⟩
/-- A store, with a fuse. -/
structure UpF (n : Nat) (w : World) (S : List Nat) (sb cb : Nat) (R : List Ent) : Prop where
  ex : ∃ M m a x N O, StoAt w S sb cb M m a x ∧ Inv n M m a (x.ns.map Nd.e) N O ∧ rowsE (x.ns.map Nd.e) N O = R ∧ M.left ≤ 1000
theorem UpF.ext {n : Nat} {w w' : World} {S : List Nat} {sb cb : Nat} {R : List Ent} (h : UpF n w S sb cb R) (hx : Ext w w') : UpF n w' S sb cb R := by
  obtain ⟨M, m, a, x, N, O, h1, h2⟩ := h.ex
  exact ⟨M, m, a, x, N, O, h1.ext hx, h2⟩
/-- An act has been done, or the machine fell. -/
structure FalE (n : Nat) (w w' : World) (S : List Nat) (cb : Nat) (R R' : List Ent) (r : Ending) : Prop where
  ex : ∃ M', ChipAt w' cb M' ∧ Kp w w' S ∧ WrOk M' ∧ ((r = .returned .nilIface ∧ FellOk n M' (· = R')) ∨ (∃ f, r = .returned (.iface 110 (.int .i64 f)) ∧ FellOk n M' (fun x => x = R ∨ x = R')))
theorem FalE.from {n : Nat} {w w1 w' : World} {S : List Nat} {cb : Nat} {R R' : List Ent} {r : Ending} (h : FalE n w1 w' S cb R R' r) (hx : Ext w w1) : FalE n w w' S cb R R' r := by
  obtain ⟨M', h1, h2, h3⟩ := h.ex
  exact ⟨M', h1, (Kp.ofExt hx S).trans h2, h3⟩
theorem FalE.val {n : Nat} {w w' : World} {S : List Nat} {cb : Nat} {R R' : List Ent} {r : Ending} (h : FalE n w w' S cb R R' r) : ∃ v, r = .returned v ∧ FalE n w w' S cb R R' r := by
  obtain ⟨M', _, _, _, h1⟩ := h.ex
  rcases h1 with h1 | ⟨f, h1⟩
  · exact ⟨_, h1.1, h⟩
  · exact ⟨_, h1.1, h⟩
theorem Inv.rest {n : Nat} {M : CM} {m : Man} {a : Nat} {hand : List Ent} {N O : List Tb} (h : Inv n M m a hand N O) (how : Int) : Inv n (restartM M how) m a hand N O ∧ (restartM M how).left = -1 ∧ (restartM M how).wk = M.wk := by
  rw [restart_up how h.nst.up]
  exact ⟨h.keep (fun _ _ => rfl) (fun _ _ => rfl) rfl rfl h.bw h.wr (Nat.le_refl _), rfl, rfl⟩
theorem Inv.fellOk {n : Nat} {M : CM} {m : Man} {a : Nat} {hand : List Ent} {N O : List Tb} {P : List Ent → Prop} (h : Inv n M m a hand N O) (hP : P (rowsE hand N O)) : FellOk n M P := fun how =>
  ⟨m, a, hand, N, O, (h.rest how).1, hP, (h.rest how).2.1, (h.rest how).2.2⟩
theorem Inv.wrOk {n : Nat} {M : CM} {m : Man} {a : Nat} {hand : List Ent} {N O : List Tb} (h : Inv n M m a hand N O) (hn : n ≤ 90000) : WrOk M := fun b _ => by have := h.wr b; omega
theorem FellOk.wrOk {n : Nat} {M : CM} {P : List Ent → Prop} (h : FellOk n M P) (hn : n ≤ 90000) : WrOk M := fun b hb => by
  obtain ⟨m, a, hand, N, O, h1, _⟩ := h 0
  have := h1.wr b
  have e : (restartM M 0).wr = M.wr := by
    unfold restartM
    cases hp : M.pend with
    | none => rfl
    | some p => simp [stepped]
  rw [e] at this
  omega
theorem OpEnd.fal {n : Nat} {w w' : World} {S : List Nat} {sb cb : Nat} {M : CM} {R R' : List Ent} {P Pf : List Ent → Prop} {Q : CM → Man → List Ent → List Tb → Prop} {e : Ending} (h : OpEnd n w w' S sb cb M P Pf Q e) (hn : n ≤ 90000) (h1 : ∀ r, P r → r = R') (h2 : ∀ r, Pf r → r = R ∨ r = R') : FalE n w w' S cb R R' e := by
  cases h with
  | ok M' m' a' x' S' N' O' he hs hi hr hl' hq hw hk' hS hQ => exact ⟨M', hs.chip, hk', hi.wrOk hn, .inl ⟨he, hi.fellOk (h1 _ hr)⟩⟩
  | fell M' he hl hc hw hf hk =>
    refine ⟨M', hc, hk, hf.wrOk hn, .inr ⟨9, he, fun how => ?_⟩⟩
    obtain ⟨m, a, hand, N, O, q1, q2, q3⟩ := hf how
    exact ⟨m, a, hand, N, O, q1, h2 _ q2, q3⟩
theorem Inv.up' {n n' : Nat} {M : CM} {m : Man} {a : Nat} {hand : List Ent} {N O : List Tb} (h : Inv n M m a hand N O) (hn : n ≤ n') : Inv n' M m a hand N O := h.keep (fun _ _ => rfl) (fun _ _ => rfl) h.nst.up rfl h.bw (fun b => Nat.le_trans (h.wr b) hn) hn
section
variable {n : Nat} {w : World} {S : List Nat} {sb cb : Nat} {R : List Ent}
theorem UpF.still (h : UpF n w S sb cb R) (hn : n ≤ 80000) : FalE (n + 9) w w S cb R R (.returned .nilIface) := by
  obtain ⟨M, m, a, x, N, O, h1, h2, h3, h4⟩ := h.ex
  exact ⟨M, h1.chip, Kp.refl _ _, h2.wrOk (by omega), .inl ⟨rfl, (h2.up' (by omega)).fellOk h3⟩⟩
theorem UpF.flush (h : UpF n w S sb cb R) (hn : n ≤ 80000) : Calls Tryz.prog 28 #[.pointer (some ⟨sb, 0, none⟩)] w fun e w' => FalE (n + 9) w w' S cb R R e := by
  obtain ⟨M, m, a, x, N, O, h1, h2, h3, h4⟩ := h.ex
  have := flush_any n w S sb cb M m a x N O h1 h2 (by omega) hn
  rw [h3] at this
  exact this.mono fun _ _ hO => hO.fal (by omega) (fun _ h => h) (fun _ h => .inl h)
theorem UpF.compact (h : UpF n w S sb cb R) (hn : n ≤ 80000) : Calls Tryz.prog 29 #[.pointer (some ⟨sb, 0, none⟩)] w fun e w' => FalE (n + 9) w w' S cb R R e := by
  obtain ⟨M, m, a, x, N, O, h1, h2, h3, h4⟩ := h.ex
  have := compact_any n w S sb cb M m a x N O h1 h2 (by omega) (by omega)
  rw [h3] at this
  exact this.mono fun _ _ hO => (hO.le (show n + 3 ≤ n + 9 by omega)).fal (by omega) (fun _ h => h) (fun _ h => .inl h)
theorem UpF.wr (h : UpF n w S sb cb R) (hn : n ≤ 80000) {ao : Option Addr} {cap : Nat} {l : List Ent} (hl : Aside3 w S ao l) : Calls Tryz.prog 26 #[.pointer (some ⟨sb, 0, none⟩), .slice ao l.length cap] w fun e w' => FalE (n + 9) w w' S cb R (wrR R l) e := by
  obtain ⟨M, m, a, x, N, O, h1, h2, h3, h4⟩ := h.ex
  have hbad : ∀ f, ¬ writeF R l = 0 → ∀ e w', e = .returned (.iface 110 (.int .i64 f)) → Ext w w' → FalE (n + 9) w w' S cb R (wrR R l) e := fun f _ e w' he hx => by
    exact ⟨M, h1.chip.ext hx, Kp.ofExt hx S, h2.wrOk (by omega), .inr ⟨f, he, (h2.up' (by omega)).fellOk (.inl h3)⟩⟩
  rcases hl.ex with rfl | hl
  · have hw : writeF R [] = 2 := by unfold writeF; rw [if_pos (by simp)]
    refine (write_nil w S sb cb M m a x ao cap h1 (by unfold downB; rw [h2.nst.up]; rfl)).mono fun e w' hh => ?_
    exact hbad 2 (by rw [hw]; decide) e w' hh.1 (by rw [hh.2]; exact Ext.refl _)
  · by_cases hw : writeF R l = 0
    · have := swrite_any n w S sb cb M m a x N O ao cap l h1 h2 (by omega) hn hl (by rw [h3]; exact hw)
      rw [h3] at this
      have hr : wrR R l = afterE R l := by unfold wrR; rw [if_pos hw]
      rw [hr]
      exact this.mono fun _ _ hO => hO.fal (by omega) (fun _ h => h) (fun _ h => h)
    · have := swrite_bad n w S sb cb M m a x N O ao cap l h1 h2 hl.at_ hl.lt (by rw [h3]; exact hw)
      rw [h3] at this
      exact this.mono fun e w' hh => hbad _ hw e w' hh.1 hh.2
end
set_option maxRecDepth 20000 in
set_option maxHeartbeats 2000000 in
theorem do_fall (n : Nat) (w : World) (S : List Nat) (sb cb : Nat) (R : List Ent) (e : ActE) (h : UpF n w S sb cb R) (hn : n ≤ 80000) (hnw : isWk e = false) (hl : Aside3 w S e.ao e.es) :
    Calls Tryz.prog 37 #[.pointer (some ⟨cb, 0, none⟩), .pointer (some ⟨sb, 0, none⟩), .agg #[.string e.kind, .string e.s, .int .i64 e.a, .int .i64 e.b, .slice e.ao e.es.length e.cap]] w fun r w' => FalE (n + 9) w w' S cb R (doR R e) r := by
  have hx : Ext w (w.alloc (Obj.cells #[.string e.kind, .string e.s, .int .i64 e.a, .int .i64 e.b, .slice e.ao e.es.length e.cap] 41)) := (Ext.refl _).alloc _
  have hU := h.ext hx
  have hA := hl.ext hx
  by_cases hkw : (e.kind.toList == [119, 114, 105, 116, 101]) = true
  · have hd : doR R e = wrR R e.es := by unfold doR isWr; rw [if_pos hkw]
    have HR : Hid (∀ W, W = (w.alloc (Obj.cells #[.string e.kind, .string e.s, .int .i64 e.a, .int .i64 e.b, .slice e.ao e.es.length e.cap] 41)) → Calls Tryz.prog 26 #[.pointer (some ⟨sb, 0, none⟩), .slice e.ao e.es.length e.cap] W fun r w' => ∃ v, r = .returned v ∧ FalE (n + 9) w w' S cb R (doR R e) r) := fun W hW => by
      subst hW
      refine (hU.wr hn hA).mono fun r w' hh => ?_
      rw [hd]
      exact (hh.from hx).val
    clear hU hA h hl hx hnw
    go_enter Tryz.func37, Tryz.ntmps37
    go_wp2_with (go_at_call 26; refine (HR.out _ rfl).mono ?_; rintro r w1 ⟨v, rfl, hE1⟩)
    go_ret
    exact hE1
  · have hd : doR R e = R := by unfold doR isWr; rw [if_neg hkw]
    have hkw' : (e.kind.toList == [119, 114, 105, 116, 101]) = false := by simpa using hkw
    clear hkw
    by_cases hkf : (e.kind.toList == [102, 108, 117, 115, 104]) = true
    · have HR : Hid (∀ W, W = (w.alloc (Obj.cells #[.string e.kind, .string e.s, .int .i64 e.a, .int .i64 e.b, .slice e.ao e.es.length e.cap] 41)) → Calls Tryz.prog 28 #[.pointer (some ⟨sb, 0, none⟩)] W fun r w' => ∃ v, r = .returned v ∧ FalE (n + 9) w w' S cb R (doR R e) r) := fun W hW => by
        subst hW
        refine (hU.flush hn).mono fun r w' hh => ?_
        rw [hd]
        exact (hh.from hx).val
      clear hU hA h hl hx hnw
      go_enter Tryz.func37, Tryz.ntmps37
      go_wp2_with (go_at_call 28; refine (HR.out _ rfl).mono ?_; rintro r w1 ⟨v, rfl, hE1⟩)
      go_ret
      exact hE1
    · have hkf' : (e.kind.toList == [102, 108, 117, 115, 104]) = false := by simpa using hkf
      clear hkf
      by_cases hkc : (e.kind.toList == [99, 111, 109, 112, 97, 99, 116]) = true
      · have HR : Hid (∀ W, W = (w.alloc (Obj.cells #[.string e.kind, .string e.s, .int .i64 e.a, .int .i64 e.b, .slice e.ao e.es.length e.cap] 41)) → Calls Tryz.prog 29 #[.pointer (some ⟨sb, 0, none⟩)] W fun r w' => ∃ v, r = .returned v ∧ FalE (n + 9) w w' S cb R (doR R e) r) := fun W hW => by
          subst hW
          refine (hU.compact hn).mono fun r w' hh => ?_
          rw [hd]
          exact (hh.from hx).val
        clear hU hA h hl hx hnw
        go_enter Tryz.func37, Tryz.ntmps37
        go_wp2_with (go_at_call 29; refine (HR.out _ rfl).mono ?_; rintro r w1 ⟨v, rfl, hE1⟩)
        go_ret
        exact hE1
      · have hkc' : (e.kind.toList == [99, 111, 109, 112, 97, 99, 116]) = false := by simpa using hkc
        have hkk' : (e.kind.toList == [119, 101, 97, 107, 101, 110]) = false := hnw
        have HE : Hid (FalE (n + 9) w (w.alloc (Obj.cells #[.string e.kind, .string e.s, .int .i64 e.a, .int .i64 e.b, .slice e.ao e.es.length e.cap] 41)) S cb R (doR R e) (.returned .nilIface)) := by
          rw [Hid, hd]; exact (hU.still hn).from hx
        clear hU hA h hl hx hkc hnw
        go_enter Tryz.func37, Tryz.ntmps37
        go_wp2
        go_ret
        exact HE.out
end Go.Proofs.YthndopokabceiaaGreatDoor
