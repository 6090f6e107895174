/- StoY StoZ. -/
import Derived.Test.YtjeinblcpejpnabGreatDoorStoXJ

/- A store in memory: a batch is written to the log, and is at hand. -/
namespace Go.Proofs.YtjeinblcpejpnabGreatDoor
open Go.RowKit Go.WideShapes

def withN (x : SMem) (ms : List Nd) : SMem := ⟨x.a1, x.c1, x.a2, x.c2, x.hb, ms⟩
theorem StoAt.putHand {w w' : World} {S : List Nat} {sb cb : Nat} {M : CM} {m : Man} {a : Nat} {x : SMem} {es : List Ent} (h : StoAt w S sb cb M m a x) (hp : M.pend = none) (hP : HandP w w' x.hb x.ns es) :
    ∃ ms, StoAt w' (S ++ ms.map Nd.b) sb cb M m a (withN x ms) ∧ ms.map Nd.e = putsE (x.ns.map Nd.e) es ∧ Kp w w' S ∧ ∀ b ∈ S ++ ms.map Nd.b, b ∈ S ∨ w.heap.size ≤ b := by
  obtain ⟨ms, hT, hm, _, hK, hn⟩ := hP.ex
  have hc := h.lt _ h.cS.1
  have hs := h.lt _ h.cS.2
  have hg := h.glob.lt
  have hcn : cb ∉ x.hb :: x.ns.map Nd.b := fun hh => (h.ts cb hh).1 rfl
  have hsn : sb ∉ x.hb :: x.ns.map Nd.b := fun hh => (h.ts sb hh).2 rfl
  have hgn : 1 ∉ x.hb :: x.ns.map Nd.b := fun hh => h.gS (h.tS _ hh)
  have hms : ∀ b ∈ x.hb :: ms.map Nd.b, b ∈ x.hb :: x.ns.map Nd.b ∨ w.heap.size ≤ b := fun b hb => by
    rcases List.mem_cons.1 hb with rfl | hb
    · exact .inl (by simp)
    · obtain ⟨n', hn', rfl⟩ := List.mem_map.1 hb
      rcases hn n' hn' with h' | h'
      · exact .inl (List.mem_cons_of_mem _ h')
      · exact .inr h'
  refine ⟨ms, ⟨?_, h.glob.kp hK hgn, hK.Blk h.blk hsn, h.nw.kp hK (fun p e => (h.d1 p e).2.2), h.od.kp hK (fun p e => (h.d2 p e).2.2), hT, h.sc, fun b hb => ?_, fun p e => ?_, fun p e => ?_, ⟨by simp [h.cS.1], by simp [h.cS.2]⟩, fun b hb => ?_, fun p e => ?_, fun hm => ?_, fun b hb => ?_⟩, hm, hK.mono (fun b hb => h.tS b hb), fun b hb => ?_⟩
  · obtain ⟨⟨cs, fv, h1, h2, h3⟩, h4⟩ := h.chip
    refine ⟨⟨cs, fv, hK.Blk h1 hcn, h2, ?_⟩, h4⟩
    rw [hp] at h3 ⊢
    exact h3
  · rcases hms b hb with h' | h'
    · exact h.ts b h'
    · omega
  · refine ⟨(h.d1 p e).1, (h.d1 p e).2.1, fun hh => ?_⟩
    rcases hms _ hh with h' | h'
    · exact (h.d1 p e).2.2 h'
    · have := h.lt _ (h.aS p (.inl e)); omega
  · refine ⟨(h.d2 p e).1, (h.d2 p e).2.1, fun hh => ?_⟩
    rcases hms _ hh with h' | h'
    · exact (h.d2 p e).2.2 h'
    · have := h.lt _ (h.aS p (.inr e)); omega
  · rcases List.mem_cons.1 hb with rfl | hb
    · exact List.mem_append_left _ (h.tS x.hb (by simp))
    · exact List.mem_append_right _ hb
  · exact List.mem_append_left _ (h.aS p e)
  · rcases List.mem_append.1 hm with hm | hm
    · exact h.gS hm
    · rcases hms _ (List.mem_cons_of_mem _ hm) with h' | h'
      · exact hgn h'
      · omega
  · rcases List.mem_append.1 hb with hb | hb
    · exact Nat.lt_of_lt_of_le (h.lt b hb) hK.size
    · exact hT.lt b (List.mem_cons_of_mem _ hb)
  · rcases List.mem_append.1 hb with hb | hb
    · exact .inl hb
    · rcases hms b (List.mem_cons_of_mem _ hb) with h' | h'
      · exact .inl (h.tS b h')
      · exact .inr h'
/-- A list that came in lies apart from a store. -/
structure Aside2 (w : World) (S : List Nat) (ao : Option Addr) (l : List Ent) : Prop where
  at_ : EntsAt w ao l
  lt : ∀ p, ao = some p → p.block < w.heap.size
  no : ∀ p, ao = some p → p.block ∉ S
theorem Aside2.kp {w w' : World} {S S' : List Nat} {ao : Option Addr} {l : List Ent} (h : Aside2 w S ao l) (hK : Kp w w' S) (hS : ∀ b ∈ S', b ∈ S ∨ w.heap.size ≤ b) : Aside2 w' S' ao l :=
  ⟨h.at_.kp hK h.no, fun p e => Nat.lt_of_lt_of_le (h.lt p e) hK.size, fun p e hm => by
    rcases hS _ hm with h' | h'
    · exact h.no p e h'
    · have := h.lt p e; omega⟩
/-- What a batch that was written leaves. -/
def PutQ (m : Man) (hand l : List Ent) (N : List Tb) (_ : CM) (m' : Man) (hand' : List Ent) (N' : List Tb) : Prop := N' = N ∧ hand' = putsE hand l ∧ m' = m
/-- A write to the log that goes well, or falls; and what is done behind it. -/
theorem log_then (n : Nat) (w : World) (S : List Nat) (sb cb : Nat) (M : CM) (m : Man) (a : Nat) (x : SMem) (N O : List Tb) (ao : Option Addr) (cap : Nat) (l : List Ent) (g : Nat) (h : StoAt w S sb cb M m a x) (hI : Inv n M m a (x.ns.map Nd.e) N O) (hub : M.left ≤ 9223372036854775807) (hg : m.lg = (g : Int)) (hw : writeF (rowsE (x.ns.map Nd.e) N O) l = 0) (hl : Aside2 w S ao l)
    (hnf : ¬ (writeE M (g : Int) (txt (encT l)) = 6 ∨ writeE M (g : Int) (txt (encT l)) = 7)) (W : World) (hx : Ext w W) :
    Calls Tryz.prog 45 #[.pointer (some ⟨cb, 0, none⟩), .int .i64 (g : Int), .string (txt (encT l))] W fun e w5 =>
      (writeE M (g : Int) (txt (encT l)) = 0 ∧ e = .returned .nilIface ∧ Kp w w5 [cb] ∧ Hid (Calls Tryz.prog 38 #[.pointer (some ⟨x.hb, 0, none⟩), .slice ao l.length cap] w5 fun e w6 => e = .returned (.tuple #[]) ∧ OpEnd n w w6 S sb cb M (· = afterE (rowsE (x.ns.map Nd.e) N O) l) (fun r => r = rowsE (x.ns.map Nd.e) N O ∨ r = afterE (rowsE (x.ns.map Nd.e) N O) l) (PutQ m (x.ns.map Nd.e) l N) (.returned .nilIface))) ∨
      (writeE M (g : Int) (txt (encT l)) = 9 ∧ e = .returned (.iface 88 (.int .i64 9)) ∧ Kp w w5 [cb] ∧ Hid (OpEnd n w w5 S sb cb M (· = afterE (rowsE (x.ns.map Nd.e) N O) l) (fun r => r = rowsE (x.ns.map Nd.e) N O ∨ r = afterE (rowsE (x.ns.map Nd.e) N O) l) (PutQ m (x.ns.map Nd.e) l N) (.returned (.iface 88 (.int .i64 9))))) := by
  have hk := logWk M g (txt (encT l))
  have hcS : ∀ y ∈ [cb], y ∈ S := by simp [h.cS.1]
  obtain ⟨_, hl4, _, _, h64, _⟩ := writeF_ok hw
  refine (write_any cb (g : Int) (txt (encT l)) M W (h.chip.ext hx) hub (by
    have : (txt (encT l)).size = (encT l).length := by simp [txt, ByteArray.size]
    omega)).mono ?_
  rintro e w5 ⟨he, hc, hgr⟩
  have hK : Kp w w5 [cb] := (Kp.ofExt hx _).trans (Kp.grown hgr)
  cases log_write hI hg hw with
  | full h0 => exact absurd h0 hnf
  | fell h0 hl0 hf =>
    rw [h0] at he
    exact .inr ⟨h0, he, hK, .fell _ rfl hl0 hc hk.wk hf (hK.mono hcS)⟩
  | done h0 hi hp =>
    rw [h0] at he
    refine .inl ⟨h0, he, hK, ?_⟩
    have hs := h.chg hK hc
    have hl5 := hl.kp (hK.mono hcS) (fun b hb => .inl hb)
    have hns : x.ns.length ≤ 32 := by have := hI.hand.2.2; simpa using this
    refine (putAll_any x.hb x.ns ao cap l w5 hs.tow (by omega) hs.glob (fun hh => hs.gS (hs.tS _ hh)) hl5.at_ (fun p e hh => hl5.no p e (hs.tS _ hh))).mono ?_
    rintro e w6 ⟨rfl, hP⟩
    obtain ⟨ms, q1, q2, q3, q4⟩ := hs.putHand hp hP
    refine ⟨rfl, .ok _ m a (withN x ms) _ N O rfl q1 ?_ ?_ hk.left hk.leq hk.wk ((hK.mono hcS).trans q3) (fun b hb => ?_) ⟨rfl, q2, rfl⟩⟩
    · show Inv n _ m a (ms.map Nd.e) N O
      rw [q2]; exact hi
    · show rowsE (ms.map Nd.e) N O = _
      rw [q2, rows_put hI.hand.1]
    · rcases q4 b hb with h' | h'
      · exact .inl h'
      · exact .inr (Nat.le_trans hK.size h')
/-- What Write says besides. -/
def WriteQ (N : List Tb) (_ : CM) (_ : Man) (_ : List Ent) (N' : List Tb) : Prop := N.length ≤ 2 → N'.length ≤ 2
set_option maxRecDepth 20000 in
set_option maxHeartbeats 4000000 in
theorem swrite_any (n : Nat) (w : World) (S : List Nat) (sb cb : Nat) (M : CM) (m : Man) (a : Nat) (x : SMem) (N O : List Tb) (ao : Option Addr) (cap : Nat) (l : List Ent) (h : StoAt w S sb cb M m a x) (hI : Inv n M m a (x.ns.map Nd.e) N O) (hub : M.left ≤ 9223372036854775807) (hn : n ≤ 80000) (hl : Aside2 w S ao l) (hw : writeF (rowsE (x.ns.map Nd.e) N O) l = 0) :
    Calls Tryz.prog 17 #[.pointer (some ⟨sb, 0, none⟩), .slice ao l.length cap] w fun e w' => OpEnd (n + 9) w w' S sb cb M (· = afterE (rowsE (x.ns.map Nd.e) N O) l) (fun r => r = rowsE (x.ns.map Nd.e) N O ∨ r = afterE (rowsE (x.ns.map Nd.e) N O) l) (WriteQ N) e := by
  obtain ⟨hl0, hl4, hbt, _, h64, _⟩ := writeF_ok hw
  have CK : Hid (Calls Tryz.prog 15 #[.pointer (some ⟨sb, 0, none⟩), .slice ao l.length cap] w fun e w' => e = .returned .nilIface ∧ Ext w w') := by
    have := scheck_any n w S sb cb M m a x N O ao cap l h hI hl.at_ hl.lt
    rw [hw] at this; exact this
  have CB : Hid (∀ W, Ext w W → Calls Tryz.prog 40 #[.slice ao l.length cap] W fun e w' => e = .returned (.tuple #[.string (txt (encT l)), .nilIface]) ∧ Ext W w') := fun W hx => by
    have := bytes_any ao cap l W (by omega) (hl.at_.ext hx)
    rw [hbt] at this; exact this
  obtain ⟨g, hg, _⟩ := hI.lg
  have k0 := h.blk.cell 0
  have k2 := h.blk.cell 2
  have k6 := h.blk.cell 6
  simp [storeC] at k0 k2 k6
  rw [hg] at k2
  have hsc := h.sc
  have HCK : Hid (∀ W, Kp w W [cb] → W.cell? ⟨sb, 0, none⟩ = some (.pointer (some ⟨cb, 0, none⟩)) ∧ W.cell? ⟨sb, 2, none⟩ = some (.int .i64 (g : Int)) ∧ W.cell? ⟨sb, 6, none⟩ = some (.pointer (some ⟨x.hb, 0, none⟩))) := fun W hK => ⟨hK.cell (by simp [hsc]) k0, hK.cell (by simp [hsc]) k2, hK.cell (by simp [hsc]) k6⟩
  have HCE : Hid (∀ W, Ext w W → W.cell? ⟨sb, 0, none⟩ = some (.pointer (some ⟨cb, 0, none⟩)) ∧ W.cell? ⟨sb, 2, none⟩ = some (.int .i64 (g : Int))) := fun W hx => ⟨hx.cell k0, hx.cell k2⟩
  have q1 := eqErr
  have q2 := eqNil
  have hE := log_write hI hg hw
  cases hE with
  | done hE =>
    have CW : Hid (∀ W, Ext w W → Calls Tryz.prog 45 #[.pointer (some ⟨cb, 0, none⟩), .int .i64 (g : Int), .string (txt (encT l))] W fun e w5 => e = .returned .nilIface ∧ Kp w w5 [cb] ∧ Hid (Calls Tryz.prog 38 #[.pointer (some ⟨x.hb, 0, none⟩), .slice ao l.length cap] w5 fun e w6 => e = .returned (.tuple #[]) ∧ OpEnd n w w6 S sb cb M (· = afterE (rowsE (x.ns.map Nd.e) N O) l) (fun r => r = rowsE (x.ns.map Nd.e) N O ∨ r = afterE (rowsE (x.ns.map Nd.e) N O) l) (PutQ m (x.ns.map Nd.e) l N) (.returned .nilIface))) := fun W hx => by
      refine (log_then n w S sb cb M m a x N O ao cap l g h hI hub hg hw hl (by rw [hE]; simp) W hx).mono ?_
      rintro e w5 (⟨_, h2⟩ | ⟨h1, _⟩)
      · exact h2
      · rw [hE] at h1; cases h1
    clear h hI hub hl hw hg hbt hl0 hl4 h64 k0 k2 k6 hsc hE
    generalize rowsE (x.ns.map Nd.e) N O = r0 at *
    generalize afterE r0 l = r1 at *
    generalize txt (encT l) = tx at *
    go_enter Tryz.func17, Tryz.ntmps17
    go_wp2_with (first
      | (go_at_call 15; refine CK.out.mono ?_; rintro e w1 ⟨rfl, hx1⟩)
      | (go_at_call 40; refine (CB.out _ hx1).mono ?_; rintro e w2 ⟨rfl, hx2⟩))
    have hx12 := hx1.trans hx2
    obtain ⟨s0, s2⟩ := HCE.out _ hx12
    go_region_held3 (fun W => W.cell? ⟨sb, 0, none⟩ = some (.pointer (some ⟨cb, 0, none⟩)) ∧ W.cell? ⟨sb, 2, none⟩ = some (.int .i64 (g : Int)))
      (first | (go_keep; done) | exact ⟨(HCK.out _ hk5).1, (HCK.out _ hk5).2.1⟩)
      (first
        | (go_at_call 45; refine (CW.out _ (by repeat (first | exact hx12 | refine Ext.drew ?_ | refine Ext.drewN ?_ _))).mono ?_; rintro e w5 ⟨rfl, hk5, HP⟩))
    obtain ⟨u0, u2, u6⟩ := HCK.out _ hk5
    go_wp2_with (go_at_call 38; refine HP.out.mono ?_; rintro e w6 ⟨rfl, HO⟩; have HO2 : Hid (OpEnd n w w6 S sb cb M (· = r1) (fun r => r = r0 ∨ r = r1) (PutQ m (x.ns.map Nd.e) l N) (.returned .nilIface)) := HO; clear HO)
    go_ret
    exact (HO2.out.le (by omega)).after (fun _ => rfl) (fun _ h _ => h) rfl (Kp.refl _ _) (fun _ h => .inl h) (fun _ h => h) (fun _ h => h) (fun _ _ _ _ hq hN => by rw [hq.1]; exact hN)
  | fell hE =>
    have CW : Hid (∀ W, Ext w W → Calls Tryz.prog 45 #[.pointer (some ⟨cb, 0, none⟩), .int .i64 (g : Int), .string (txt (encT l))] W fun e w5 => e = .returned (.iface 88 (.int .i64 9)) ∧ Kp w w5 [cb] ∧ Hid (OpEnd n w w5 S sb cb M (· = afterE (rowsE (x.ns.map Nd.e) N O) l) (fun r => r = rowsE (x.ns.map Nd.e) N O ∨ r = afterE (rowsE (x.ns.map Nd.e) N O) l) (PutQ m (x.ns.map Nd.e) l N) (.returned (.iface 88 (.int .i64 9))))) := fun W hx => by
      refine (log_then n w S sb cb M m a x N O ao cap l g h hI hub hg hw hl (by rw [hE]; simp) W hx).mono ?_
      rintro e w5 (⟨h1, _⟩ | ⟨_, h2⟩)
      · rw [hE] at h1; cases h1
      · exact h2
    clear h hI hub hl hw hg hbt hl0 hl4 h64 k0 k2 k6 hsc hE
    generalize rowsE (x.ns.map Nd.e) N O = r0 at *
    generalize afterE r0 l = r1 at *
    generalize txt (encT l) = tx at *
    go_enter Tryz.func17, Tryz.ntmps17
    go_wp2_with (first
      | (go_at_call 15; refine CK.out.mono ?_; rintro e w1 ⟨rfl, hx1⟩)
      | (go_at_call 40; refine (CB.out _ hx1).mono ?_; rintro e w2 ⟨rfl, hx2⟩))
    have hx12 := hx1.trans hx2
    obtain ⟨s0, s2⟩ := HCE.out _ hx12
    go_region_held3 (fun W => W.cell? ⟨sb, 0, none⟩ = some (.pointer (some ⟨cb, 0, none⟩)) ∧ W.cell? ⟨sb, 2, none⟩ = some (.int .i64 (g : Int)))
      (first | (go_keep; done) | exact ⟨(HCK.out _ hk5).1, (HCK.out _ hk5).2.1⟩)
      (first
        | (go_at_call 45; refine (CW.out _ (by repeat (first | exact hx12 | refine Ext.drew ?_ | refine Ext.drewN ?_ _))).mono ?_; rintro e w5 ⟨rfl, hk5, HP⟩))
    go_wp2
    go_ret
    exact HP.out.down (by omega) (fun _ h => h)
  | full hE hi hwf =>
    have hk := logWk M g (txt (encT l))
    have hcS : ∀ y ∈ [cb], y ∈ S := by simp [h.cS.1]
    have CW0 : ∀ W, Ext w W → Calls Tryz.prog 45 #[.pointer (some ⟨cb, 0, none⟩), .int .i64 (g : Int), .string (txt (encT l))] W fun e w5 => e = .returned (errV (writeE M (g : Int) (txt (encT l)))) ∧ Kp w w5 [cb] ∧ ChipAt w5 cb (writeM M (g : Int) (txt (encT l))) := fun W hx =>
      (write_any cb (g : Int) (txt (encT l)) M W (h.chip.ext hx) hub (by
        have : (txt (encT l)).size = (encT l).length := by simp [txt, ByteArray.size]
        omega)).mono fun e w5 ⟨h1, h2, h3⟩ => ⟨h1, (Kp.ofExt hx _).trans (Kp.grown h3), h2⟩
    have CF : Hid (∀ w5, Kp w w5 [cb] → ChipAt w5 cb (writeM M (g : Int) (txt (encT l))) → Calls Tryz.prog 19 #[.pointer (some ⟨sb, 0, none⟩)] w5 fun e w6 =>
        (e = .returned .nilIface ∧ ∃ g2 hb2 : Nat, w6.cell? ⟨sb, 0, none⟩ = some (.pointer (some ⟨cb, 0, none⟩)) ∧ w6.cell? ⟨sb, 2, none⟩ = some (.int .i64 (g2 : Int)) ∧ Hid (∀ W, Ext w6 W → Calls Tryz.prog 45 #[.pointer (some ⟨cb, 0, none⟩), .int .i64 (g2 : Int), .string (txt (encT l))] W fun e w7 => e = .returned .nilIface ∧ w7.cell? ⟨sb, 0, none⟩ = some (.pointer (some ⟨cb, 0, none⟩)) ∧ w7.cell? ⟨sb, 2, none⟩ = some (.int .i64 (g2 : Int)) ∧ w7.cell? ⟨sb, 6, none⟩ = some (.pointer (some ⟨hb2, 0, none⟩)) ∧ Hid (Calls Tryz.prog 38 #[.pointer (some ⟨hb2, 0, none⟩), .slice ao l.length cap] w7 fun e w8 => e = .returned (.tuple #[]) ∧ OpEnd (n + 9) w w8 S sb cb M (· = afterE (rowsE (x.ns.map Nd.e) N O) l) (fun r => r = rowsE (x.ns.map Nd.e) N O ∨ r = afterE (rowsE (x.ns.map Nd.e) N O) l) (WriteQ N) (.returned .nilIface)))) ∨
        (e = .returned .nilIface ∧ ∃ g2 : Nat, w6.cell? ⟨sb, 0, none⟩ = some (.pointer (some ⟨cb, 0, none⟩)) ∧ w6.cell? ⟨sb, 2, none⟩ = some (.int .i64 (g2 : Int)) ∧ Hid (∀ W, Ext w6 W → Calls Tryz.prog 45 #[.pointer (some ⟨cb, 0, none⟩), .int .i64 (g2 : Int), .string (txt (encT l))] W fun e w7 => e = .returned (.iface 88 (.int .i64 9)) ∧ w7.cell? ⟨sb, 0, none⟩ = some (.pointer (some ⟨cb, 0, none⟩)) ∧ w7.cell? ⟨sb, 2, none⟩ = some (.int .i64 (g2 : Int)) ∧ Hid (OpEnd (n + 9) w w7 S sb cb M (· = afterE (rowsE (x.ns.map Nd.e) N O) l) (fun r => r = rowsE (x.ns.map Nd.e) N O ∨ r = afterE (rowsE (x.ns.map Nd.e) N O) l) (WriteQ N) (.returned (.iface 88 (.int .i64 9)))))) ∨
        (e = .returned (.iface 88 (.int .i64 9)) ∧ Hid (OpEnd (n + 9) w w6 S sb cb M (· = afterE (rowsE (x.ns.map Nd.e) N O) l) (fun r => r = rowsE (x.ns.map Nd.e) N O ∨ r = afterE (rowsE (x.ns.map Nd.e) N O) l) (WriteQ N) (.returned (.iface 88 (.int .i64 9)))))) := fun w5 hk5 hc5 => by
      have hk5S := hk5.mono hcS
      refine (flush_any n w5 S sb cb (writeM M (g : Int) (txt (encT l))) m a x N O (h.chg hk5 hc5) hi (hk.leq _ hub (by decide)) hn).mono ?_
      intro e w6 hO
      cases hO with
      | fell M' he hl' hc' hw' hf' hk' =>
        subst he
        refine .inr (.inr ⟨rfl, ?_⟩)
        have hO2 : OpEnd (n + 9) w5 w6 S sb cb (writeM M (g : Int) (txt (encT l))) (· = rowsE (x.ns.map Nd.e) N O) (· = rowsE (x.ns.map Nd.e) N O) (FlushQ (writeM M (g : Int) (txt (encT l))) m) (.returned (.iface 88 (.int .i64 9))) := .fell M' rfl hl' hc' hw' hf' hk'
        exact (hO2.after (P' := (· = rowsE (x.ns.map Nd.e) N O)) (Pf' := (· = rowsE (x.ns.map Nd.e) N O)) (Q' := FlushQ (writeM M (g : Int) (txt (encT l))) m) hk.left hk.leq hk.wk hk5S (fun _ h => .inl h) (fun _ h => h) (fun _ h => h) (fun _ _ _ _ h => h)).down (Nat.le_refl _) (fun _ h => .inl h)
      | ok M2 m2 a2 x2 S2 N2 O2 he hs2 hi2 hr2 hl2 hq2 hw2 hk2 hS2 hQ2 =>
        obtain ⟨p1, p2, ⟨g2, p3, p4, p5, p6⟩, _⟩ := hQ2
        have hl6 : Aside2 w6 S2 ao l := (hl.kp hk5S (fun _ h => .inl h)).kp hk2 hS2
        have hwf2 : writeF (rowsE (x2.ns.map Nd.e) N2 O2) l = 0 := by rw [hr2]; exact hw
        have hwk2 : M2.wk g2 = false := by rw [hw2]; exact p6
        have hbd2 : M2.bd g2 = false := by
          cases hh : M2.bd g2 with
          | false => rfl
          | true => have := hi2.bw g2 hh; rw [hwk2] at this; cases this
        have z0 := hs2.blk.cell 0
        have z2 := hs2.blk.cell 2
        have z6 := hs2.blk.cell 6
        simp [storeC] at z0 z2 z6
        rw [p3] at z2
        have hub2 := hq2 _ (hk.leq _ hub (by decide)) (by decide)
        have hnf : ¬ (writeE M2 (g2 : Int) (txt (encT l)) = 6 ∨ writeE M2 (g2 : Int) (txt (encT l)) = 7) := fun hh => by
          cases log_write hi2 p3 hwf2 with
          | done h0 => rw [h0] at hh; rcases hh with hh | hh <;> cases hh
          | fell h0 => rw [h0] at hh; rcases hh with hh | hh <;> cases hh
          | full h0 _ hno => exact hno ⟨hwk2, hbd2, by rw [p4]; simp⟩
        have LT := log_then (n + 9) w6 S2 sb cb M2 m2 a2 x2 N2 O2 ao cap l g2 hs2 hi2 hub2 p3 hwf2 hl6 hnf
        rw [hr2] at LT
        have hcell : ∀ w7, Kp w6 w7 [cb] → w7.cell? ⟨sb, 0, none⟩ = some (.pointer (some ⟨cb, 0, none⟩)) ∧ w7.cell? ⟨sb, 2, none⟩ = some (.int .i64 (g2 : Int)) ∧ w7.cell? ⟨sb, 6, none⟩ = some (.pointer (some ⟨x2.hb, 0, none⟩)) := fun w7 hK => ⟨hK.cell (by simp [hs2.sc]) z0, hK.cell (by simp [hs2.sc]) z2, hK.cell (by simp [hs2.sc]) z6⟩
        have hS3 : ∀ b ∈ S2, b ∈ S ∨ w.heap.size ≤ b := fun b hb => by
          rcases hS2 b hb with h' | h'
          · exact .inl h'
          · exact .inr (Nat.le_trans hk5.size h')
        have lift : ∀ {w8 : World} {e : Ending}, OpEnd (n + 9) w6 w8 S2 sb cb M2 (· = afterE (rowsE (x.ns.map Nd.e) N O) l) (fun r => r = rowsE (x.ns.map Nd.e) N O ∨ r = afterE (rowsE (x.ns.map Nd.e) N O) l) (PutQ m2 (x2.ns.map Nd.e) l N2) e → OpEnd (n + 9) w w8 S sb cb M (· = afterE (rowsE (x.ns.map Nd.e) N O) l) (fun r => r = rowsE (x.ns.map Nd.e) N O ∨ r = afterE (rowsE (x.ns.map Nd.e) N O) l) (WriteQ N) e := fun hO =>
          hO.after (fun h0 => by rw [hl2 (by rw [hk.left h0]; exact h0), hk.left h0]) (fun k k1 k2 => hq2 k (hk.leq k k1 k2) k2) (hw2.trans hk.wk) (hk5S.trans hk2) hS3 (fun _ h => h) (fun _ h => h) (fun _ _ _ _ hq _ => by rw [hq.1]; exact p1)
        cases log_write hi2 p3 hwf2 with
        | full h0 => exact absurd h0 hnf
        | done h0 =>
          refine .inl ⟨he, g2, x2.hb, z0, z2, fun W hx => (LT W hx).mono ?_⟩
          rintro e w7 (⟨_, t2, t3, t4⟩ | ⟨t1, _⟩)
          · obtain ⟨y0, y2, y6⟩ := hcell w7 t3
            exact ⟨t2, y0, y2, y6, t4.out.mono fun e w8 ⟨u1, u2⟩ => ⟨u1, lift u2⟩⟩
          · rw [h0] at t1; cases t1
        | fell h0 =>
          refine .inr (.inl ⟨he, g2, z0, z2, fun W hx => (LT W hx).mono ?_⟩)
          rintro e w7 (⟨t1, _⟩ | ⟨_, t2, t3, t4⟩)
          · rw [h0] at t1; cases t1
          · obtain ⟨y0, y2, _⟩ := hcell w7 t3
            exact ⟨t2, y0, y2, lift t4.out⟩
    rcases hE with hE | hE
    · have CW : Hid (∀ W, Ext w W → Calls Tryz.prog 45 #[.pointer (some ⟨cb, 0, none⟩), .int .i64 (g : Int), .string (txt (encT l))] W fun e w5 => e = .returned (.iface 88 (.int .i64 6)) ∧ Kp w w5 [cb] ∧ ChipAt w5 cb (writeM M (g : Int) (txt (encT l)))) := fun W hx => by
        have := CW0 W hx; rw [hE] at this; exact this
      clear CW0 h hI hub hl hw hg hbt hl0 hl4 h64 k0 k2 k6 hsc hE hi hwf hk hcS
      generalize rowsE (x.ns.map Nd.e) N O = r0 at *
      generalize afterE r0 l = r1 at *
      generalize txt (encT l) = tx at *
      go_enter Tryz.func17, Tryz.ntmps17
      go_wp2_with (first
        | (go_at_call 15; refine CK.out.mono ?_; rintro e w1 ⟨rfl, hx1⟩)
        | (go_at_call 40; refine (CB.out _ hx1).mono ?_; rintro e w2 ⟨rfl, hx2⟩))
      have hx12 := hx1.trans hx2
      obtain ⟨s0, s2⟩ := HCE.out _ hx12
      go_region_held3 (fun W => W.cell? ⟨sb, 0, none⟩ = some (.pointer (some ⟨cb, 0, none⟩)) ∧ W.cell? ⟨sb, 2, none⟩ = some (.int .i64 (g : Int)))
        (first | (go_keep; done) | exact ⟨(HCK.out _ hk5).1, (HCK.out _ hk5).2.1⟩)
        (first
          | (go_at_call 45; refine (CW.out _ (by repeat (first | exact hx12 | refine Ext.drew ?_ | refine Ext.drewN ?_ _))).mono ?_; rintro e w5 ⟨rfl, hk5, hc5⟩))
      obtain ⟨u0, u2, u6⟩ := HCK.out _ hk5
      go_wp2_with (go_at_call 19; refine (CF.out _ hk5 hc5).mono ?_; rintro e w6 (⟨rfl, g2, hb2, v0, v2, HW⟩ | ⟨rfl, g2, v0, v2, HW⟩ | ⟨rfl, HO⟩))
      · go_region_held3 (fun W => W.cell? ⟨sb, 0, none⟩ = some (.pointer (some ⟨cb, 0, none⟩)) ∧ W.cell? ⟨sb, 2, none⟩ = some (.int .i64 (g2 : Int)))
          (first | (go_keep; done) | exact ⟨y0, y2⟩)
          (first
            | (go_at_call 45; refine (HW.out _ (by repeat (first | exact Ext.refl _ | refine Ext.drew ?_ | refine Ext.drewN ?_ _))).mono ?_; rintro e w7 ⟨rfl, y0, y2, y6, HP⟩))
        go_wp2_with (go_at_call 38; refine HP.out.mono ?_; rintro e w8 ⟨rfl, HO⟩; have HO2 : Hid (OpEnd (n + 9) w w8 S sb cb M (· = r1) (fun r => r = r0 ∨ r = r1) (WriteQ N) (.returned .nilIface)) := HO; clear HO)
        go_ret
        exact HO2.out
      · go_region_held3 (fun W => W.cell? ⟨sb, 0, none⟩ = some (.pointer (some ⟨cb, 0, none⟩)) ∧ W.cell? ⟨sb, 2, none⟩ = some (.int .i64 (g2 : Int)))
          (first | (go_keep; done) | exact ⟨y0, y2⟩)
          (first
            | (go_at_call 45; refine (HW.out _ (by repeat (first | exact Ext.refl _ | refine Ext.drew ?_ | refine Ext.drewN ?_ _))).mono ?_; rintro e w7 ⟨rfl, y0, y2, HO⟩))
        go_wp2
        go_ret
        exact HO.out
      · go_ret
        exact HO.out
    · have CW : Hid (∀ W, Ext w W → Calls Tryz.prog 45 #[.pointer (some ⟨cb, 0, none⟩), .int .i64 (g : Int), .string (txt (encT l))] W fun e w5 => e = .returned (.iface 88 (.int .i64 7)) ∧ Kp w w5 [cb] ∧ ChipAt w5 cb (writeM M (g : Int) (txt (encT l)))) := fun W hx => by
        have := CW0 W hx; rw [hE] at this; exact this
      clear CW0 h hI hub hl hw hg hbt hl0 hl4 h64 k0 k2 k6 hsc hE hi hwf hk hcS
      generalize rowsE (x.ns.map Nd.e) N O = r0 at *
      generalize afterE r0 l = r1 at *
      generalize txt (encT l) = tx at *
      go_enter Tryz.func17, Tryz.ntmps17
      go_wp2_with (first
        | (go_at_call 15; refine CK.out.mono ?_; rintro e w1 ⟨rfl, hx1⟩)
        | (go_at_call 40; refine (CB.out _ hx1).mono ?_; rintro e w2 ⟨rfl, hx2⟩))
      have hx12 := hx1.trans hx2
      obtain ⟨s0, s2⟩ := HCE.out _ hx12
      go_region_held3 (fun W => W.cell? ⟨sb, 0, none⟩ = some (.pointer (some ⟨cb, 0, none⟩)) ∧ W.cell? ⟨sb, 2, none⟩ = some (.int .i64 (g : Int)))
        (first | (go_keep; done) | exact ⟨(HCK.out _ hk5).1, (HCK.out _ hk5).2.1⟩)
        (first
          | (go_at_call 45; refine (CW.out _ (by repeat (first | exact hx12 | refine Ext.drew ?_ | refine Ext.drewN ?_ _))).mono ?_; rintro e w5 ⟨rfl, hk5, hc5⟩))
      obtain ⟨u0, u2, u6⟩ := HCK.out _ hk5
      go_wp2_with (go_at_call 19; refine (CF.out _ hk5 hc5).mono ?_; rintro e w6 (⟨rfl, g2, hb2, v0, v2, HW⟩ | ⟨rfl, g2, v0, v2, HW⟩ | ⟨rfl, HO⟩))
      · go_region_held3 (fun W => W.cell? ⟨sb, 0, none⟩ = some (.pointer (some ⟨cb, 0, none⟩)) ∧ W.cell? ⟨sb, 2, none⟩ = some (.int .i64 (g2 : Int)))
          (first | (go_keep; done) | exact ⟨y0, y2⟩)
          (first
            | (go_at_call 45; refine (HW.out _ (by repeat (first | exact Ext.refl _ | refine Ext.drew ?_ | refine Ext.drewN ?_ _))).mono ?_; rintro e w7 ⟨rfl, y0, y2, y6, HP⟩))
        go_wp2_with (go_at_call 38; refine HP.out.mono ?_; rintro e w8 ⟨rfl, HO⟩; have HO2 : Hid (OpEnd (n + 9) w w8 S sb cb M (· = r1) (fun r => r = r0 ∨ r = r1) (WriteQ N) (.returned .nilIface)) := HO; clear HO)
        go_ret
        exact HO2.out
      · go_region_held3 (fun W => W.cell? ⟨sb, 0, none⟩ = some (.pointer (some ⟨cb, 0, none⟩)) ∧ W.cell? ⟨sb, 2, none⟩ = some (.int .i64 (g2 : Int)))
          (first | (go_keep; done) | exact ⟨y0, y2⟩)
          (first
            | (go_at_call 45; refine (HW.out _ (by repeat (first | exact Ext.refl _ | refine Ext.drew ?_ | refine Ext.drewN ?_ _))).mono ?_; rintro e w7 ⟨rfl, y0, y2, HO⟩))
        go_wp2
        go_ret
        exact HO.out
      · go_ret
        exact HO.out
end Go.Proofs.YtjeinblcpejpnabGreatDoor

/- A store in memory: Open. -/
namespace Go.Proofs.YtjeinblcpejpnabGreatDoor
open Go.RowKit Go.WideShapes

set_option maxRecDepth 20000 in
set_option maxHeartbeats 1000000 in
theorem swrite_bad (n : Nat) (w : World) (S : List Nat) (sb cb : Nat) (M : CM) (m : Man) (a : Nat) (x : SMem) (N O : List Tb) (ao : Option Addr) (cap : Nat) (l : List Ent) (h : StoAt w S sb cb M m a x) (hI : Inv n M m a (x.ns.map Nd.e) N O) (hes : EntsAt w ao l) (hlt : ∀ p, ao = some p → p.block < w.heap.size) (hw : ¬ writeF (rowsE (x.ns.map Nd.e) N O) l = 0) :
    Calls Tryz.prog 17 #[.pointer (some ⟨sb, 0, none⟩), .slice ao l.length cap] w fun e w' => e = .returned (.iface 88 (.int .i64 (writeF (rowsE (x.ns.map Nd.e) N O) l))) ∧ Ext w w' := by
  have CK : Hid (Calls Tryz.prog 15 #[.pointer (some ⟨sb, 0, none⟩), .slice ao l.length cap] w fun e w' => e = .returned (.iface 88 (.int .i64 (writeF (rowsE (x.ns.map Nd.e) N O) l))) ∧ Ext w w') := by
    have := scheck_any n w S sb cb M m a x N O ao cap l h hI hes hlt
    unfold errV at this; rw [if_neg hw] at this; exact this
  clear h hI hes hlt hw
  generalize writeF (rowsE (x.ns.map Nd.e) N O) l = f at *
  go_enter Tryz.func17, Tryz.ntmps17
  go_wp2_with (go_at_call 15; refine CK.out.mono ?_; rintro e w1 ⟨rfl, hx1⟩)
  go_ret
  exact ⟨rfl, hx1⟩
/-- What a page of the log has. -/
theorem log_page {M : CM} {g : Nat} {bs : List (Option (List Ent))} (hd : downB M = false) (hg : g < 24) (hpg : M.pg g = bs.map logPg) (hb : ∀ l, some l ∈ bs → l.length ≤ 4 ∧ (∀ e ∈ l, faultE e = 0) ∧ (encT l).length ≤ 64) (p : Nat) (hp : p < 8) :
    (∀ l, bs[p]? = some (some l) → pageE M (g : Int) (p : Int) = (l, 0)) ∧ ((∀ l, ¬ bs[p]? = some (some l)) → ¬ (pageE M (g : Int) (p : Int)).2 = 0) := by
  have hr := readR_of (M := M) hd hg hp
  rw [hpg, List.getElem?_map] at hr
  refine ⟨fun l hl => ?_, fun hn => ?_⟩
  · rw [hl] at hr
    simp only [Option.map_some, logPg] at hr
    obtain ⟨h4, hf, h64⟩ := hb l (List.mem_of_getElem? hl)
    unfold pageE
    rw [hr]
    simp only
    rw [if_pos trivial]
    unfold entsT
    have : txtL (padD (txt (encT l))) = txt (encT l ++ List.replicate (64 - (txt (encT l)).size) 0) := by unfold txtL padD txt; rfl
    rw [this, parse_encT l _ hf (by omega)]
  · unfold pageE
    cases hh : bs[p]? with
    | none => rw [hh] at hr; simp only [Option.map_none] at hr; rw [hr]; simp
    | some o =>
      cases o with
      | none => rw [hh] at hr; simp only [Option.map_some, logPg] at hr; rw [hr]; simp
      | some l => exact absurd hh (hn l)
/-- A store is opened. -/
structure OpenE (w w' : World) (cb : Nat) (M : CM) (m : Man) (a : Nat) (hand : List Ent) (e : Ending) : Prop where
  ex : ∃ sb S x, e = .returned (.tuple #[.pointer (some ⟨sb, 0, none⟩), .nilIface]) ∧ StoAt w' S sb cb M m a x ∧ x.ns.map Nd.e = hand ∧ Ext w w' ∧ ∀ b ∈ S, b = cb ∨ w.heap.size ≤ b
end Go.Proofs.YtjeinblcpejpnabGreatDoor
