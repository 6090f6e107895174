
/- A page is laid, a block is wiped. -/
import Derived.Test.YtpldeejagomfjaaChpC
import Derived.Deep.RegionHeld3
import Derived.Deep.DrawnRows
namespace Go.Proofs.Ytpldeejagomfjaa
open Go.RowKit
attribute [local go_sem ↓] Go.wp_at_zero Go.wp_at_succ

theorem grow_drew {a b : World} {r : Option Nat} (h : a.grownBy b r) : a.grownBy b.drew r := ⟨h.os, h.tape, h.output, h.size, h.block⟩
theorem Try.size83 : (Try.prog.info? 132).map (·.size) = some 65 := by kernel_rfl

set_option maxRecDepth 100000 in
set_option maxHeartbeats 2000000 in
theorem lay_cells (cb b n : Nat) (P : List Value) (cs : Array Value) (w : World) (hb : b < 24) (hn : n < 8) (hP : P.length = 65) (h1 : ∀ v ∈ P, v.oneCell' = true) (hk : Blk w cb cs 138) (hs : cs.size = 12578) (hnx : cs[b * 524 + 520]? = some (.int .i64 (n : Int))) :
    Calls Try.prog 87 #[.pointer (some ⟨cb, b * 524, none⟩), .agg P.toArray] w fun e w' => e = .returned (.tuple #[]) ∧
      Blk w' cb ((putAt cs (b * 524 + n * 65) P).setIfInBounds (b * 524 + 520) (.int .i64 ((n : Int) + 1))) 138 ∧ w.grownBy w' (some cb) := by
  have hi : (Try.prog.info? 132).map (·.size) = some P.length := by rw [hP]; exact Try.size83
  have hu := Try.underlying132
  have c0 := hk.cell (b * 524 + 520)
  rw [hnx] at c0
  have f0 := hk.free (b * 524 + 520)
  have hn0 : (0 : Int) ≤ (n : Int) := by omega
  have hn8 : (n : Int) < 8 := by omega
  go_enter Try.func87, Try.ntmps87
  go_wp2_with fail
  have hne : ¬ cb = w.heap.size := hk.ne_new
  have S0 : (w.alloc (.cells P.toArray 132)).cell? ⟨cb, b * 524 + 520, none⟩ = some (.int .i64 (n : Int)) := by rw [(hk.alloc _).cell]; exact hnx
  have S1 : (w.alloc (.cells P.toArray 132)).rangeAt w.heap.size 0 P := by
    intro j v hj
    rw [Nat.zero_add, (Blk.new w P.toArray 132).cell]; simpa using hj
  have S2 : (w.alloc (.cells P.toArray 132)).there cb (b * 524 + n * 65) 65 := (hk.alloc _).there (by omega)
  refine wp_region_noPanic ?_
  refine wp_region_held_drew (S := fun w' => w'.cell? ⟨cb, b * 524 + 520, none⟩ = some (.int .i64 (n : Int)) ∧ w'.rangeAt w.heap.size 0 P ∧ w'.there cb (b * 524 + n * 65) 65) (by kernel_rfl) ⟨by simpa using S0, by simpa using S1, by simpa using S2⟩ (fun hHeld => ?_)
  refine wpAnyH_take (i := 0) (oi := { dst := some 4, op := Op.move (Operand.tmp 0), type := 139, pos := "chip.go:184", after := #[], guard := none }) (v := .pointer (some ⟨cb, b * 524, none⟩)) rfl (by kernel_rfl) (by kernel_rfl) (by kernel_rfl) (fun _ _ _ h => h) (Or.inl ⟨by rfl, ?_⟩) hHeld ?_
  · intro w' hS'; go_simp
  simp only [Act.put, List.setIfInBounds_toArray, List.set_cons_zero, List.set_cons_succ]
  refine wpAnyH_take (i := 1) (oi := { dst := some 5, op := Op.move (Operand.tmp 0), type := 139, pos := "chip.go:184", after := #[], guard := none }) (v := .pointer (some ⟨cb, b * 524, none⟩)) rfl (by kernel_rfl) (by kernel_rfl) (by kernel_rfl) (fun _ _ _ h => h) (Or.inl ⟨by rfl, ?_⟩) hHeld ?_
  · intro w' hS'; go_simp
  simp only [Act.put, List.setIfInBounds_toArray, List.set_cons_zero, List.set_cons_succ]
  refine wpAnyH_take (i := 2) (oi := { dst := some 6, op := Op.nilCheck (Operand.tmp 5), type := 0, pos := "chip.go:184", after := #[{ on := 1, ground := Ground.data }], guard := none }) (v := .pointer (some ⟨cb, b * 524, none⟩)) rfl (by kernel_rfl) (by kernel_rfl) (by kernel_rfl) (fun _ _ _ h => h) (Or.inl ⟨by rfl, ?_⟩) hHeld ?_
  · intro w' hS'; go_simp
  simp only [Act.put, List.setIfInBounds_toArray, List.set_cons_zero, List.set_cons_succ]
  refine wpAnyH_take (i := 3) (oi := { dst := some 7, op := Op.fieldAddr 135 (Operand.tmp 6) 1, type := 0, pos := "chip.go:184", after := #[{ on := 2, ground := Ground.data }], guard := none }) (v := .pointer (some ⟨cb, b * 524 + 520, none⟩)) rfl (by kernel_rfl) (by kernel_rfl) (by kernel_rfl) (fun _ _ _ h => h) (Or.inl ⟨by rfl, ?_⟩) hHeld ?_
  · intro w' hS'; go_simp
  simp only [Act.put, List.setIfInBounds_toArray, List.set_cons_zero, List.set_cons_succ]
  refine wpAnyH_take (i := 4) (oi := { dst := some 8, op := Op.load 3 (Operand.tmp 7), type := 3, pos := "chip.go:184", after := #[{ on := 3, ground := Ground.data }], guard := none }) (v := .int .i64 (n : Int)) rfl (by kernel_rfl) (by kernel_rfl) (by kernel_rfl) (fun _ _ _ h => h) (Or.inl ⟨by rfl, ?_⟩) hHeld ?_
  · intro w' hS'; obtain ⟨hS0, _, _⟩ := hS'; go_simp
  simp only [Act.put, List.setIfInBounds_toArray, List.set_cons_zero, List.set_cons_succ]
  refine wpAnyH_take (i := 5) (oi := { dst := some 9, op := Op.load 132 (Operand.tmp 3), type := 132, pos := "chip.go:184", after := #[], guard := none }) (v := .agg P.toArray) rfl (by kernel_rfl) (by kernel_rfl) (by kernel_rfl) (fun _ _ _ h => h) (yieldsIf_load_mid (by rfl) 132 (.tmp 3) rfl w.heap.size 0 rfl P _ (fun w' hS' => hS'.2.1) hu rfl hi) hHeld ?_
  simp only [Act.put, List.setIfInBounds_toArray, List.set_cons_zero, List.set_cons_succ]
  refine wpAnyH_take (i := 6) (oi := { dst := some 10, op := Op.nilCheck (Operand.tmp 4), type := 0, pos := "chip.go:184", after := #[{ on := 0, ground := Ground.data }], guard := none }) (v := .pointer (some ⟨cb, b * 524, none⟩)) rfl (by kernel_rfl) (by kernel_rfl) (by kernel_rfl) (fun _ _ _ h => h) (Or.inl ⟨by rfl, ?_⟩) hHeld ?_
  · intro w' hS'; go_simp
  simp only [Act.put, List.setIfInBounds_toArray, List.set_cons_zero, List.set_cons_succ]
  refine wpAnyH_take (i := 7) (oi := { dst := some 11, op := Op.fieldAddr 135 (Operand.tmp 10) 0, type := 0, pos := "chip.go:184", after := #[{ on := 6, ground := Ground.data }], guard := none }) (v := .pointer (some ⟨cb, b * 524, none⟩)) rfl (by kernel_rfl) (by kernel_rfl) (by kernel_rfl) (fun _ _ _ h => h) (Or.inl ⟨by rfl, ?_⟩) hHeld ?_
  · intro w' hS'; go_simp
  simp only [Act.put, List.setIfInBounds_toArray, List.set_cons_zero, List.set_cons_succ]
  refine wpAnyH_take (i := 8) (oi := { dst := some 12, op := Op.indexAddr 133 (Operand.tmp 11) (Operand.tmp 8), type := 0, pos := "chip.go:184", after := #[{ on := 7, ground := Ground.data }, { on := 4, ground := Ground.data }, { on := 0, ground := Ground.phase }, { on := 1, ground := Ground.phase }, { on := 2, ground := Ground.phase }, { on := 3, ground := Ground.phase }, { on := 4, ground := Ground.phase }, { on := 5, ground := Ground.phase }], guard := none }) (v := .pointer (some ⟨cb, b * 524 + n * 65, none⟩)) rfl (by kernel_rfl) (by kernel_rfl) (by kernel_rfl) (fun _ _ _ h => h) (Or.inl ⟨by rfl, ?_⟩) hHeld ?_
  · intro w' hS'; go_simp
  simp only [Act.put, List.setIfInBounds_toArray, List.set_cons_zero, List.set_cons_succ]
  refine wpAnyH_ready (rs := [9]) (by kernel_rfl) (by simp) ?_
  refine AllReadyH.cons (o := { dst := none, op := Op.store 132 (Operand.tmp 12) (Operand.tmp 9), type := 0, pos := "chip.go:184", after := #[{ on := 8, ground := Ground.data }, { on := 5, ground := Ground.data }, { on := 0, ground := Ground.phase }, { on := 1, ground := Ground.phase }, { on := 2, ground := Ground.phase }, { on := 3, ground := Ground.phase }, { on := 4, ground := Ground.phase }, { on := 5, ground := Ground.phase }], guard := none }) rfl (fun K hK => ?_) AllReadyH.nil
  rw [if_pos (by rfl)]
  refine wp_store_mid 132 (.tmp 12) (.tmp 9) rfl cb (b * 524 + n * 65) P.toArray rfl rfl (by simpa [hP] using hHeld.2.2) (by simpa using hi) (all_oneCell_toArray h1) ?_
  have hkW : Blk ((w.alloc (.cells P.toArray 132)).drew.setCells cb (b * 524 + n * 65) P.toArray.toList) cb (putAt cs (b * 524 + n * 65) P) 138 := by
    have := Blk.setCells P (Blk.drew (hk.alloc (.cells P.toArray 132))) (b * 524 + n * 65)
    simpa using this
  have T0 : ((w.alloc (.cells P.toArray 132)).drew.setCells cb (b * 524 + n * 65) P.toArray.toList).cell? ⟨cb, b * 524 + 520, none⟩ = some (.int .i64 (n : Int)) := by
    rw [hkW.cell, putAt_out _ _ _ _ (by omega)]; exact hnx
  have hgW : w.grownBy ((w.alloc (.cells P.toArray 132)).drew.setCells cb (b * 524 + n * 65) P.toArray.toList) (some cb) := by
    exact grow_trans (grow_drew (grow_alloc w (.cells P.toArray 132) (some cb))) (grow_setCells _ _)
  refine hK.out _ _ ⟨T0, ?_, ?_⟩ (fun _ => ?_)
  · refine World.rangeAt_setCells_apart (by simpa using S1) _ _ _ (.inl (Ne.symm hne))
  · exact World.there_setCells (by simpa using S2) _ _ _
  refine wpAnyH_done (by kernel_rfl) ?_ _
  refine NoPanic.normal ?_
  have T1 := hkW.free (b * 524 + 520)
  simp only [Act.put]
  generalize (w.alloc (.cells P.toArray 132)).drew.setCells cb (b * 524 + n * 65) P.toArray.toList = W at *
  clear S0 S1 S2 hHeld hK hk hnx c0 f0 hi hu
  go_wp2
  go_end0
  exact ⟨rfl, hkW.set _ _, grow_trans hgW (grow_set _ _ _ _)⟩

def pageV (st : Int) : List Value := .int .i64 st :: List.replicate 64 (.int .u8 0)
theorem pageV_len (st : Int) : (pageV st).length = 65 := by simp [pageV]
theorem pageV_one (st : Int) : ∀ v ∈ pageV st, v.oneCell' = true := by
  intro v hv
  simp only [pageV, List.mem_cons, List.mem_replicate] at hv
  rcases hv with rfl | ⟨_, rfl⟩ <;> rfl

def Z83 : Array Value := (pageV 0).toArray
theorem zero83 (w : World) : (zeroValue 132).run Try.prog w = .ok (.agg Z83) w := by kernel_rfl
theorem Z83_ne : (Z83 = #[]) = False := by simp [Z83, pageV]
theorem Z83_set (st : Int) : Z83.setIfInBounds 0 (.int .i64 st) = (pageV st).toArray := by simp [Z83, pageV]

theorem store_run (b o : Nat) (l : List Value) (w : World) (ht : w.there b o l.length) (h1 : ∀ v ∈ l, v.oneCell' = true) : (storeCells ⟨b, o, none⟩ l).run Try.prog w = .ok () (w.setCells b o l) := by
  have := run_storeCells_cells (P := Try.prog) b o l 0 w (fun j hj => by simpa using (ht j hj).1) (fun j hj => by simpa using (ht j hj).2) h1
  simpa using this
/-- Behind k rounds of a wipe. -/
structure Wiped (cs cs' : Array Value) (b k : Nat) (st : Int) : Prop where
  size : cs'.size = cs.size
  out : ∀ i, (i < b * 524 ∨ b * 524 + k * 65 ≤ i) → cs'[i]? = cs[i]?
  ins : ∀ p j, p < k → j < 65 → cs'[b * 524 + p * 65 + j]? = (pageV st)[j]?
set_option maxRecDepth 10000 in
theorem Wiped.step {cs cs' : Array Value} {b k : Nat} {st : Int} (h : Wiped cs cs' b k st) (hk : k < 8) (hb : b < 24) (hs : cs.size = 12578) : Wiped cs (putAt cs' (b * 524 + k * 65) (pageV st)) b (k + 1) st := by
  have hl := pageV_len st
  have hz := h.size
  refine ⟨by rw [putAt_size]; exact h.size, fun i hi => ?_, fun p j hp hj => ?_⟩
  · rw [putAt_out _ _ _ _ (by omega)]; exact h.out i (by omega)
  · by_cases e : p = k
    · subst e
      rw [putAt_in _ _ _ _ (by omega) (by omega)]
    · rw [putAt_out _ _ _ _ (by omega)]; exact h.ins p j (by omega) hj

set_option maxRecDepth 100000 in
set_option maxHeartbeats 2000000 in
theorem wipe_cells (cb b : Nat) (st nx wn : Nat) (cs : Array Value) (w : World) (hb : b < 24) (hwr : wn ≤ 1000000000) (hk : Blk w cb cs 138) (hs : cs.size = 12578)
    (hcw : cs[b * 524 + 521]? = some (.int .i64 (wn : Int))) :
    Calls Try.prog 92 #[.pointer (some ⟨cb, b * 524, none⟩), .int .i64 (st : Int), .int .i64 (nx : Int)] w fun e w' => e = .returned (.tuple #[]) ∧
      ∃ cs', Wiped cs cs' b 8 st ∧ Blk w' cb ((cs'.setIfInBounds (b * 524 + 520) (.int .i64 (nx : Int))).setIfInBounds (b * 524 + 521) (.int .i64 ((wn : Int) + 1))) 138 ∧ w.grownBy w' (some cb) := by
  have z0 := zero83
  have z1 := Z83_ne
  have z2 := Z83_set
  go_enter Try.func92, Try.ntmps92
  go_wp2_with fail
  go_loopw [7] (fun i wx => ∃ (k : Nat) (cs' : Array Value), k ≤ 8 ∧ i = .int .i64 k ∧ Wiped cs cs' b k st ∧ Blk wx cb cs' 138 ∧ w.grownBy wx (some cb)) (fun i _ => 8 - (intOf i).toNat)
  case atStart => exact ⟨0, cs, Nat.zero_le _, rfl, ⟨rfl, fun _ _ => rfl, fun p j hp => absurd hp (Nat.not_lt_zero _)⟩, hk, grow_refl _ _⟩
  case round =>
    obtain ⟨k, cs', hk8, rfl, hw, hkx, hgx⟩ := hrel
    by_cases hlt : k < 8
    · have hlt' : (k : Int) < 8 := by omega
      have hk0 : (0 : Int) ≤ (k : Int) := by omega
      have hth : wr.there cb (b * 524 + k * 65) (pageV (st : Int)).toArray.size := by
        rw [List.size_toArray, pageV_len]; exact hkx.there (by have := hw.size; omega)
      have hw' := hw.step hlt hb hs
      have hkx' := Blk.setCells (pageV (st : Int)) hkx (b * 524 + k * 65)
      have hgx' : w.grownBy (wr.setCells cb (b * 524 + k * 65) (pageV (st : Int))) (some cb) := grow_trans hgx (grow_setCells _ _)
      clear hk hcw hw hkx hgx
      have hsc := store_run cb (b * 524 + k * 65) (pageV (st : Int)) wr (by simpa using hth) (pageV_one _)
      clear hth
      go_wp2
      go_roundw
      case rel => exact ⟨k + 1, _, by omega, by go_num, hw', by simpa using hkx', by simpa using hgx'⟩
      case measure => simp [intOf]; omega
    · have hk88 : k = 8 := by omega
      subst hk88
      have n0 := hkx.cell (b * 524 + 520)
      have n1 := hkx.free (b * 524 + 520)
      have hsz : b * 524 + 520 < cs'.size := by have := hw.size; omega
      rw [Array.getElem?_eq_getElem hsz] at n0
      generalize cs'[b * 524 + 520] = oldn at *
      have m0 := hkx.cell (b * 524 + 521)
      rw [hw.out _ (by omega), hcw] at m0
      have m1 := hkx.free (b * 524 + 521)
      clear hk hcw z0 z1 z2
      go_wp2
      go_end0
      exact ⟨rfl, cs', hw, (hkx.set _ _).set _ _, grow_trans hgx (grow_trans (grow_set _ _ _ _) (grow_set _ _ _ _))⟩

end Go.Proofs.Ytpldeejagomfjaa
