/- ChpD ChpE ChpF ChpG ChpH ChpI ChpJ. -/
import Derived.Test.YtkibgflbidkalaaGreatDoorChpCJ
import Derived.Deep.RegionHeld3
import Derived.Deep.DrawnRows
import Derived.Laws.EntriesVeiled
import Derived.Lib.BufferWrite
import Derived.Lib.UnsafeStr

/- A page is laid, a block is wiped. -/
namespace Go.Proofs.YtkibgflbidkalaaGreatDoor
open Go.RowKit
attribute [local go_sem ↓] Go.wp_at_zero Go.wp_at_succ

theorem grow_drew {a b : World} {r : Option Nat} (h : a.grownBy b r) : a.grownBy b.drew r := ⟨h.os, h.tape, h.output, h.size, h.block⟩
theorem Tryz.size83 : (Tryz.prog.info? 63).map (·.size) = some 65 := by kernel_rfl

set_option maxRecDepth 100000 in
set_option maxHeartbeats 2000000 in
theorem lay_cells (cb b n : Nat) (P : List Value) (cs : Array Value) (w : World) (hb : b < 24) (hn : n < 8) (hP : P.length = 65) (h1 : ∀ v ∈ P, v.oneCell' = true) (hk : Blk w cb cs 70) (hs : cs.size = 12578) (hnx : cs[b * 524 + 520]? = some (.int .i64 (n : Int))) :
    Calls Tryz.prog 115 #[.pointer (some ⟨cb, b * 524, none⟩), .agg P.toArray] w fun e w' => e = .returned (.tuple #[]) ∧
      Blk w' cb ((putAt cs (b * 524 + n * 65) P).setIfInBounds (b * 524 + 520) (.int .i64 ((n : Int) + 1))) 70 ∧ w.grownBy w' (some cb) := by
  have hi : (Tryz.prog.info? 63).map (·.size) = some P.length := by rw [hP]; exact Tryz.size83
  have hu := Tryz.underlying63
  have c0 := hk.cell (b * 524 + 520)
  rw [hnx] at c0
  have f0 := hk.free (b * 524 + 520)
  have hn0 : (0 : Int) ≤ (n : Int) := by omega
  have hn8 : (n : Int) < 8 := by omega
  go_enter Tryz.func115, Tryz.ntmps115
  go_wp2_with fail
  have hne : ¬ cb = w.heap.size := hk.ne_new
  have S0 : (w.alloc (.cells P.toArray 63)).cell? ⟨cb, b * 524 + 520, none⟩ = some (.int .i64 (n : Int)) := by rw [(hk.alloc _).cell]; exact hnx
  have S1 : (w.alloc (.cells P.toArray 63)).rangeAt w.heap.size 0 P := by
    intro j v hj
    rw [Nat.zero_add, (Blk.new w P.toArray 63).cell]; simpa using hj
  have S2 : (w.alloc (.cells P.toArray 63)).there cb (b * 524 + n * 65) 65 := (hk.alloc _).there (by omega)
  refine wp_region_noPanic ?_
  refine wp_region_held_drew (S := fun w' => w'.cell? ⟨cb, b * 524 + 520, none⟩ = some (.int .i64 (n : Int)) ∧ w'.rangeAt w.heap.size 0 P ∧ w'.there cb (b * 524 + n * 65) 65) (by kernel_rfl) ⟨by simpa using S0, by simpa using S1, by simpa using S2⟩ (fun hHeld => ?_)
  refine wpAnyH_take (i := 0) (oi := { dst := some 4, op := Op.move (Operand.tmp 0), type := 101, pos := "chip.go:184", after := #[], guard := none }) (v := .pointer (some ⟨cb, b * 524, none⟩)) rfl (by kernel_rfl) (by kernel_rfl) (by kernel_rfl) (fun _ _ _ h => h) (Or.inl ⟨by rfl, ?_⟩) hHeld ?_
  · intro w' hS'; go_simp
  simp only [Act.put, List.setIfInBounds_toArray, List.set_cons_zero, List.set_cons_succ]
  refine wpAnyH_take (i := 1) (oi := { dst := some 5, op := Op.move (Operand.tmp 0), type := 101, pos := "chip.go:184", after := #[], guard := none }) (v := .pointer (some ⟨cb, b * 524, none⟩)) rfl (by kernel_rfl) (by kernel_rfl) (by kernel_rfl) (fun _ _ _ h => h) (Or.inl ⟨by rfl, ?_⟩) hHeld ?_
  · intro w' hS'; go_simp
  simp only [Act.put, List.setIfInBounds_toArray, List.set_cons_zero, List.set_cons_succ]
  refine wpAnyH_take (i := 2) (oi := { dst := some 6, op := Op.nilCheck (Operand.tmp 5), type := 0, pos := "chip.go:184", after := #[{ on := 1, ground := Ground.data }], guard := none }) (v := .pointer (some ⟨cb, b * 524, none⟩)) rfl (by kernel_rfl) (by kernel_rfl) (by kernel_rfl) (fun _ _ _ h => h) (Or.inl ⟨by rfl, ?_⟩) hHeld ?_
  · intro w' hS'; go_simp
  simp only [Act.put, List.setIfInBounds_toArray, List.set_cons_zero, List.set_cons_succ]
  refine wpAnyH_take (i := 3) (oi := { dst := some 7, op := Op.fieldAddr 66 (Operand.tmp 6) 1, type := 0, pos := "chip.go:184", after := #[{ on := 2, ground := Ground.data }], guard := none }) (v := .pointer (some ⟨cb, b * 524 + 520, none⟩)) rfl (by kernel_rfl) (by kernel_rfl) (by kernel_rfl) (fun _ _ _ h => h) (Or.inl ⟨by rfl, ?_⟩) hHeld ?_
  · intro w' hS'; go_simp
  simp only [Act.put, List.setIfInBounds_toArray, List.set_cons_zero, List.set_cons_succ]
  refine wpAnyH_take (i := 4) (oi := { dst := some 8, op := Op.load 3 (Operand.tmp 7), type := 3, pos := "chip.go:184", after := #[{ on := 3, ground := Ground.data }], guard := none }) (v := .int .i64 (n : Int)) rfl (by kernel_rfl) (by kernel_rfl) (by kernel_rfl) (fun _ _ _ h => h) (Or.inl ⟨by rfl, ?_⟩) hHeld ?_
  · intro w' hS'; obtain ⟨hS0, _, _⟩ := hS'; go_simp
  simp only [Act.put, List.setIfInBounds_toArray, List.set_cons_zero, List.set_cons_succ]
  refine wpAnyH_take (i := 5) (oi := { dst := some 9, op := Op.load 63 (Operand.tmp 3), type := 63, pos := "chip.go:184", after := #[], guard := none }) (v := .agg P.toArray) rfl (by kernel_rfl) (by kernel_rfl) (by kernel_rfl) (fun _ _ _ h => h) (yieldsIf_load_mid (by rfl) 63 (.tmp 3) rfl w.heap.size 0 rfl P _ (fun w' hS' => hS'.2.1) hu rfl hi) hHeld ?_
  simp only [Act.put, List.setIfInBounds_toArray, List.set_cons_zero, List.set_cons_succ]
  refine wpAnyH_take (i := 6) (oi := { dst := some 10, op := Op.nilCheck (Operand.tmp 4), type := 0, pos := "chip.go:184", after := #[{ on := 0, ground := Ground.data }], guard := none }) (v := .pointer (some ⟨cb, b * 524, none⟩)) rfl (by kernel_rfl) (by kernel_rfl) (by kernel_rfl) (fun _ _ _ h => h) (Or.inl ⟨by rfl, ?_⟩) hHeld ?_
  · intro w' hS'; go_simp
  simp only [Act.put, List.setIfInBounds_toArray, List.set_cons_zero, List.set_cons_succ]
  refine wpAnyH_take (i := 7) (oi := { dst := some 11, op := Op.fieldAddr 66 (Operand.tmp 10) 0, type := 0, pos := "chip.go:184", after := #[{ on := 6, ground := Ground.data }], guard := none }) (v := .pointer (some ⟨cb, b * 524, none⟩)) rfl (by kernel_rfl) (by kernel_rfl) (by kernel_rfl) (fun _ _ _ h => h) (Or.inl ⟨by rfl, ?_⟩) hHeld ?_
  · intro w' hS'; go_simp
  simp only [Act.put, List.setIfInBounds_toArray, List.set_cons_zero, List.set_cons_succ]
  refine wpAnyH_take (i := 8) (oi := { dst := some 12, op := Op.indexAddr 64 (Operand.tmp 11) (Operand.tmp 8), type := 0, pos := "chip.go:184", after := #[{ on := 7, ground := Ground.data }, { on := 4, ground := Ground.data }, { on := 0, ground := Ground.phase }, { on := 1, ground := Ground.phase }, { on := 2, ground := Ground.phase }, { on := 3, ground := Ground.phase }, { on := 4, ground := Ground.phase }, { on := 5, ground := Ground.phase }], guard := none }) (v := .pointer (some ⟨cb, b * 524 + n * 65, none⟩)) rfl (by kernel_rfl) (by kernel_rfl) (by kernel_rfl) (fun _ _ _ h => h) (Or.inl ⟨by rfl, ?_⟩) hHeld ?_
  · intro w' hS'; go_simp
  simp only [Act.put, List.setIfInBounds_toArray, List.set_cons_zero, List.set_cons_succ]
  refine wpAnyH_ready (rs := [9]) (by kernel_rfl) (by simp) ?_
  refine AllReadyH.cons (o := { dst := none, op := Op.store 63 (Operand.tmp 12) (Operand.tmp 9), type := 0, pos := "chip.go:184", after := #[{ on := 8, ground := Ground.data }, { on := 5, ground := Ground.data }, { on := 0, ground := Ground.phase }, { on := 1, ground := Ground.phase }, { on := 2, ground := Ground.phase }, { on := 3, ground := Ground.phase }, { on := 4, ground := Ground.phase }, { on := 5, ground := Ground.phase }], guard := none }) rfl (fun K hK => ?_) AllReadyH.nil
  rw [if_pos (by rfl)]
  refine wp_store_mid 63 (.tmp 12) (.tmp 9) rfl cb (b * 524 + n * 65) P.toArray rfl rfl (by simpa [hP] using hHeld.2.2) (by simpa using hi) (all_oneCell_toArray h1) ?_
  have hkW : Blk ((w.alloc (.cells P.toArray 63)).drew.setCells cb (b * 524 + n * 65) P.toArray.toList) cb (putAt cs (b * 524 + n * 65) P) 70 := by
    have := Blk.setCells P (Blk.drew (hk.alloc (.cells P.toArray 63))) (b * 524 + n * 65)
    simpa using this
  have T0 : ((w.alloc (.cells P.toArray 63)).drew.setCells cb (b * 524 + n * 65) P.toArray.toList).cell? ⟨cb, b * 524 + 520, none⟩ = some (.int .i64 (n : Int)) := by
    rw [hkW.cell, putAt_out _ _ _ _ (by omega)]; exact hnx
  have hgW : w.grownBy ((w.alloc (.cells P.toArray 63)).drew.setCells cb (b * 524 + n * 65) P.toArray.toList) (some cb) := by
    exact grow_trans (grow_drew (grow_alloc w (.cells P.toArray 63) (some cb))) (grow_setCells _ _)
  refine hK.out _ _ ⟨T0, ?_, ?_⟩ (fun _ => ?_)
  · refine World.rangeAt_setCells_apart (by simpa using S1) _ _ _ (.inl (Ne.symm hne))
  · exact World.there_setCells (by simpa using S2) _ _ _
  refine wpAnyH_done (by kernel_rfl) ?_ _
  refine NoPanic.normal ?_
  have T1 := hkW.free (b * 524 + 520)
  simp only [Act.put]
  generalize (w.alloc (.cells P.toArray 63)).drew.setCells cb (b * 524 + n * 65) P.toArray.toList = W at *
  clear S0 S1 S2 hHeld hK hk hnx c0 f0 hi hu
  go_wp2
  go_end0
  exact ⟨rfl, hkW.set _ _, grow_trans hgW (grow_set _ _ _ _)⟩

def pageV (st : Int) : List Value := .int .i64 st :: List.replicate 64 (.int .u8 0)
theorem pageV_len (st : Int) : (pageV st).length = 65 := by simp [pageV]
theorem pageV_one (st : Int) : ∀ v ∈ pageV st, v.oneCell' = true := by
  intro v hv
  simp only [pageV, List.mem_cons, List.mem_replicate] at hv
  rcases hv with rfl | ⟨_, rfl⟩ <;> rfl

def Z83 : Array Value := (pageV 0).toArray
theorem zero83 (w : World) : (zeroValue 63).run Tryz.prog w = .ok (.agg Z83) w := by kernel_rfl
theorem Z83_ne : (Z83 = #[]) = False := by simp [Z83, pageV]
theorem Z83_set (st : Int) : Z83.setIfInBounds 0 (.int .i64 st) = (pageV st).toArray := by simp [Z83, pageV]

theorem store_run (b o : Nat) (l : List Value) (w : World) (ht : w.there b o l.length) (h1 : ∀ v ∈ l, v.oneCell' = true) : (storeCells ⟨b, o, none⟩ l).run Tryz.prog w = .ok () (w.setCells b o l) := by
  have := run_storeCells_cells (P := Tryz.prog) b o l 0 w (fun j hj => by simpa using (ht j hj).1) (fun j hj => by simpa using (ht j hj).2) h1
  simpa using this
structure Wiped (cs cs' : Array Value) (b k : Nat) (st : Int) : Prop where
  size : cs'.size = cs.size
  out : ∀ i, (i < b * 524 ∨ b * 524 + k * 65 ≤ i) → cs'[i]? = cs[i]?
  ins : ∀ p j, p < k → j < 65 → cs'[b * 524 + p * 65 + j]? = (pageV st)[j]?
set_option maxRecDepth 10000 in
theorem Wiped.step {cs cs' : Array Value} {b k : Nat} {st : Int} (h : Wiped cs cs' b k st) (hk : k < 8) (hb : b < 24) (hs : cs.size = 12578) : Wiped cs (putAt cs' (b * 524 + k * 65) (pageV st)) b (k + 1) st := by
  have hl := pageV_len st
  have hz := h.size
  refine ⟨by rw [putAt_size]; exact h.size, fun i hi => ?_, fun p j hp hj => ?_⟩
  · rw [putAt_out _ _ _ _ (by omega)]; exact h.out i (by omega)
  · by_cases e : p = k
    · subst e
      rw [putAt_in _ _ _ _ (by omega) (by omega)]
    · rw [putAt_out _ _ _ _ (by omega)]; exact h.ins p j (by omega) hj

set_option maxRecDepth 100000 in
set_option maxHeartbeats 2000000 in
theorem wipe_cells (cb b : Nat) (st nx wn : Nat) (cs : Array Value) (w : World) (hb : b < 24) (hwr : wn ≤ 1000000000) (hk : Blk w cb cs 70) (hs : cs.size = 12578)
    (hcw : cs[b * 524 + 521]? = some (.int .i64 (wn : Int))) :
    Calls Tryz.prog 47 #[.pointer (some ⟨cb, b * 524, none⟩), .int .i64 (st : Int), .int .i64 (nx : Int)] w fun e w' => e = .returned (.tuple #[]) ∧
      ∃ cs', Wiped cs cs' b 8 st ∧ Blk w' cb ((cs'.setIfInBounds (b * 524 + 520) (.int .i64 (nx : Int))).setIfInBounds (b * 524 + 521) (.int .i64 ((wn : Int) + 1))) 70 ∧ w.grownBy w' (some cb) := by
  have z0 := zero83
  have z1 := Z83_ne
  have z2 := Z83_set
  go_enter Tryz.func47, Tryz.ntmps47
  go_wp2_with fail
  go_loopw [7] (fun i wx => ∃ (k : Nat) (cs' : Array Value), k ≤ 8 ∧ i = .int .i64 k ∧ Wiped cs cs' b k st ∧ Blk wx cb cs' 70 ∧ w.grownBy wx (some cb)) (fun i _ => 8 - (intOf i).toNat)
  case atStart => exact ⟨0, cs, Nat.zero_le _, rfl, ⟨rfl, fun _ _ => rfl, fun p j hp => absurd hp (Nat.not_lt_zero _)⟩, hk, grow_refl _ _⟩
  case round =>
    obtain ⟨k, cs', hk8, rfl, hw, hkx, hgx⟩ := hrel
    by_cases hlt : k < 8
    · have hlt' : (k : Int) < 8 := by omega
      have hk0 : (0 : Int) ≤ (k : Int) := by omega
      have hth : wr.there cb (b * 524 + k * 65) (pageV (st : Int)).toArray.size := by
        rw [List.size_toArray, pageV_len]; exact hkx.there (by have := hw.size; omega)
      have hw' := hw.step hlt hb hs
      have hkx' := Blk.setCells (pageV (st : Int)) hkx (b * 524 + k * 65)
      have hgx' : w.grownBy (wr.setCells cb (b * 524 + k * 65) (pageV (st : Int))) (some cb) := grow_trans hgx (grow_setCells _ _)
      clear hk hcw hw hkx hgx
      have hsc := store_run cb (b * 524 + k * 65) (pageV (st : Int)) wr (by simpa using hth) (pageV_one _)
      clear hth
      go_wp2
      go_roundw
      case rel => exact ⟨k + 1, _, by omega, by go_num, hw', by simpa using hkx', by simpa using hgx'⟩
      case measure => simp [intOf]; omega
    · have hk88 : k = 8 := by omega
      subst hk88
      have n0 := hkx.cell (b * 524 + 520)
      have n1 := hkx.free (b * 524 + 520)
      have hsz : b * 524 + 520 < cs'.size := by have := hw.size; omega
      rw [Array.getElem?_eq_getElem hsz] at n0
      generalize cs'[b * 524 + 520] = oldn at *
      have m0 := hkx.cell (b * 524 + 521)
      rw [hw.out _ (by omega), hcw] at m0
      have m1 := hkx.free (b * 524 + 521)
      clear hk hcw z0 z1 z2
      go_wp2
      go_end0
      exact ⟨rfl, cs', hw, (hkx.set _ _).set _ _, grow_trans hgx (grow_trans (grow_set _ _ _ _) (grow_set _ _ _ _))⟩

end Go.Proofs.YtkibgflbidkalaaGreatDoor

/- What becomes of a step: the closures. -/
namespace Go.Proofs.YtkibgflbidkalaaGreatDoor
open Go.RowKit

def CellsAt (w : World) (cb : Nat) (M : CM) : Prop := ∃ cs fv, Blk w cb cs 70 ∧ Rep cs M fv ∧ FellAt w cb M.pend fv

def layM (M : CM) (b : Nat) (p : Pg) : CM := { M with pg := upd M.pg b (M.pg b ++ [p]) }
def wipeM (M : CM) (b : Nat) (l : List Pg) : CM := { M with pg := upd M.pg b l, wr := upd M.wr b (M.wr b + 1) }

set_option maxRecDepth 10000 in
theorem Rep.lay {cs : Array Value} {M : CM} {fv : Value} (h : Rep cs M fv) {b : Nat} (hb : b < 24) (p : Pg) (hl : (M.pg b).length < 8) (hp : ∀ d, p = .whole d → d.length = 64) :
    Rep ((putAt cs (b * 524 + (M.pg b).length * 65) (pgCells p)).setIfInBounds (b * 524 + 520) (.int .i64 (((M.pg b).length : Int) + 1))) (layM M b p) fv := by
  have hs := h.size
  have hlen : (pgCells p).length = 65 := by
    cases p with
    | whole d => simp [pgCells, hp d rfl]
    | torn => simp [pgCells]
  have := h.block (cs' := (putAt cs (b * 524 + (M.pg b).length * 65) (pgCells p)).setIfInBounds (b * 524 + 520) (.int .i64 (((M.pg b).length : Int) + 1))) hb (by simp [putAt_size])
    (fun i hi => by rw [Array.getElem?_setIfInBounds_ne (by omega), putAt_out _ _ _ _ (by rw [hlen]; omega)]) ((h.blk b hb).lay (by omega) p hl hp)
  simpa only [upd_id, layM] using this

set_option maxRecDepth 10000 in
theorem BRep.wipe {cs cs' : Array Value} {b : Nat} {l l' : List Pg} {wr : Nat} {wk bd : Bool} {st : Int} (h : BRep cs b l wr wk bd) (hw : Wiped cs cs' b 8 st) (hs : b * 524 + 524 ≤ cs.size) (hst : ∀ p, p < 8 → stOf l' p = st) (hl : l'.length ≤ 8) (hno : ∀ (p : Nat) (d : List UInt8), ¬ l'[p]? = some (Pg.whole d)) :
    BRep ((cs'.setIfInBounds (b * 524 + 520) (.int .i64 (l'.length : Int))).setIfInBounds (b * 524 + 521) (.int .i64 ((wr : Int) + 1))) b l' (wr + 1) wk bd := by
  have hz := hw.size
  refine ⟨fun p hp => ?_, fun p d _ hd => absurd hd (hno p d), ?_, ?_, ?_, ?_, hl, fun p d hd => absurd hd (hno p d)⟩
  · rw [Array.getElem?_setIfInBounds_ne (by omega), Array.getElem?_setIfInBounds_ne (by omega)]
    have := hw.ins p 0 hp (by omega)
    rw [Nat.add_zero] at this
    rw [this, hst p hp]; rfl
  · rw [Array.getElem?_setIfInBounds_ne (by omega), Array.getElem?_setIfInBounds_self_of_lt (by omega)]
  · rw [Array.getElem?_setIfInBounds_self_of_lt (by simp; omega)]; simp
  · rw [Array.getElem?_setIfInBounds_ne (by omega), Array.getElem?_setIfInBounds_ne (by omega), hw.out _ (by omega)]; exact h.cwk
  · rw [Array.getElem?_setIfInBounds_ne (by omega), Array.getElem?_setIfInBounds_ne (by omega), hw.out _ (by omega)]; exact h.cbd
set_option maxRecDepth 10000 in
theorem Rep.wipe {cs cs' : Array Value} {M : CM} {fv : Value} (h : Rep cs M fv) {b : Nat} (hb : b < 24) {st : Int} {l' : List Pg} (hw : Wiped cs cs' b 8 st) (hst : ∀ p, p < 8 → stOf l' p = st) (hl : l'.length ≤ 8) (hno : ∀ (p : Nat) (d : List UInt8), ¬ l'[p]? = some (Pg.whole d)) :
    Rep ((cs'.setIfInBounds (b * 524 + 520) (.int .i64 (l'.length : Int))).setIfInBounds (b * 524 + 521) (.int .i64 ((M.wr b : Int) + 1))) (wipeM M b l') fv := by
  have hs := h.size
  have hz := hw.size
  have := h.block (cs' := (cs'.setIfInBounds (b * 524 + 520) (.int .i64 (l'.length : Int))).setIfInBounds (b * 524 + 521) (.int .i64 ((M.wr b : Int) + 1))) hb (by simp [hz])
    (fun i hi => by rw [Array.getElem?_setIfInBounds_ne (by omega), Array.getElem?_setIfInBounds_ne (by omega), hw.out _ (by omega)]) ((h.blk b hb).wipe hw (by omega) hst hl hno)
  simpa only [upd_id, wipeM] using this

theorem pgCells_len (p : Pg) (hp : ∀ d, p = .whole d → d.length = 64) : (pgCells p).length = 65 := by
  cases p with
  | whole d => simp [pgCells, hp d rfl]
  | torn => simp [pgCells]
theorem pgCells_one (p : Pg) : ∀ v ∈ pgCells p, v.oneCell' = true := by
  intro v hv
  cases p with
  | whole d =>
    simp only [pgCells, List.mem_cons, List.mem_map] at hv
    rcases hv with rfl | ⟨x, _, rfl⟩ <;> rfl
  | torn => exact pageV_one 2 v hv

theorem lay_any (cb b : Nat) (M : CM) (p : Pg) (w : World) (hb : b < 24) (hl : (M.pg b).length < 8) (hp : ∀ d, p = .whole d → d.length = 64) (h : CellsAt w cb M) :
    Calls Tryz.prog 115 #[.pointer (some ⟨cb, b * 524, none⟩), .agg (pgCells p).toArray] w fun e w' => e = .returned (.tuple #[]) ∧ CellsAt w' cb (layM M b p) ∧ w.grownBy w' (some cb) := by
  obtain ⟨cs, fv, h1, h2, h3⟩ := h
  refine (lay_cells cb b (M.pg b).length (pgCells p) cs w hb hl (pgCells_len p hp) (pgCells_one p) h1 h2.size (h2.blk b hb).nx).mono ?_
  rintro e w' ⟨rfl, hk, hg⟩
  exact ⟨rfl, ⟨_, fv, hk, h2.lay hb p hl hp, h3.grown hg⟩, hg⟩
theorem wipe_any (cb b : Nat) (M : CM) (l' : List Pg) (st : Nat) (w : World) (hb : b < 24) (hwr : M.wr b ≤ 1000000000) (hst : ∀ p, p < 8 → stOf l' p = st) (hl : l'.length ≤ 8) (hno : ∀ (p : Nat) (d : List UInt8), ¬ l'[p]? = some (Pg.whole d)) (h : CellsAt w cb M) :
    Calls Tryz.prog 47 #[.pointer (some ⟨cb, b * 524, none⟩), .int .i64 (st : Int), .int .i64 (l'.length : Int)] w fun e w' => e = .returned (.tuple #[]) ∧ CellsAt w' cb (wipeM M b l') ∧ w.grownBy w' (some cb) := by
  obtain ⟨cs, fv, h1, h2, h3⟩ := h
  refine (wipe_cells cb b st l'.length (M.wr b) cs w hb hwr h1 h2.size (h2.blk b hb).cwr).mono ?_
  rintro e w' ⟨rfl, cs', hw, hk, hg⟩
  exact ⟨rfl, ⟨_, fv, hk, h2.wipe hb hw hst hl hno, h3.grown hg⟩, hg⟩
theorem wipe_blank (cb b : Nat) (M : CM) (w : World) (hb : b < 24) (hwr : M.wr b ≤ 1000000000) (h : CellsAt w cb M) :
    Calls Tryz.prog 47 #[.pointer (some ⟨cb, b * 524, none⟩), .int .i64 0, .int .i64 0] w fun e w' => e = .returned (.tuple #[]) ∧ CellsAt w' cb (wipeM M b []) ∧ w.grownBy w' (some cb) :=
  wipe_any cb b M [] 0 w hb hwr (fun _ _ => rfl) (by simp) (by simp) h
theorem torn8 (p : Nat) (hp : p < 8) : (List.replicate 8 Pg.torn)[p]? = some Pg.torn := by rw [List.getElem?_replicate, if_pos hp]
theorem torn_no (p : Nat) (d : List UInt8) (he : (List.replicate 8 Pg.torn)[p]? = some (Pg.whole d)) : False := by
  rcases Nat.lt_or_ge p 8 with h1 | h1
  · rw [torn8 p h1] at he; cases he
  · rw [List.getElem?_eq_none (by simpa using h1)] at he; cases he
theorem wipe_torn (cb b : Nat) (M : CM) (w : World) (hb : b < 24) (hwr : M.wr b ≤ 1000000000) (h : CellsAt w cb M) :
    Calls Tryz.prog 47 #[.pointer (some ⟨cb, b * 524, none⟩), .int .i64 2, .int .i64 8] w fun e w' => e = .returned (.tuple #[]) ∧ CellsAt w' cb (wipeM M b (List.replicate 8 Pg.torn)) ∧ w.grownBy w' (some cb) :=
  wipe_any cb b M (List.replicate 8 Pg.torn) 2 w hb hwr (fun p hp => by unfold stOf; rw [torn8 p hp]; rfl) (by simp) (fun p d he => torn_no p d he) h

set_option maxRecDepth 100000 in
set_option maxHeartbeats 1000000 in
theorem write1_any (cb b kb pb : Nat) (M : CM) (d : List UInt8) (w : World) (hb : b < 24) (hl : (M.pg b).length < 8) (hd : d.length = 64) (h : CellsAt w cb M)
    (hk : Blk w kb #[.pointer (some ⟨cb, b * 524, none⟩)] 101) (hp : Blk w pb (pgCells (.whole d)).toArray 63) :
    Calls Tryz.prog 114 #[.pointer (some ⟨kb, 0, none⟩), .pointer (some ⟨pb, 0, none⟩)] w fun e w' => e = .returned (.tuple #[]) ∧ CellsAt w' cb (layM M b (.whole d)) ∧ w.grownBy w' (some cb) := by
  have c0 := hk.cell 0
  simp only [List.getElem?_toArray, List.getElem?_cons_zero] at c0
  have hr : w.rangeAt pb 0 (pgCells (.whole d)) := by
    intro j v hj
    rw [Nat.zero_add, hp.cell]; simpa using hj
  have HI : Hid ((Tryz.prog.info? 63).map (·.size) = some (pgCells (.whole d)).length) := by
    unfold Hid; rw [pgCells_len _ (by intro d' e; cases e; exact hd)]; exact Tryz.size83
  clear hk hp
  go_enter Tryz.func114, Tryz.ntmps114
  go_wp2_with (first
    | (refine wpList_load_mid rfl 63 (.tmp 1) rfl pb 0 (by rfl) (pgCells (.whole d)) _ hr Tryz.underlying63 rfl HI.out ?_)
    | (go_at_call 115; refine (lay_any cb b M (.whole d) _ hb hl (by intro d' e; cases e; exact hd) h).mono ?_; rintro e w' ⟨rfl, hc, hg⟩))
  go_end0
  exact ⟨rfl, hc, hg⟩

set_option maxRecDepth 100000 in
set_option maxHeartbeats 1000000 in
theorem write2_any (cb b kb : Nat) (M : CM) (w : World) (hb : b < 24) (hl : (M.pg b).length < 8) (h : CellsAt w cb M)
    (hk : Blk w kb #[.pointer (some ⟨cb, b * 524, none⟩)] 101) :
    Calls Tryz.prog 116 #[.pointer (some ⟨kb, 0, none⟩)] w fun e w' => e = .returned (.tuple #[]) ∧ CellsAt w' cb (layM M b .torn) ∧ w.grownBy w' (some cb) := by
  have c0 := hk.cell 0
  simp only [List.getElem?_toArray, List.getElem?_cons_zero] at c0
  have z0 := zero83
  have z1 := Z83_ne
  have z2 := Z83_set 2
  have hlay := lay_any cb b M .torn w hb hl (by intro d e; cases e) h
  have HL : Hid (Calls Tryz.prog 115 #[.pointer (some ⟨cb, b * 524, none⟩), .agg (pageV 2).toArray] w fun e w' => e = .returned (.tuple #[]) ∧ CellsAt w' cb (layM M b .torn) ∧ w.grownBy w' (some cb)) := hlay
  clear hk hlay
  go_enter Tryz.func116, Tryz.ntmps116
  go_wp2_with (go_at_call 115; refine HL.out.mono ?_; rintro e w' ⟨rfl, hc, hg⟩)
  go_end0
  exact ⟨rfl, hc, hg⟩
set_option maxRecDepth 100000 in
set_option maxHeartbeats 1000000 in
theorem erase1_any (cb b kb : Nat) (M : CM) (w : World) (hb : b < 24) (hwr : M.wr b ≤ 1000000000) (h : CellsAt w cb M)
    (hk : Blk w kb #[.pointer (some ⟨cb, b * 524, none⟩)] 101) :
    Calls Tryz.prog 46 #[.pointer (some ⟨kb, 0, none⟩)] w fun e w' => e = .returned (.tuple #[]) ∧ CellsAt w' cb (wipeM M b []) ∧ w.grownBy w' (some cb) := by
  have c0 := hk.cell 0
  simp only [List.getElem?_toArray, List.getElem?_cons_zero] at c0
  clear hk
  go_enter Tryz.func46, Tryz.ntmps46
  go_wp2_with (go_at_call 47; refine (wipe_blank cb b M _ hb hwr h).mono ?_; rintro e w' ⟨rfl, hc, hg⟩)
  go_end0
  exact ⟨rfl, hc, hg⟩
set_option maxRecDepth 100000 in
set_option maxHeartbeats 1000000 in
theorem erase2_any (cb b kb : Nat) (M : CM) (w : World) (hb : b < 24) (hwr : M.wr b ≤ 1000000000) (h : CellsAt w cb M)
    (hk : Blk w kb #[.pointer (some ⟨cb, b * 524, none⟩)] 101) :
    Calls Tryz.prog 48 #[.pointer (some ⟨kb, 0, none⟩)] w fun e w' => e = .returned (.tuple #[]) ∧ CellsAt w' cb (wipeM M b (List.replicate 8 Pg.torn)) ∧ w.grownBy w' (some cb) := by
  have c0 := hk.cell 0
  simp only [List.getElem?_toArray, List.getElem?_cons_zero] at c0
  clear hk
  go_enter Tryz.func48, Tryz.ntmps48
  go_wp2_with (go_at_call 47; refine (wipe_torn cb b M _ hb hwr h).mono ?_; rintro e w' ⟨rfl, hc, hg⟩)
  go_end0
  exact ⟨rfl, hc, hg⟩

end Go.Proofs.YtkibgflbidkalaaGreatDoor

/- A step is done, or the machine falls in it; Restart. -/
namespace Go.Proofs.YtkibgflbidkalaaGreatDoor
open Go.RowKit

def doneM (M : CM) : Pend → CM
  | .write b d => layM M b (.whole d)
  | .erase b => wipeM M b []
def halfM (M : CM) : Pend → CM
  | .write b _ => layM M b .torn
  | .erase b => wipeM M b (List.replicate 8 Pg.torn)
def tickM (M : CM) : CM := if 0 < M.left then { M with left := M.left - 1 } else M
def WrOk (M : CM) : Prop := ∀ b, b < 24 → M.wr b ≤ 1000000000

theorem CellsAt.left {w : World} {cb : Nat} {M : CM} (h : CellsAt w cb M) : w.cell? ⟨cb, 12576, none⟩ = some (.int .i64 M.left) ∧ w.frozen? ⟨cb, 12576, none⟩ = false := by
  obtain ⟨cs, fv, h1, h2, _⟩ := h
  exact ⟨by rw [h1.cell]; exact h2.left, h1.free _⟩
theorem CellsAt.fell {w : World} {cb : Nat} {M : CM} (h : CellsAt w cb M) : (∃ v, w.cell? ⟨cb, 12577, none⟩ = some v) ∧ w.frozen? ⟨cb, 12577, none⟩ = false := by
  obtain ⟨cs, fv, h1, h2, _⟩ := h
  exact ⟨⟨fv, by rw [h1.cell]; exact h2.fell⟩, h1.free _⟩
theorem CellsAt.lt {w : World} {cb : Nat} {M : CM} (h : CellsAt w cb M) : cb < w.heap.size := by
  obtain ⟨cs, fv, h1, _⟩ := h
  exact h1.lt
theorem CellsAt.ext {w w' : World} {cb : Nat} {M : CM} (h : CellsAt w cb M) (hx : Ext w w') : CellsAt w' cb M := by
  obtain ⟨cs, fv, h1, h2, h3⟩ := h
  exact ⟨cs, fv, h1.ext hx, h2, h3.grown (grow_ext hx _)⟩
theorem CellsAt.setLeft {w : World} {cb : Nat} {M : CM} (h : CellsAt w cb M) (n : Int) : CellsAt (w.setCell ⟨cb, 12576, none⟩ (.int .i64 n)) cb { M with left := n } := by
  obtain ⟨cs, fv, h1, h2, h3⟩ := h
  exact ⟨_, fv, h1.set _ _, h2.setLeft n, h3.grown (grow_set _ _ _ _)⟩
theorem CellsAt.setFell {w : World} {cb : Nat} {M : CM} (h : CellsAt w cb M) (v : Value) (p : Option Pend) (hf : FellAt (w.setCell ⟨cb, 12577, none⟩ v) cb p v) : CellsAt (w.setCell ⟨cb, 12577, none⟩ v) cb { M with pend := p } := by
  obtain ⟨cs, fv, h1, h2, h3⟩ := h
  exact ⟨_, v, h1.set _ _, h2.setFell v p, hf⟩

set_option maxRecDepth 100000 in
set_option maxHeartbeats 1000000 in
theorem step_fall (cb f1 f2 : Nat) (c1 c2 : Array Value) (M : CM) (w : World) (h : CellsAt w cb M) (hl : M.left = 0) :
    Calls Tryz.prog 45 #[.pointer (some ⟨cb, 0, none⟩), .func (.func f1) #[] c1, .func (.func f2) #[] c2] w fun e w' => e = .returned (.iface 39 (.int .i64 9)) ∧
      w' = ((w.setCell ⟨cb, 12577, none⟩ (fellV w.heap.size (w.heap.size + 1))).alloc (.cells #[.func (.func f1) #[] c1] 1)).alloc (.cells #[.func (.func f2) #[] c2] 1) := by
  obtain ⟨c0, _⟩ := h.left
  rw [hl] at c0
  obtain ⟨⟨fv, c1'⟩, f1'⟩ := h.fell
  have hlt := h.lt
  have hx : Ext w ((w.alloc (.cells #[.func (.func f1) #[] c1] 1)).alloc (.cells #[.func (.func f2) #[] c2] 1)) := ((Ext.refl w).alloc _).alloc _
  have G1 := (h.ext hx).fell.2
  have G0 := hx.cell c1'
  clear h hl hx f1' c1'
  go_enter Tryz.func45, Tryz.ntmps45
  go_wp2
  go_ret
  exact ⟨rfl, rfl⟩

set_option maxRecDepth 100000 in
set_option maxHeartbeats 1000000 in
theorem step_go46 (cb f2 : Nat) (c1 c2 : Array Value) (M M' : CM) (w : World) (h : CellsAt w cb M) (hl : ¬ M.left = 0) (hub : M.left ≤ 9223372036854775807)
    (hf : ∀ W, w.grownBy W (some cb) → CellsAt W cb (tickM M) → Calls Tryz.prog 114 c1 W fun e w' => e = .returned (.tuple #[]) ∧ CellsAt w' cb M' ∧ W.grownBy w' (some cb)) :
    Calls Tryz.prog 45 #[.pointer (some ⟨cb, 0, none⟩), .func (.func 114) #[] c1, .func (.func f2) #[] c2] w fun e w' => e = .returned .nilIface ∧ CellsAt w' cb M' ∧ w.grownBy w' (some cb) := by
  have hlt := h.lt
  have hne : ¬ w.heap.size = cb := by omega
  obtain ⟨G0, G1⟩ := h.left
  have hlz : (M.left == 0) = false := by simpa using hl
  by_cases hpos : 0 < M.left
  · have HT : Hid (tickM M = { M with left := M.left - 1 }) := by unfold tickM Hid; rw [if_pos hpos]
    have hx : Ext (w.setCell ⟨cb, 12576, none⟩ (.int .i64 (M.left - 1))) (((w.setCell ⟨cb, 12576, none⟩ (.int .i64 (M.left - 1))).alloc (.cells #[.func (.func 114) #[] c1] 1)).alloc (.cells #[.func (.func f2) #[] c2] 1)) := ((Ext.refl _).alloc _).alloc _
    have hc3 := (h.setLeft (M.left - 1)).ext hx
    have hg3 := grow_trans (grow_set w cb 12576 (.int .i64 (M.left - 1))) (grow_ext hx (some cb))
    have HC : Hid (Calls Tryz.prog 114 c1 (((w.setCell ⟨cb, 12576, none⟩ (.int .i64 (M.left - 1))).alloc (.cells #[.func (.func 114) #[] c1] 1)).alloc (.cells #[.func (.func f2) #[] c2] 1)) fun e w' => e = .returned (.tuple #[]) ∧ CellsAt w' cb M' ∧ World.grownBy (((w.setCell ⟨cb, 12576, none⟩ (.int .i64 (M.left - 1))).alloc (.cells #[.func (.func 114) #[] c1] 1)).alloc (.cells #[.func (.func f2) #[] c2] 1)) w' (some cb)) := hf _ hg3 (by rw [HT.out]; exact hc3)
    have HG : Hid (w.grownBy (((w.setCell ⟨cb, 12576, none⟩ (.int .i64 (M.left - 1))).alloc (.cells #[.func (.func 114) #[] c1] 1)).alloc (.cells #[.func (.func f2) #[] c2] 1)) (some cb)) := hg3
    clear hf h hc3 hx hl hg3 HT
    generalize M.left = lf at *
    go_enter Tryz.func45, Tryz.ntmps45
    go_wp2_with (go_at_call 114; refine HC.out.mono ?_; rintro e w' ⟨rfl, hc4, hg4⟩)
    go_ret
    exact ⟨rfl, hc4, grow_trans HG.out hg4⟩
  · have HT : Hid (tickM M = M) := by unfold tickM Hid; rw [if_neg hpos]
    have hx : Ext w ((w.alloc (.cells #[.func (.func 114) #[] c1] 1)).alloc (.cells #[.func (.func f2) #[] c2] 1)) := ((Ext.refl _).alloc _).alloc _
    have hc3 := h.ext hx
    have hg3 := grow_ext hx (some cb)
    have HC : Hid (Calls Tryz.prog 114 c1 ((w.alloc (.cells #[.func (.func 114) #[] c1] 1)).alloc (.cells #[.func (.func f2) #[] c2] 1)) fun e w' => e = .returned (.tuple #[]) ∧ CellsAt w' cb M' ∧ World.grownBy ((w.alloc (.cells #[.func (.func 114) #[] c1] 1)).alloc (.cells #[.func (.func f2) #[] c2] 1)) w' (some cb)) := hf _ hg3 (by rw [HT.out]; exact hc3)
    have HG : Hid (w.grownBy ((w.alloc (.cells #[.func (.func 114) #[] c1] 1)).alloc (.cells #[.func (.func f2) #[] c2] 1)) (some cb)) := hg3
    clear hf h hc3 hx hl hg3 HT
    generalize M.left = lf at *
    go_enter Tryz.func45, Tryz.ntmps45
    go_wp2_with (go_at_call 114; refine HC.out.mono ?_; rintro e w' ⟨rfl, hc4, hg4⟩)
    go_ret
    exact ⟨rfl, hc4, grow_trans HG.out hg4⟩

set_option maxRecDepth 100000 in
set_option maxHeartbeats 1000000 in
theorem step_go51 (cb f2 : Nat) (c1 c2 : Array Value) (M M' : CM) (w : World) (h : CellsAt w cb M) (hl : ¬ M.left = 0) (hub : M.left ≤ 9223372036854775807)
    (hf : ∀ W, w.grownBy W (some cb) → CellsAt W cb (tickM M) → Calls Tryz.prog 46 c1 W fun e w' => e = .returned (.tuple #[]) ∧ CellsAt w' cb M' ∧ W.grownBy w' (some cb)) :
    Calls Tryz.prog 45 #[.pointer (some ⟨cb, 0, none⟩), .func (.func 46) #[] c1, .func (.func f2) #[] c2] w fun e w' => e = .returned .nilIface ∧ CellsAt w' cb M' ∧ w.grownBy w' (some cb) := by
  have hlt := h.lt
  have hne : ¬ w.heap.size = cb := by omega
  obtain ⟨G0, G1⟩ := h.left
  have hlz : (M.left == 0) = false := by simpa using hl
  by_cases hpos : 0 < M.left
  · have HT : Hid (tickM M = { M with left := M.left - 1 }) := by unfold tickM Hid; rw [if_pos hpos]
    have hx : Ext (w.setCell ⟨cb, 12576, none⟩ (.int .i64 (M.left - 1))) (((w.setCell ⟨cb, 12576, none⟩ (.int .i64 (M.left - 1))).alloc (.cells #[.func (.func 46) #[] c1] 1)).alloc (.cells #[.func (.func f2) #[] c2] 1)) := ((Ext.refl _).alloc _).alloc _
    have hc3 := (h.setLeft (M.left - 1)).ext hx
    have hg3 := grow_trans (grow_set w cb 12576 (.int .i64 (M.left - 1))) (grow_ext hx (some cb))
    have HC : Hid (Calls Tryz.prog 46 c1 (((w.setCell ⟨cb, 12576, none⟩ (.int .i64 (M.left - 1))).alloc (.cells #[.func (.func 46) #[] c1] 1)).alloc (.cells #[.func (.func f2) #[] c2] 1)) fun e w' => e = .returned (.tuple #[]) ∧ CellsAt w' cb M' ∧ World.grownBy (((w.setCell ⟨cb, 12576, none⟩ (.int .i64 (M.left - 1))).alloc (.cells #[.func (.func 46) #[] c1] 1)).alloc (.cells #[.func (.func f2) #[] c2] 1)) w' (some cb)) := hf _ hg3 (by rw [HT.out]; exact hc3)
    have HG : Hid (w.grownBy (((w.setCell ⟨cb, 12576, none⟩ (.int .i64 (M.left - 1))).alloc (.cells #[.func (.func 46) #[] c1] 1)).alloc (.cells #[.func (.func f2) #[] c2] 1)) (some cb)) := hg3
    clear hf h hc3 hx hl hg3 HT
    generalize M.left = lf at *
    go_enter Tryz.func45, Tryz.ntmps45
    go_wp2_with (go_at_call 46; refine HC.out.mono ?_; rintro e w' ⟨rfl, hc4, hg4⟩)
    go_ret
    exact ⟨rfl, hc4, grow_trans HG.out hg4⟩
  · have HT : Hid (tickM M = M) := by unfold tickM Hid; rw [if_neg hpos]
    have hx : Ext w ((w.alloc (.cells #[.func (.func 46) #[] c1] 1)).alloc (.cells #[.func (.func f2) #[] c2] 1)) := ((Ext.refl _).alloc _).alloc _
    have hc3 := h.ext hx
    have hg3 := grow_ext hx (some cb)
    have HC : Hid (Calls Tryz.prog 46 c1 ((w.alloc (.cells #[.func (.func 46) #[] c1] 1)).alloc (.cells #[.func (.func f2) #[] c2] 1)) fun e w' => e = .returned (.tuple #[]) ∧ CellsAt w' cb M' ∧ World.grownBy ((w.alloc (.cells #[.func (.func 46) #[] c1] 1)).alloc (.cells #[.func (.func f2) #[] c2] 1)) w' (some cb)) := hf _ hg3 (by rw [HT.out]; exact hc3)
    have HG : Hid (w.grownBy ((w.alloc (.cells #[.func (.func 46) #[] c1] 1)).alloc (.cells #[.func (.func f2) #[] c2] 1)) (some cb)) := hg3
    clear hf h hc3 hx hl hg3 HT
    generalize M.left = lf at *
    go_enter Tryz.func45, Tryz.ntmps45
    go_wp2_with (go_at_call 46; refine HC.out.mono ?_; rintro e w' ⟨rfl, hc4, hg4⟩)
    go_ret
    exact ⟨rfl, hc4, grow_trans HG.out hg4⟩

end Go.Proofs.YtkibgflbidkalaaGreatDoor

/- Restart. -/
namespace Go.Proofs.YtkibgflbidkalaaGreatDoor
open Go.RowKit

def stepped (M : CM) (p : Pend) (how : Int) : CM := if how = 2 then doneM M p else if how = 1 then halfM M p else M
def restartM (M : CM) (how : Int) : CM := match M.pend with
  | none => { M with left := -1, pend := none }
  | some p => { stepped M p how with left := -1, pend := none }

set_option maxRecDepth 100000 in
set_option maxHeartbeats 1000000 in
theorem fell_none (b1 b2 : Nat) (how : Int) (w : World) (h1 : ¬ how = 1) (h2 : ¬ how = 2) :
    Calls Tryz.prog 79 #[.int .i64 how, .pointer (some ⟨b1, 0, none⟩), .pointer (some ⟨b2, 0, none⟩)] w fun e w' => e = .returned (.tuple #[]) ∧ w' = w := by
  have h1' : (how == 1) = false := by simpa using h1
  have h2' : (how == 2) = false := by simpa using h2
  clear h1 h2
  go_enter Tryz.func79, Tryz.ntmps79
  go_wp2
  go_end0
  exact ⟨rfl, rfl⟩

set_option maxRecDepth 100000 in
set_option maxHeartbeats 1000000 in
theorem fell_46 (cb b1 b2 : Nat) (c : Array Value) (M' : CM) (w : World) (hb : Blk w b1 #[.func (.func 114) #[] c] 1)
    (hf : Calls Tryz.prog 114 c w fun e w' => e = .returned (.tuple #[]) ∧ CellsAt w' cb M' ∧ w.grownBy w' (some cb)) :
    Calls Tryz.prog 79 #[.int .i64 2, .pointer (some ⟨b1, 0, none⟩), .pointer (some ⟨b2, 0, none⟩)] w fun e w' => e = .returned (.tuple #[]) ∧ CellsAt w' cb M' ∧ w.grownBy w' (some cb) := by
  have B0 := hb.cell 0
  simp only [List.getElem?_toArray, List.getElem?_cons_zero] at B0
  have HF : Hid (Calls Tryz.prog 114 c w fun e w' => e = .returned (.tuple #[]) ∧ CellsAt w' cb M' ∧ w.grownBy w' (some cb)) := hf
  clear hf hb
  go_enter Tryz.func79, Tryz.ntmps79
  go_wp2_with (go_at_call 114; refine HF.out.mono ?_; rintro e w' ⟨rfl, hc, hg⟩)
  go_end0
  exact ⟨rfl, hc, hg⟩

set_option maxRecDepth 100000 in
set_option maxHeartbeats 1000000 in
theorem fell_48 (cb b1 b2 : Nat) (c : Array Value) (M' : CM) (w : World) (hb : Blk w b2 #[.func (.func 116) #[] c] 1)
    (hf : Calls Tryz.prog 116 c w fun e w' => e = .returned (.tuple #[]) ∧ CellsAt w' cb M' ∧ w.grownBy w' (some cb)) :
    Calls Tryz.prog 79 #[.int .i64 1, .pointer (some ⟨b1, 0, none⟩), .pointer (some ⟨b2, 0, none⟩)] w fun e w' => e = .returned (.tuple #[]) ∧ CellsAt w' cb M' ∧ w.grownBy w' (some cb) := by
  have B0 := hb.cell 0
  simp only [List.getElem?_toArray, List.getElem?_cons_zero] at B0
  have HF : Hid (Calls Tryz.prog 116 c w fun e w' => e = .returned (.tuple #[]) ∧ CellsAt w' cb M' ∧ w.grownBy w' (some cb)) := hf
  clear hf hb
  go_enter Tryz.func79, Tryz.ntmps79
  go_wp2_with (go_at_call 116; refine HF.out.mono ?_; rintro e w' ⟨rfl, hc, hg⟩)
  go_end0
  exact ⟨rfl, hc, hg⟩

set_option maxRecDepth 100000 in
set_option maxHeartbeats 1000000 in
theorem fell_51 (cb b1 b2 : Nat) (c : Array Value) (M' : CM) (w : World) (hb : Blk w b1 #[.func (.func 46) #[] c] 1)
    (hf : Calls Tryz.prog 46 c w fun e w' => e = .returned (.tuple #[]) ∧ CellsAt w' cb M' ∧ w.grownBy w' (some cb)) :
    Calls Tryz.prog 79 #[.int .i64 2, .pointer (some ⟨b1, 0, none⟩), .pointer (some ⟨b2, 0, none⟩)] w fun e w' => e = .returned (.tuple #[]) ∧ CellsAt w' cb M' ∧ w.grownBy w' (some cb) := by
  have B0 := hb.cell 0
  simp only [List.getElem?_toArray, List.getElem?_cons_zero] at B0
  have HF : Hid (Calls Tryz.prog 46 c w fun e w' => e = .returned (.tuple #[]) ∧ CellsAt w' cb M' ∧ w.grownBy w' (some cb)) := hf
  clear hf hb
  go_enter Tryz.func79, Tryz.ntmps79
  go_wp2_with (go_at_call 46; refine HF.out.mono ?_; rintro e w' ⟨rfl, hc, hg⟩)
  go_end0
  exact ⟨rfl, hc, hg⟩

set_option maxRecDepth 100000 in
set_option maxHeartbeats 1000000 in
theorem fell_53 (cb b1 b2 : Nat) (c : Array Value) (M' : CM) (w : World) (hb : Blk w b2 #[.func (.func 48) #[] c] 1)
    (hf : Calls Tryz.prog 48 c w fun e w' => e = .returned (.tuple #[]) ∧ CellsAt w' cb M' ∧ w.grownBy w' (some cb)) :
    Calls Tryz.prog 79 #[.int .i64 1, .pointer (some ⟨b1, 0, none⟩), .pointer (some ⟨b2, 0, none⟩)] w fun e w' => e = .returned (.tuple #[]) ∧ CellsAt w' cb M' ∧ w.grownBy w' (some cb) := by
  have B0 := hb.cell 0
  simp only [List.getElem?_toArray, List.getElem?_cons_zero] at B0
  have HF : Hid (Calls Tryz.prog 48 c w fun e w' => e = .returned (.tuple #[]) ∧ CellsAt w' cb M' ∧ w.grownBy w' (some cb)) := hf
  clear hf hb
  go_enter Tryz.func79, Tryz.ntmps79
  go_wp2_with (go_at_call 48; refine HF.out.mono ?_; rintro e w' ⟨rfl, hc, hg⟩)
  go_end0
  exact ⟨rfl, hc, hg⟩

theorem fell_any (cb : Nat) (how : Int) (p : Pend) (M : CM) (w : World) (h : ChipAt w cb M) (hp : M.pend = some p) (hwr : WrOk M) :
    ∃ b1 b2, w.cell? ⟨cb, 12577, none⟩ = some (fellV b1 b2) ∧
      Calls Tryz.prog 79 #[.int .i64 how, .pointer (some ⟨b1, 0, none⟩), .pointer (some ⟨b2, 0, none⟩)] w fun e w' => e = .returned (.tuple #[]) ∧ CellsAt w' cb (stepped M p how) ∧ w.grownBy w' (some cb) := by
  obtain ⟨hcells, hok⟩ := h
  have hcells' : CellsAt w cb M := hcells
  obtain ⟨cs, fv, k1, k2, k3⟩ := hcells
  have hc := k1.cell 12577
  rw [k2.fell] at hc
  rw [hp] at k3
  have hnone : ∀ b1 b2, ¬ how = 1 → ¬ how = 2 → Calls Tryz.prog 79 #[.int .i64 how, .pointer (some ⟨b1, 0, none⟩), .pointer (some ⟨b2, 0, none⟩)] w fun e w' => e = .returned (.tuple #[]) ∧ CellsAt w' cb (stepped M p how) ∧ w.grownBy w' (some cb) := by
    intro b1 b2 h1 h2
    refine (fell_none b1 b2 how w h1 h2).mono ?_
    rintro e w' ⟨rfl, rfl⟩
    refine ⟨rfl, ?_, grow_refl _ _⟩
    unfold stepped; rw [if_neg h2, if_neg h1]; exact hcells'
  match p, k3 with
  | .write b d, ⟨b1, b2, kb, pb, e, n1, n2, n3, n4, hb, hd, j1, j2, j3, j4⟩ =>
    refine ⟨b1, b2, by rw [hc, e], ?_⟩
    by_cases h2 : how = 2
    · subst h2
      exact fell_46 cb b1 b2 _ _ w j1 (write1_any cb b kb pb M d w hb (hok b d hp) hd hcells' j3 j4)
    · by_cases h1 : how = 1
      · subst h1
        exact fell_48 cb b1 b2 _ _ w j2 (write2_any cb b kb M w hb (hok b d hp) hcells' j3)
      · exact hnone b1 b2 h1 h2
  | .erase b, ⟨b1, b2, kb, e, n1, n2, n3, hb, j1, j2, j3⟩ =>
    refine ⟨b1, b2, by rw [hc, e], ?_⟩
    by_cases h2 : how = 2
    · subst h2
      exact fell_51 cb b1 b2 _ _ w j1 (erase1_any cb b kb M w hb (hwr b hb) hcells' j3)
    · by_cases h1 : how = 1
      · subst h1
        exact fell_53 cb b1 b2 _ _ w j2 (erase2_any cb b kb M w hb (hwr b hb) hcells' j3)
      · exact hnone b1 b2 h1 h2

theorem CellsAt.fin {w : World} {cb : Nat} {M : CM} (h : CellsAt w cb M) : ChipAt ((w.setCell ⟨cb, 12577, none⟩ .nilFunc).setCell ⟨cb, 12576, none⟩ (.int .i64 (-1))) cb { M with left := -1, pend := none } ∧ w.grownBy ((w.setCell ⟨cb, 12577, none⟩ .nilFunc).setCell ⟨cb, 12576, none⟩ (.int .i64 (-1))) (some cb) := by
  have h1 := (h.setFell .nilFunc none rfl).setLeft (-1)
  exact ⟨⟨h1, fun b d e => by cases e⟩, grow_trans (grow_set _ _ _ _) (grow_set _ _ _ _)⟩

set_option maxRecDepth 100000 in
set_option maxHeartbeats 1000000 in
theorem restart_any (cb : Nat) (how : Int) (M : CM) (w : World) (h : ChipAt w cb M) (hwr : WrOk M) :
    Calls Tryz.prog 67 #[.pointer (some ⟨cb, 0, none⟩), .int .i64 how] w fun e w' => e = .returned (.tuple #[]) ∧ ChipAt w' cb (restartM M how) ∧ w.grownBy w' (some cb) := by
  have n0 := neq_nil
  have n1 := neq_fn
  cases hp : M.pend with
  | none =>
    have HM : Hid (restartM M how = { M with left := -1, pend := none }) := by unfold restartM Hid; rw [hp]
    have hcl : CellsAt w cb M := h.cells
    rcases h.down with ⟨_, hc⟩ | ⟨hd, _⟩
    · obtain ⟨L0, L1⟩ := hcl.left
      obtain ⟨_, F1⟩ := hcl.fell
      have hfin := hcl.fin
      clear h hcl hp hwr
      generalize M.left = lf at *
      go_enter Tryz.func67, Tryz.ntmps67
      go_wp2
      go_end0
      refine ⟨rfl, ?_, hfin.2⟩
      rw [HM.out]; exact hfin.1
    · unfold downB at hd; rw [hp] at hd; cases hd
  | some p =>
    have HM : Hid (restartM M how = { stepped M p how with left := -1, pend := none }) := by unfold restartM Hid; rw [hp]
    obtain ⟨b1, b2, hc, hf⟩ := fell_any cb how p M w h hp hwr
    unfold fellV at hc
    have HF : Hid (Calls Tryz.prog 79 #[.int .i64 how, .pointer (some ⟨b1, 0, none⟩), .pointer (some ⟨b2, 0, none⟩)] w fun e w' => e = .returned (.tuple #[]) ∧ CellsAt w' cb (stepped M p how) ∧ w.grownBy w' (some cb)) := hf
    clear hf h hp hwr
    go_enter Tryz.func67, Tryz.ntmps67
    go_wp2_with (go_at_call 79; refine HF.out.mono ?_; rintro e w' ⟨rfl, hcl, hg⟩; obtain ⟨L0, L1⟩ := hcl.left; obtain ⟨⟨v, F0⟩, F1⟩ := hcl.fell)
    go_end0
    refine ⟨rfl, ?_, grow_trans hg hcl.fin.2⟩
    rw [HM.out]; exact hcl.fin.1

end Go.Proofs.YtkibgflbidkalaaGreatDoor

/- Write, Erase. -/
namespace Go.Proofs.YtkibgflbidkalaaGreatDoor
open Go.RowKit

def padD (s : ByteArray) : List UInt8 := s.data.toList ++ List.replicate (64 - s.size) 0
theorem padD_len (s : ByteArray) (h : s.size ≤ 64) : (padD s).length = 64 := by simp [padD]; omega
def writeE (M : CM) (b : Int) (s : ByteArray) : Int :=
  if ¬ readyE M b = 0 then readyE M b else if 64 < s.size then 2 else if (M.pg b.toNat).length = 8 then 6 else if M.wk b.toNat then 7 else if M.left = 0 then 9 else 0
def writeM (M : CM) (b : Int) (s : ByteArray) : CM :=
  if ¬ readyE M b = 0 then M else if 64 < s.size then M else if (M.pg b.toNat).length = 8 then M else if M.wk b.toNat then { M with bd := upd M.bd b.toNat true }
  else if M.left = 0 then { M with pend := some (.write b.toNat (padD s)) } else layM (tickM M) b.toNat (.whole (padD s))
theorem ready_zero {M : CM} {b : Int} (h : readyE M b = 0) : M.pend = none ∧ 0 ≤ b ∧ b < 24 := by
  unfold readyE downB at h
  cases hp : M.pend with
  | some p => rw [hp] at h; simp at h
  | none =>
    rw [hp] at h
    simp only [Option.isSome_none, Bool.false_eq_true, if_false] at h
    split at h
    · rename_i hb; exact ⟨rfl, hb⟩
    · simp at h
theorem ready_ok (cb : Nat) (b : Int) (M : CM) (w : World) (h : ChipAt w cb M) (hr : readyE M b = 0) :
    Calls Tryz.prog 43 #[.pointer (some ⟨cb, 0, none⟩), .int .i64 b] w fun e w' => e = .returned .nilIface ∧ w' = w := by
  refine (ready_any cb b M w h).mono ?_
  rintro e w' ⟨rfl, rfl⟩
  exact ⟨by rw [hr]; rfl, rfl⟩
theorem ready_no (cb : Nat) (b : Int) (M : CM) (w : World) (h : ChipAt w cb M) (hr : ¬ readyE M b = 0) :
    Calls Tryz.prog 43 #[.pointer (some ⟨cb, 0, none⟩), .int .i64 b] w fun e w' => (∃ n : Int, e = .returned (.iface 39 (.int .i64 n)) ∧ n = readyE M b) ∧ w' = w := by
  refine (ready_any cb b M w h).mono ?_
  rintro e w' ⟨rfl, rfl⟩
  exact ⟨⟨_, by unfold errV; rw [if_neg hr], rfl⟩, rfl⟩

theorem Ext.setCells {a : World} {g : Nat} (hg : a.heap.size ≤ g) (l : List Value) : ∀ {b : World} (_ : Ext a b) (o : Nat), Ext a (b.setCells g o l) := by
  induction l with
  | nil => intro b h o; exact h
  | cons v r ih => intro b h o; exact ih (h.set (p := ⟨g, o, none⟩) hg v) (o + 1)
theorem Ext.setRow {a b : World} (h : Ext a b) {g : Nat} (hg : a.heap.size ≤ g) (Y : Array Value) : Ext a (b.setRow g Y) :=
  ⟨h.below.trans ⟨rfl, rfl, rfl, by simp, fun k hk => setRow_other _ _ _ _ (by omega)⟩⟩
theorem putAt_all (l : List Value) (cs : Array Value) (h : cs.size = l.length) : putAt cs 0 l = l.toArray := by
  apply Array.ext_getElem?
  intro i
  by_cases hi : i < l.length
  · have := putAt_in l cs 0 i (by omega) hi
    rw [Nat.zero_add] at this
    rw [this]; simp
  · rw [Array.getElem?_eq_none (by rw [putAt_size]; omega), Array.getElem?_eq_none (by simpa using hi)]
theorem pad_row (s : ByteArray) : ((pageV 1).toArray.toList.take 1 ++ Lib.byteCells s.data.toList ++ (pageV 1).toArray.toList.drop (1 + s.size)).toArray = (pgCells (.whole (padD s))).toArray := by
  congr 1
  rw [Nat.add_comm 1 s.size]
  simp only [pageV, List.take_succ_cons, List.take_zero, List.drop_succ_cons, List.drop_replicate, pgCells, padD, List.map_append, List.map_replicate, Lib.byteCells, List.cons_append, List.nil_append]
  rfl
theorem writeE_go {M : CM} {b : Nat} {s : ByteArray} (hr : readyE M (b : Int) = 0) (h64 : s.size ≤ 64) (hf : ¬ (M.pg b).length = 8) (hw : M.wk b = false) :
    writeE M (b : Int) s = (if M.left = 0 then 9 else 0) ∧ writeM M (b : Int) s = (if M.left = 0 then { M with pend := some (.write b (padD s)) } else layM (tickM M) b (.whole (padD s))) := by
  have hr' : ¬ ¬ readyE M (b : Int) = 0 := by simp [hr]
  have h64' : ¬ 64 < s.size := by omega
  constructor
  · unfold writeE
    rw [Int.toNat_natCast, if_neg hr', if_neg h64', if_neg hf, hw]; simp
  · unfold writeM
    rw [Int.toNat_natCast, if_neg hr', if_neg h64', if_neg hf, hw]; simp
theorem tick_pg (M : CM) : (tickM M).pg = M.pg := by unfold tickM; split <;> rfl
theorem tick_pend (M : CM) : (tickM M).pend = M.pend := by unfold tickM; split <;> rfl
theorem tick_wr (M : CM) : (tickM M).wr = M.wr := by unfold tickM; split <;> rfl

set_option maxRecDepth 100000 in
set_option maxHeartbeats 2000000 in
theorem write_step (cb b kb pb : Nat) (s : ByteArray) (M : CM) (w : World) (hb : b < 24) (h64 : s.size ≤ 64) (h : ChipAt w cb M) (hub : M.left ≤ 9223372036854775807) (hpn : M.pend = none) (hl : (M.pg b).length < 8)
    (hk : Blk w kb #[.pointer (some ⟨cb, b * 524, none⟩)] 101) (hp : Blk w pb (pgCells (.whole (padD s))).toArray 63) (hkc : ¬ kb = cb) (hpc : ¬ pb = cb) :
    Calls Tryz.prog 45 #[.pointer (some ⟨cb, 0, none⟩), .func (.func 114) #[] #[.pointer (some ⟨kb, 0, none⟩), .pointer (some ⟨pb, 0, none⟩)], .func (.func 116) #[] #[.pointer (some ⟨kb, 0, none⟩)]] w fun e w' =>
      e = .returned (errV (if M.left = 0 then 9 else 0)) ∧ ChipAt w' cb (if M.left = 0 then { M with pend := some (.write b (padD s)) } else layM (tickM M) b (.whole (padD s))) ∧ w.grownBy w' (some cb) := by
  have hcl : CellsAt w cb M := h.cells
  by_cases h0 : M.left = 0
  · rw [if_pos h0, if_pos h0]
    refine (step_fall cb 114 116 _ _ M w hcl h0).mono ?_
    rintro e w' ⟨rfl, rfl⟩
    have hlt := hcl.lt
    have hx : Ext (w.setCell ⟨cb, 12577, none⟩ (fellV w.heap.size (w.heap.size + 1))) (((w.setCell ⟨cb, 12577, none⟩ (fellV w.heap.size (w.heap.size + 1))).alloc (.cells #[.func (.func 114) #[] #[.pointer (some ⟨kb, 0, none⟩), .pointer (some ⟨pb, 0, none⟩)]] 1)).alloc (.cells #[.func (.func 116) #[] #[.pointer (some ⟨kb, 0, none⟩)]] 1)) := ((Ext.refl _).alloc _).alloc _
    have hsz : (w.setCell ⟨cb, 12577, none⟩ (fellV w.heap.size (w.heap.size + 1))).heap.size = w.heap.size := by simp [World.setCell]
    obtain ⟨cs, fv, k1, k2, k3⟩ := hcl
    refine ⟨rfl, ⟨⟨_, _, (k1.set 12577 _).ext hx, k2.setFell _ _, ?_⟩, ?_⟩, grow_trans (grow_set _ _ _ _) (grow_ext hx _)⟩
    · refine ⟨w.heap.size, w.heap.size + 1, kb, pb, rfl, by omega, by omega, hkc, hpc, hb, padD_len s h64, ?_, ?_, (hk.other hkc _).ext hx, (hp.other hpc _).ext hx⟩
      · exact (Blk.new' _ _ _ hsz.symm).alloc _
      · exact Blk.new' _ _ _ (by simp [hsz])
    · intro b' d' he
      simp only [Option.some.injEq, Pend.write.injEq] at he
      obtain ⟨rfl, _⟩ := he
      exact hl
  · rw [if_neg h0, if_neg h0]
    refine (step_go46 cb 116 _ _ M (layM (tickM M) b (.whole (padD s))) w hcl h0 hub (fun W hg hc => ?_)).mono ?_
    · exact write1_any cb b kb pb (tickM M) (padD s) W hb (by rw [tick_pg]; exact hl) (padD_len s h64) hc (hk.grown hg hkc) (hp.grown hg hpc)
    · rintro e w' ⟨rfl, hc, hg⟩
      refine ⟨rfl, ⟨hc, fun b' d' he => ?_⟩, hg⟩
      simp only [layM, tick_pend, hpn] at he
      cases he

set_option maxRecDepth 100000 in
set_option maxHeartbeats 2000000 in
theorem write_any (cb : Nat) (b : Int) (s : ByteArray) (M : CM) (w : World) (h : ChipAt w cb M) (hub : M.left ≤ 9223372036854775807) (hs : s.size ≤ 9223372036854775807) :
    Calls Tryz.prog 82 #[.pointer (some ⟨cb, 0, none⟩), .int .i64 b, .string s] w fun e w' => e = .returned (errV (writeE M b s)) ∧ ChipAt w' cb (writeM M b s) ∧ w.grownBy w' (some cb) := by
  by_cases hr : readyE M b = 0
  · obtain ⟨hpn, hb1, hb2⟩ := ready_zero hr
    obtain ⟨b, rfl⟩ := Int.eq_ofNat_of_zero_le hb1
    have hb3 : b < 24 := by omega
    have HR : Hid (readyE M (b : Int) = 0) := hr
    clear hr
    by_cases h64 : s.size ≤ 64
    · by_cases hfull : (M.pg b).length = 8
      · obtain ⟨c0, _, _, _⟩ := h.at hb3
        have hx : Ext w (w.alloc (.cells #[.pointer (some ⟨cb, b * 524, none⟩)] 101)) := (Ext.refl w).alloc _
        have c0' := hx.cell c0
        rw [hfull] at c0'
        have HE : Hid (writeE M (b : Int) s = 6) := by unfold writeE Hid; rw [Int.toNat_natCast, if_neg (by simp [HR.out]), if_neg (by omega), if_pos hfull]
        have HM : Hid (writeM M (b : Int) s = M) := by unfold writeM Hid; rw [Int.toNat_natCast, if_neg (by simp [HR.out]), if_neg (by omega), if_pos hfull]
        have H2 : Hid (ChipAt (w.alloc (.cells #[.pointer (some ⟨cb, b * 524, none⟩)] 101)) cb M) := h.ext hx
        clear c0 hfull hx
        go_enter Tryz.func82, Tryz.ntmps82
        go_wp2_with (go_at_call 43; refine (ready_ok cb b M _ h HR.out).mono ?_; rintro e w' ⟨rfl, rfl⟩)
        go_ret
        refine ⟨by rw [HE.out]; rfl, by rw [HM.out]; exact H2.out, grow_alloc _ _ _⟩
      · cases hwk : M.wk b with
        | true =>
          obtain ⟨c0, _, _, _⟩ := h.at hb3
          have hx : Ext w (w.alloc (.cells #[.pointer (some ⟨cb, b * 524, none⟩)] 101)) := (Ext.refl w).alloc _
          have h2 := h.ext hx
          have c0' := hx.cell c0
          have hneq' : (((M.pg b).length : Int) == 8) = false := by simp; omega
          have HE : Hid (writeE M (b : Int) s = 7) := by unfold writeE Hid; rw [Int.toNat_natCast, if_neg (by simp [HR.out]), if_neg (by omega), if_neg hfull, hwk]; rfl
          have HM : Hid (writeM M (b : Int) s = givesM M b) := by unfold writeM givesM Hid; rw [Int.toNat_natCast, if_neg (by simp [HR.out]), if_neg (by omega), if_neg hfull, hwk]; rfl
          generalize (M.pg b).length = n at *
          clear c0 hx
          go_enter Tryz.func82, Tryz.ntmps82
          go_wp2_with (first
            | (go_at_call 43; refine (ready_ok cb b M _ h HR.out).mono ?_; rintro e w' ⟨rfl, rfl⟩)
            | (go_at_call 44; refine (gives_any cb b M _ hb3 h2).mono ?_; rw [hwk]; rintro e w2 ⟨rfl, hg1, hg2, _⟩))
          go_ret
          refine ⟨by rw [HE.out]; rfl, by rw [HM.out]; exact hg1, grow_trans (grow_alloc _ _ _) hg2⟩
        | false =>
          obtain ⟨c0, _, _, _⟩ := h.at hb3
          have hx : Ext w (w.alloc (.cells #[.pointer (some ⟨cb, b * 524, none⟩)] 101)) := (Ext.refl w).alloc _
          have h2 := h.ext hx
          have c0' := hx.cell c0
          have hneq' : (((M.pg b).length : Int) == 8) = false := by simp; omega
          have hl8 : (M.pg b).length < 8 := by
            obtain ⟨⟨cs, fv, k1, k2, k3⟩, _⟩ := h
            have := (k2.blk b hb3).len8
            omega
          have HE : Hid (writeE M (b : Int) s = (if M.left = 0 then 9 else 0) ∧ writeM M (b : Int) s = (if M.left = 0 then { M with pend := some (.write b (padD s)) } else layM (tickM M) b (.whole (padD s)))) := writeE_go HR.out h64 hfull hwk
          have hlt := CellsAt.lt (w := w) (cb := cb) (M := M) h.cells
          have hx2 := hx.alloc (.cells Z83 63)
          have hBp : Blk ((w.alloc (.cells #[.pointer (some ⟨cb, b * 524, none⟩)] 101)).alloc (.cells Z83 63)) (w.heap.size + 1) Z83 63 := Blk.new' _ _ _ (by simp)
          have hZs : Z83.size = 65 := by simp [Z83, pageV]
          have hsc := store_run (w.heap.size + 1) 0 (pageV 1) _ (hBp.there (o := 0) (n := (pageV 1).length) (by rw [pageV_len, hZs]; omega)) (pageV_one 1)
          have hBp3 := Blk.setCells (pageV 1) hBp 0
          rw [putAt_all _ _ (by rw [hZs, pageV_len])] at hBp3
          have hx3 := Ext.setCells (g := w.heap.size + 1) (by omega) (pageV 1) hx2 0
          have hBk : Blk ((w.alloc (.cells #[.pointer (some ⟨cb, b * 524, none⟩)] 101)).alloc (.cells Z83 63)) w.heap.size #[.pointer (some ⟨cb, b * 524, none⟩)] 101 := (Blk.new _ _ _).alloc _
          have hBk3 : Blk (((w.alloc (.cells #[.pointer (some ⟨cb, b * 524, none⟩)] 101)).alloc (.cells Z83 63)).setCells (w.heap.size + 1) 0 (pageV 1)) w.heap.size #[.pointer (some ⟨cb, b * 524, none⟩)] 101 := hBk.grown (grow_setCells _ _) (by omega)
          generalize hW3 : ((w.alloc (.cells #[.pointer (some ⟨cb, b * 524, none⟩)] 101)).alloc (.cells Z83 63)).setCells (w.heap.size + 1) 0 (pageV 1) = W3 at *
          clear hW3
          have hinfo : (Tryz.prog.info? 5).map (·.size) = some 1 := by kernel_rfl
          have hcp := Lib.run_copy_row_string (P := Tryz.prog) W3 118 9 3 5 (w.heap.size + 1) 1 64 64 s (pageV 1).toArray 63 Tryz.underlying118 hinfo hBp3.blk (by omega) (by rw [List.size_toArray, pageV_len]; omega)
          rw [pad_row s] at hcp
          have hBp4 : Blk (W3.setRow (w.heap.size + 1) (pgCells (.whole (padD s))).toArray) (w.heap.size + 1) (pgCells (.whole (padD s))).toArray 63 := ⟨setRow_heap _ _ _ _ 63 (0, 0) hBp3.blk⟩
          have hBk4 : Blk (W3.setRow (w.heap.size + 1) (pgCells (.whole (padD s))).toArray) w.heap.size #[.pointer (some ⟨cb, b * 524, none⟩)] 101 := ⟨by rw [setRow_other _ _ _ _ (by omega)]; exact hBk3.blk⟩
          have hx4 := hx3.setRow (g := w.heap.size + 1) (by omega) (pgCells (.whole (padD s))).toArray
          have HS : Hid (Calls Tryz.prog 45 #[.pointer (some ⟨cb, 0, none⟩), .func (.func 114) #[] #[.pointer (some ⟨w.heap.size, 0, none⟩), .pointer (some ⟨w.heap.size + 1, 0, none⟩)], .func (.func 116) #[] #[.pointer (some ⟨w.heap.size, 0, none⟩)]] (W3.setRow (w.heap.size + 1) (pgCells (.whole (padD s))).toArray) fun e w' =>
            e = .returned (errV (if M.left = 0 then 9 else 0)) ∧ ChipAt w' cb (if M.left = 0 then { M with pend := some (.write b (padD s)) } else layM (tickM M) b (.whole (padD s))) ∧ World.grownBy (W3.setRow (w.heap.size + 1) (pgCells (.whole (padD s))).toArray) w' (some cb)) :=
            write_step cb b w.heap.size (w.heap.size + 1) s M _ hb3 h64 (h.ext hx4) hub hpn hl8 hBk4 hBp4 (by omega) (by omega)
          have HG : Hid (w.grownBy (W3.setRow (w.heap.size + 1) (pgCells (.whole (padD s))).toArray) (some cb)) := grow_ext hx4 _
          generalize (pgCells (.whole (padD s))).toArray = Y at *
          generalize (if M.left = 0 then (9 : Int) else 0) = E at *
          generalize (if M.left = 0 then { M with pend := some (.write b (padD s)) } else layM (tickM M) b (.whole (padD s))) = M2 at *
          clear hBp hBp3 hBk hBk3 hBp4 hBk4 hx4 hx3 hx2 hZs hl8 hinfo hpn hub
          have z0 := zero83
          have z1 := Z83_ne
          have z2 := Z83_set 1
          generalize (M.pg b).length = n at *
          go_enter Tryz.func82, Tryz.ntmps82
          go_wp2_with (first
            | (go_at_call 43; refine (ready_ok cb b M _ h HR.out).mono ?_; rintro e w' ⟨rfl, rfl⟩)
            | (go_at_call 44; refine (gives_any cb b M _ hb3 h2).mono ?_; rw [hwk]; rintro e w' ⟨rfl, _, _, hw'⟩; obtain rfl := hw' rfl))
          go_wp2_with (go_at_call 45; refine HS.out.mono ?_; rintro e w4 ⟨rfl, hc4, hg4⟩)
          go_ret
          refine ⟨?_, ?_, ?_⟩
          · rw [HE.out.1]; rfl
          · rw [HE.out.2]; exact hc4
          · exact grow_trans HG.out hg4
    · have HE : Hid (writeE M (b : Int) s = 2) := by unfold writeE Hid; rw [if_neg (by simp [HR.out]), if_pos (by omega)]
      have HM : Hid (writeM M (b : Int) s = M) := by unfold writeM Hid; rw [if_neg (by simp [HR.out]), if_pos (by omega)]
      have H2 : Hid (ChipAt (w.alloc (.cells #[.pointer (some ⟨cb, b * 524, none⟩)] 101)) cb M) := h.ext ((Ext.refl w).alloc _)
      go_enter Tryz.func82, Tryz.ntmps82
      go_wp2_with (go_at_call 43; refine (ready_ok cb b M _ h HR.out).mono ?_; rintro e w' ⟨rfl, rfl⟩)
      go_ret
      refine ⟨by rw [HE.out]; rfl, by rw [HM.out]; exact H2.out, grow_alloc _ _ _⟩
  · have HR : Hid (¬ readyE M b = 0) := hr
    have HE : Hid (writeE M b s = readyE M b) := by unfold writeE Hid; rw [if_pos hr]
    have HM : Hid (writeM M b s = M) := by unfold writeM Hid; rw [if_pos hr]
    clear hr
    go_enter Tryz.func82, Tryz.ntmps82
    go_wp2_with (go_at_call 43; refine (ready_no cb b M _ h HR.out).mono ?_; rintro e w' ⟨⟨n, rfl, hn⟩, rfl⟩; have HN : Hid (n = readyE M b) := hn; clear hn)
    go_ret
    refine ⟨?_, by rw [HM.out]; exact h, grow_refl _ _⟩
    rw [HE.out, HN.out]; unfold errV; rw [if_neg HR.out]; rfl

end Go.Proofs.YtkibgflbidkalaaGreatDoor

/- Erase, Read, New. -/
namespace Go.Proofs.YtkibgflbidkalaaGreatDoor
open Go.RowKit Go.WideShapes

def eraseE (M : CM) (b : Int) : Int := if ¬ readyE M b = 0 then readyE M b else if M.wk b.toNat then 7 else if M.left = 0 then 9 else 0
def eraseM (M : CM) (b : Int) : CM :=
  if ¬ readyE M b = 0 then M else if M.wk b.toNat then { M with bd := upd M.bd b.toNat true }
  else if M.left = 0 then { M with pend := some (.erase b.toNat) } else wipeM (tickM M) b.toNat []

set_option maxRecDepth 100000 in
set_option maxHeartbeats 2000000 in
theorem erase_step (cb b kb : Nat) (M : CM) (w : World) (hb : b < 24) (h : ChipAt w cb M) (hub : M.left ≤ 9223372036854775807) (hpn : M.pend = none) (hwr : WrOk M)
    (hk : Blk w kb #[.pointer (some ⟨cb, b * 524, none⟩)] 101) (hkc : ¬ kb = cb) :
    Calls Tryz.prog 45 #[.pointer (some ⟨cb, 0, none⟩), .func (.func 46) #[] #[.pointer (some ⟨kb, 0, none⟩)], .func (.func 48) #[] #[.pointer (some ⟨kb, 0, none⟩)]] w fun e w' =>
      e = .returned (errV (if M.left = 0 then 9 else 0)) ∧ ChipAt w' cb (if M.left = 0 then { M with pend := some (.erase b) } else wipeM (tickM M) b []) ∧ w.grownBy w' (some cb) := by
  have hcl : CellsAt w cb M := h.cells
  by_cases h0 : M.left = 0
  · rw [if_pos h0, if_pos h0]
    refine (step_fall cb 46 48 _ _ M w hcl h0).mono ?_
    rintro e w' ⟨rfl, rfl⟩
    have hlt := hcl.lt
    have hx : Ext (w.setCell ⟨cb, 12577, none⟩ (fellV w.heap.size (w.heap.size + 1))) (((w.setCell ⟨cb, 12577, none⟩ (fellV w.heap.size (w.heap.size + 1))).alloc (.cells #[.func (.func 46) #[] #[.pointer (some ⟨kb, 0, none⟩)]] 1)).alloc (.cells #[.func (.func 48) #[] #[.pointer (some ⟨kb, 0, none⟩)]] 1)) := ((Ext.refl _).alloc _).alloc _
    have hsz : (w.setCell ⟨cb, 12577, none⟩ (fellV w.heap.size (w.heap.size + 1))).heap.size = w.heap.size := by simp [World.setCell]
    obtain ⟨cs, fv, k1, k2, k3⟩ := hcl
    refine ⟨rfl, ⟨⟨_, _, (k1.set 12577 _).ext hx, k2.setFell _ _, ?_⟩, ?_⟩, grow_trans (grow_set _ _ _ _) (grow_ext hx _)⟩
    · refine ⟨w.heap.size, w.heap.size + 1, kb, rfl, by omega, by omega, hkc, hb, ?_, ?_, (hk.other hkc _).ext hx⟩
      · exact (Blk.new' _ _ _ hsz.symm).alloc _
      · exact Blk.new' _ _ _ (by simp [hsz])
    · intro b' d' he
      cases he
  · rw [if_neg h0, if_neg h0]
    refine (step_go51 cb 48 _ _ M (wipeM (tickM M) b []) w hcl h0 hub (fun W hg hc => ?_)).mono ?_
    · exact erase1_any cb b kb (tickM M) W hb (by rw [tick_wr]; exact hwr b hb) hc (hk.grown hg hkc)
    · rintro e w' ⟨rfl, hc, hg⟩
      refine ⟨rfl, ⟨hc, fun b' d' he => ?_⟩, hg⟩
      simp only [wipeM, tick_pend, hpn] at he
      cases he

set_option maxRecDepth 100000 in
set_option maxHeartbeats 2000000 in
theorem erase_any (cb : Nat) (b : Int) (M : CM) (w : World) (h : ChipAt w cb M) (hub : M.left ≤ 9223372036854775807) (hwr : WrOk M) :
    Calls Tryz.prog 24 #[.pointer (some ⟨cb, 0, none⟩), .int .i64 b] w fun e w' => e = .returned (errV (eraseE M b)) ∧ ChipAt w' cb (eraseM M b) ∧ w.grownBy w' (some cb) := by
  by_cases hr : readyE M b = 0
  · obtain ⟨hpn, hb1, hb2⟩ := ready_zero hr
    obtain ⟨b, rfl⟩ := Int.eq_ofNat_of_zero_le hb1
    have hb3 : b < 24 := by omega
    have HR : Hid (readyE M (b : Int) = 0) := hr
    clear hr
    have hx : Ext w (w.alloc (.cells #[.pointer (some ⟨cb, b * 524, none⟩)] 101)) := (Ext.refl w).alloc _
    have h2 := h.ext hx
    cases hwk : M.wk b with
    | true =>
      have HE : Hid (eraseE M (b : Int) = 7) := by unfold eraseE Hid; rw [Int.toNat_natCast, if_neg (by simp [HR.out]), hwk]; rfl
      have HM : Hid (eraseM M (b : Int) = givesM M b) := by unfold eraseM givesM Hid; rw [Int.toNat_natCast, if_neg (by simp [HR.out]), hwk]; rfl
      clear hx hub hwr hpn
      go_enter Tryz.func24, Tryz.ntmps24
      go_wp2_with (first
        | (go_at_call 43; refine (ready_ok cb b M _ h HR.out).mono ?_; rintro e w' ⟨rfl, rfl⟩)
        | (go_at_call 44; refine (gives_any cb b M _ hb3 h2).mono ?_; rw [hwk]; rintro e w2 ⟨rfl, hg1, hg2, _⟩))
      go_ret
      refine ⟨by rw [HE.out]; rfl, by rw [HM.out]; exact hg1, grow_trans (grow_alloc _ _ _) hg2⟩
    | false =>
      have hlt := CellsAt.lt (w := w) (cb := cb) (M := M) h.cells
      have HE : Hid (eraseE M (b : Int) = (if M.left = 0 then 9 else 0) ∧ eraseM M (b : Int) = (if M.left = 0 then { M with pend := some (.erase b) } else wipeM (tickM M) b [])) := by
        constructor
        · unfold eraseE; rw [Int.toNat_natCast, if_neg (by simp [HR.out]), hwk]; simp
        · unfold eraseM; rw [Int.toNat_natCast, if_neg (by simp [HR.out]), hwk]; simp
      have HS : Hid (Calls Tryz.prog 45 #[.pointer (some ⟨cb, 0, none⟩), .func (.func 46) #[] #[.pointer (some ⟨w.heap.size, 0, none⟩)], .func (.func 48) #[] #[.pointer (some ⟨w.heap.size, 0, none⟩)]] (w.alloc (.cells #[.pointer (some ⟨cb, b * 524, none⟩)] 101)) fun e w' =>
        e = .returned (errV (if M.left = 0 then 9 else 0)) ∧ ChipAt w' cb (if M.left = 0 then { M with pend := some (.erase b) } else wipeM (tickM M) b []) ∧ World.grownBy (w.alloc (.cells #[.pointer (some ⟨cb, b * 524, none⟩)] 101)) w' (some cb)) :=
        erase_step cb b w.heap.size M _ hb3 h2 hub hpn hwr (Blk.new _ _ _) (by omega)
      generalize (if M.left = 0 then (9 : Int) else 0) = E at *
      generalize (if M.left = 0 then { M with pend := some (.erase b) } else wipeM (tickM M) b []) = M2 at *
      clear hx hub hwr hpn
      go_enter Tryz.func24, Tryz.ntmps24
      go_wp2_with (first
        | (go_at_call 43; refine (ready_ok cb b M _ h HR.out).mono ?_; rintro e w' ⟨rfl, rfl⟩)
        | (go_at_call 44; refine (gives_any cb b M _ hb3 h2).mono ?_; rw [hwk]; rintro e w2 ⟨rfl, _, _, hw2⟩; obtain rfl := hw2 rfl)
        | (go_at_call 45; refine HS.out.mono ?_; rintro e w4 ⟨rfl, hc4, hg4⟩))
      go_ret
      refine ⟨by rw [HE.out.1]; rfl, by rw [HE.out.2]; exact hc4, grow_trans (grow_alloc _ _ _) hg4⟩
  · have HR : Hid (¬ readyE M b = 0) := hr
    have HE : Hid (eraseE M b = readyE M b) := by unfold eraseE Hid; rw [if_pos hr]
    have HM : Hid (eraseM M b = M) := by unfold eraseM Hid; rw [if_pos hr]
    clear hr
    go_enter Tryz.func24, Tryz.ntmps24
    go_wp2_with (go_at_call 43; refine (ready_no cb b M _ h HR.out).mono ?_; rintro e w' ⟨⟨n, rfl, hn⟩, rfl⟩; have HN : Hid (n = readyE M b) := hn; clear hn)
    go_ret
    refine ⟨?_, by rw [HM.out]; exact h, grow_refl _ _⟩
    rw [HE.out, HN.out]; unfold errV; rw [if_neg HR.out]; rfl

def readR (M : CM) (b p : Int) : List UInt8 × Int :=
  if downB M then ([], 9) else if 0 ≤ b ∧ b < 24 ∧ 0 ≤ p ∧ p < 8 then
    (match (M.pg b.toNat)[p.toNat]? with
      | none => ([], 5)
      | some (.whole d) => (d, 0)
      | some .torn => ([], 4))
  else ([], 1)
def txtL (l : List UInt8) : ByteArray := ⟨l.toArray⟩

set_option maxRecDepth 100000 in
set_option maxHeartbeats 2000000 in
theorem read_any (cb : Nat) (b p : Int) (M : CM) (w : World) (h : ChipAt w cb M) :
    Calls Tryz.prog 73 #[.pointer (some ⟨cb, 0, none⟩), .int .i64 b, .int .i64 p] w fun e w' => e = .returned (.tuple #[.string (txtL (readR M b p).1), errV (readR M b p).2]) ∧ w' = w := by
  cases hd : downB M with
  | true =>
    have HR : Hid (readR M b p = ([], 9)) := by unfold readR Hid; rw [hd]; rfl
    go_enter Tryz.func73, Tryz.ntmps73
    go_wp2_with (go_at_call 39; refine (down_any cb M _ h).mono ?_; rw [hd]; rintro e w' ⟨rfl, rfl⟩)
    go_ret2
    exact ⟨by rw [HR.out]; rfl, rfl⟩
  | false =>
    by_cases hb : 0 ≤ b ∧ b < 24
    · obtain ⟨hb1, hb2⟩ := hb
      by_cases hp : 0 ≤ p ∧ p < 8
      · obtain ⟨hp1, hp2⟩ := hp
        obtain ⟨b, rfl⟩ := Int.eq_ofNat_of_zero_le hb1
        obtain ⟨p, rfl⟩ := Int.eq_ofNat_of_zero_le hp1
        have hb3 : b < 24 := by omega
        have hp3 : p < 8 := by omega
        obtain ⟨⟨cs, fv, k1, k2, k3⟩, hok⟩ := id h
        have hst := (k2.blk b hb3).st p hp3
        have c0 := k1.cell (b * 524 + p * 65)
        rw [hst] at c0
        have hR0 : readR M (b : Int) (p : Int) = (match (M.pg b)[p]? with | none => ([], 5) | some (.whole d) => (d, 0) | some .torn => ([], 4)) := by
          unfold readR; rw [hd, if_neg (by simp), if_pos ⟨hb1, hb2, hp1, hp2⟩, Int.toNat_natCast, Int.toNat_natCast]
        unfold stOf at c0
        cases hpg : (M.pg b)[p]? with
        | none =>
          have HR : Hid (readR M (b : Int) (p : Int) = ([], 5)) := by unfold Hid; rw [hR0, hpg]
          rw [hpg] at c0
          simp only [stPg] at c0
          clear hR0 hpg hst k1 k2 k3 hok
          go_enter Tryz.func73, Tryz.ntmps73
          go_wp2_with (first
            | (go_at_call 39; refine (down_any cb M _ h).mono ?_; rw [hd]; rintro e w' ⟨rfl, rfl⟩)
            | (go_at_call 78; refine (there_yes _ _ hb1 hb2).mono ?_; rintro e w' ⟨rfl, rfl⟩))
          go_ret2
          exact ⟨by rw [HR.out]; rfl, rfl⟩
        | some q =>
          rw [hpg] at c0
          cases q with
          | torn =>
            have HR : Hid (readR M (b : Int) (p : Int) = ([], 4)) := by unfold Hid; rw [hR0, hpg]
            simp only [stPg] at c0
            clear hR0 hpg hst k1 k2 k3 hok
            go_enter Tryz.func73, Tryz.ntmps73
            go_wp2_with (first
              | (go_at_call 39; refine (down_any cb M _ h).mono ?_; rw [hd]; rintro e w' ⟨rfl, rfl⟩)
              | (go_at_call 78; refine (there_yes _ _ hb1 hb2).mono ?_; rintro e w' ⟨rfl, rfl⟩))
            go_ret2
            exact ⟨by rw [HR.out]; rfl, rfl⟩
          | whole d =>
            have HR : Hid (readR M (b : Int) (p : Int) = (d, 0)) := by unfold Hid; rw [hR0, hpg]
            have hd64 := (k2.blk b hb3).d64 p d hpg
            have hcv := run_convert_bytes_back (P := Tryz.prog) w 118 9 5 ⟨cb, b * 524 + p * 65 + 1, none⟩ 64 d Tryz.underlying118 Tryz.underlying5 Tryz.underlying9 (fun j hj => by
              rw [add_plain, k1.cell]
              exact (k2.blk b hb3).dat p d hp3 hpg j d[j] (by simp [hj]))
            rw [hd64] at hcv
            simp only [stPg] at c0
            clear hR0 hpg hst k1 k2 k3 hok
            go_enter Tryz.func73, Tryz.ntmps73
            go_wp2_with (first
              | (go_at_call 39; refine (down_any cb M _ h).mono ?_; rw [hd]; rintro e w' ⟨rfl, rfl⟩)
              | (go_at_call 78; refine (there_yes _ _ hb1 hb2).mono ?_; rintro e w' ⟨rfl, rfl⟩))
            go_ret2
            exact ⟨by rw [HR.out]; rfl, rfl⟩
      · have HR : Hid (readR M b p = ([], 1)) := by unfold readR Hid; rw [hd, if_neg (by simp), if_neg (by omega)]
        by_cases hp0 : p < 0
        · clear hp
          go_enter Tryz.func73, Tryz.ntmps73
          go_wp2_with (first
            | (go_at_call 39; refine (down_any cb M _ h).mono ?_; rw [hd]; rintro e w' ⟨rfl, rfl⟩)
            | (go_at_call 78; refine (there_yes _ _ hb1 hb2).mono ?_; rintro e w' ⟨rfl, rfl⟩))
          go_ret2
          exact ⟨by rw [HR.out]; rfl, rfl⟩
        · have hp8 : 8 ≤ p := by omega
          clear hp
          go_enter Tryz.func73, Tryz.ntmps73
          go_wp2_with (first
            | (go_at_call 39; refine (down_any cb M _ h).mono ?_; rw [hd]; rintro e w' ⟨rfl, rfl⟩)
            | (go_at_call 78; refine (there_yes _ _ hb1 hb2).mono ?_; rintro e w' ⟨rfl, rfl⟩))
          go_ret2
          exact ⟨by rw [HR.out]; rfl, rfl⟩
    · have HR : Hid (readR M b p = ([], 1)) := by unfold readR Hid; rw [hd, if_neg (by simp), if_neg (by omega)]
      have hb' : b < 0 ∨ 24 ≤ b := by omega
      clear hb
      go_enter Tryz.func73, Tryz.ntmps73
      go_wp2_with (first
        | (go_at_call 39; refine (down_any cb M _ h).mono ?_; rw [hd]; rintro e w' ⟨rfl, rfl⟩)
        | (go_at_call 78; refine (there_no _ _ hb').mono ?_; rintro e w' ⟨rfl, rfl⟩))
      go_ret2
      exact ⟨by rw [HR.out]; rfl, rfl⟩

end Go.Proofs.YtkibgflbidkalaaGreatDoor

/- A new chip. -/
namespace Go.Proofs.YtkibgflbidkalaaGreatDoor
open Go.RowKit

def zPage : List Value := .int .i64 0 :: List.replicate 64 (.int .u8 0)
def zBlock : List Value := (List.replicate 8 zPage).flatten ++ [.int .i64 0, .int .i64 0, .bool false, .bool false]
def zChip : List Value := (List.replicate 24 zBlock).flatten ++ [.int .i64 0, .nilFunc]
def Z89 : Array Value := zChip.toArray
def N89 : Array Value := Z89.setIfInBounds 12576 (.int .i64 (-1))
set_option maxRecDepth 1000000 in
theorem zero89 (w : World) : (zeroValue 70).run Tryz.prog w = .ok (.agg Z89) w := by kernel_rfl

theorem flat_len (n : Nat) (l : List Value) : (List.replicate n l).flatten.length = n * l.length := by simp
theorem flat_get (l : List Value) : ∀ (n b r : Nat), b < n → r < l.length → (List.replicate n l).flatten[b * l.length + r]? = l[r]?
  | 0, b, r, h, _ => absurd h (Nat.not_lt_zero _)
  | n + 1, 0, r, _, hr => by
    rw [List.replicate_succ, List.flatten_cons, Nat.zero_mul, Nat.zero_add, List.getElem?_append_left hr]
  | n + 1, b + 1, r, h, hr => by
    rw [List.replicate_succ, List.flatten_cons, List.getElem?_append_right (by rw [Nat.succ_mul]; omega), show (b + 1) * l.length + r - l.length = b * l.length + r by rw [Nat.succ_mul]; omega]
    exact flat_get l n b r (by omega) hr
theorem zPage_len : zPage.length = 65 := by simp [zPage]
theorem zBlock_len : zBlock.length = 524 := by
  unfold zBlock; rw [List.length_append, flat_len, zPage_len]; rfl
theorem zChip_len : zChip.length = 12578 := by
  unfold zChip; rw [List.length_append, flat_len, zBlock_len]; rfl
theorem zChip_get (b r : Nat) (hb : b < 24) (hr : r < 524) : zChip[b * 524 + r]? = zBlock[r]? := by
  unfold zChip
  rw [List.getElem?_append_left (by rw [flat_len, zBlock_len]; omega)]
  have := flat_get zBlock 24 b r hb (by rw [zBlock_len]; exact hr)
  rwa [zBlock_len] at this
theorem zBlock_page (p j : Nat) (hp : p < 8) (hj : j < 65) : zBlock[p * 65 + j]? = zPage[j]? := by
  unfold zBlock
  rw [List.getElem?_append_left (by rw [flat_len, zPage_len]; omega)]
  have := flat_get zPage 8 p j hp (by rw [zPage_len]; exact hj)
  rwa [zPage_len] at this
theorem zBlock_tail (j : Nat) : zBlock[520 + j]? = [Value.int .i64 0, .int .i64 0, .bool false, .bool false][j]? := by
  unfold zBlock
  rw [List.getElem?_append_right (by rw [flat_len, zPage_len]; omega), flat_len, zPage_len, show 520 + j - 8 * 65 = j by omega]
theorem zChip_tail (j : Nat) : zChip[12576 + j]? = [Value.int .i64 0, .nilFunc][j]? := by
  unfold zChip
  rw [List.getElem?_append_right (by rw [flat_len, zBlock_len]; omega), flat_len, zBlock_len, show 12576 + j - 24 * 524 = j by omega]

def newM : CM := { pg := fun _ => [], wr := fun _ => 0, wk := fun _ => false, bd := fun _ => false, left := -1, pend := none }
theorem N89_get (i : Nat) (h : ¬ i = 12576) : N89[i]? = zChip[i]? := by
  unfold N89 Z89
  rw [Array.getElem?_setIfInBounds_ne (by omega)]; simp
theorem N89_size : N89.size = 12578 := by unfold N89 Z89; rw [Array.size_setIfInBounds, List.size_toArray, zChip_len]
set_option maxRecDepth 10000 in
theorem newRep : Rep N89 newM .nilFunc := by
  refine ⟨N89_size, fun b hb => ?_, ?_, ?_⟩
  · refine ⟨fun p hp => ?_, fun p d _ hd => ?_, ?_, ?_, ?_, ?_, by simp [newM], fun p d hd => ?_⟩
    · rw [N89_get _ (by omega), zChip_get b (p * 65) hb (by omega)]
      have := zBlock_page p 0 hp (by omega)
      rw [Nat.add_zero] at this
      rw [this]; rfl
    · simp [newM] at hd
    · rw [N89_get _ (by omega), zChip_get b 520 hb (by omega)]; exact zBlock_tail 0
    · rw [N89_get _ (by omega), zChip_get b 521 hb (by omega)]; exact zBlock_tail 1
    · rw [N89_get _ (by omega), zChip_get b 522 hb (by omega)]; exact zBlock_tail 2
    · rw [N89_get _ (by omega), zChip_get b 523 hb (by omega)]; exact zBlock_tail 3
    · simp [newM] at hd
  · have hz : Z89.size = 12578 := by unfold Z89; rw [List.size_toArray, zChip_len]
    unfold N89
    rw [Array.getElem?_setIfInBounds_self_of_lt (by omega)]; rfl
  · rw [N89_get _ (by omega)]; exact zChip_tail 1

theorem Z89_ne : (Z89 = #[]) = False := by
  simp only [eq_iff_iff, iff_false]
  intro h
  have : Z89.size = 12578 := by unfold Z89; rw [List.size_toArray, zChip_len]
  rw [h] at this; simp at this
theorem Z89_set : Z89.setIfInBounds 12576 (.int .i64 (-1)) = N89 := rfl

set_option maxRecDepth 100000 in
set_option maxHeartbeats 1000000 in
theorem new_any (w : World) : Calls Tryz.prog 9 #[] w fun e w' => e = .returned (.pointer (some ⟨w.heap.size, 0, none⟩)) ∧ ChipAt w' w.heap.size newM ∧ Ext w w' ∧ w'.heap.size = w.heap.size + 1 := by
  have z0 := zero89
  have z1 := Z89_ne
  have z2 := Z89_set
  go_enter Tryz.func9, Tryz.ntmps9
  go_wp2
  go_ret
  refine ⟨rfl, ⟨⟨N89, .nilFunc, Blk.new _ _ _, newRep, rfl⟩, fun b d e => by cases e⟩, (Ext.refl _).alloc _, by simp⟩

end Go.Proofs.YtkibgflbidkalaaGreatDoor
