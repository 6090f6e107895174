/- ChpD ChpE. -/
import Derived.Test.YtjeinblcpejpnabGreatDoorChpCJ
import Derived.Deep.RegionHeld3
import Derived.Deep.DrawnRows

/- A page is laid, a block is wiped. -/
namespace Go.Proofs.YtjeinblcpejpnabGreatDoor
open Go.RowKit
attribute [local go_sem ↓] Go.wp_at_zero Go.wp_at_succ

theorem grow_drew {a b : World} {r : Option Nat} (h : a.grownBy b r) : a.grownBy b.drew r := ⟨h.os, h.tape, h.output, h.size, h.block⟩
theorem Tryz.size83 : (Tryz.prog.info? 80).map (·.size) = some 65 := by kernel_rfl

set_option maxRecDepth 100000 in
set_option maxHeartbeats 2000000 in
theorem lay_cells (cb b n : Nat) (P : List Value) (cs : Array Value) (w : World) (hb : b < 24) (hn : n < 8) (hP : P.length = 65) (h1 : ∀ v ∈ P, v.oneCell' = true) (hk : Blk w cb cs 87) (hs : cs.size = 12578) (hnx : cs[b * 524 + 520]? = some (.int .i64 (n : Int))) :
    Calls Tryz.prog 79 #[.pointer (some ⟨cb, b * 524, none⟩), .agg P.toArray] w fun e w' => e = .returned (.tuple #[]) ∧
      Blk w' cb ((putAt cs (b * 524 + n * 65) P).setIfInBounds (b * 524 + 520) (.int .i64 ((n : Int) + 1))) 87 ∧ w.grownBy w' (some cb) := by
  have hi : (Tryz.prog.info? 80).map (·.size) = some P.length := by rw [hP]; exact Tryz.size83
  have hu := Tryz.underlying80
  have c0 := hk.cell (b * 524 + 520)
  rw [hnx] at c0
  have f0 := hk.free (b * 524 + 520)
  have hn0 : (0 : Int) ≤ (n : Int) := by omega
  have hn8 : (n : Int) < 8 := by omega
  go_enter Tryz.func79, Tryz.ntmps79
  go_wp2_with fail
  have hne : ¬ cb = w.heap.size := hk.ne_new
  have S0 : (w.alloc (.cells P.toArray 80)).cell? ⟨cb, b * 524 + 520, none⟩ = some (.int .i64 (n : Int)) := by rw [(hk.alloc _).cell]; exact hnx
  have S1 : (w.alloc (.cells P.toArray 80)).rangeAt w.heap.size 0 P := by
    intro j v hj
    rw [Nat.zero_add, (Blk.new w P.toArray 80).cell]; simpa using hj
  have S2 : (w.alloc (.cells P.toArray 80)).there cb (b * 524 + n * 65) 65 := (hk.alloc _).there (by omega)
  refine wp_region_noPanic ?_
  refine wp_region_held_drew (S := fun w' => w'.cell? ⟨cb, b * 524 + 520, none⟩ = some (.int .i64 (n : Int)) ∧ w'.rangeAt w.heap.size 0 P ∧ w'.there cb (b * 524 + n * 65) 65) (by kernel_rfl) ⟨by simpa using S0, by simpa using S1, by simpa using S2⟩ (fun hHeld => ?_)
  refine wpAnyH_take (i := 0) (oi := { dst := some 4, op := Op.move (Operand.tmp 0), type := 137, pos := "chip.go:184", after := #[], guard := none }) (v := .pointer (some ⟨cb, b * 524, none⟩)) rfl (by kernel_rfl) (by kernel_rfl) (by kernel_rfl) (fun _ _ _ h => h) (Or.inl ⟨by rfl, ?_⟩) hHeld ?_
  · intro w' hS'; go_simp
  simp only [Act.put, List.setIfInBounds_toArray, List.set_cons_zero, List.set_cons_succ]
  refine wpAnyH_take (i := 1) (oi := { dst := some 5, op := Op.move (Operand.tmp 0), type := 137, pos := "chip.go:184", after := #[], guard := none }) (v := .pointer (some ⟨cb, b * 524, none⟩)) rfl (by kernel_rfl) (by kernel_rfl) (by kernel_rfl) (fun _ _ _ h => h) (Or.inl ⟨by rfl, ?_⟩) hHeld ?_
  · intro w' hS'; go_simp
  simp only [Act.put, List.setIfInBounds_toArray, List.set_cons_zero, List.set_cons_succ]
  refine wpAnyH_take (i := 2) (oi := { dst := some 6, op := Op.nilCheck (Operand.tmp 5), type := 0, pos := "chip.go:184", after := #[{ on := 1, ground := Ground.data }], guard := none }) (v := .pointer (some ⟨cb, b * 524, none⟩)) rfl (by kernel_rfl) (by kernel_rfl) (by kernel_rfl) (fun _ _ _ h => h) (Or.inl ⟨by rfl, ?_⟩) hHeld ?_
  · intro w' hS'; go_simp
  simp only [Act.put, List.setIfInBounds_toArray, List.set_cons_zero, List.set_cons_succ]
  refine wpAnyH_take (i := 3) (oi := { dst := some 7, op := Op.fieldAddr 83 (Operand.tmp 6) 1, type := 0, pos := "chip.go:184", after := #[{ on := 2, ground := Ground.data }], guard := none }) (v := .pointer (some ⟨cb, b * 524 + 520, none⟩)) rfl (by kernel_rfl) (by kernel_rfl) (by kernel_rfl) (fun _ _ _ h => h) (Or.inl ⟨by rfl, ?_⟩) hHeld ?_
  · intro w' hS'; go_simp
  simp only [Act.put, List.setIfInBounds_toArray, List.set_cons_zero, List.set_cons_succ]
  refine wpAnyH_take (i := 4) (oi := { dst := some 8, op := Op.load 3 (Operand.tmp 7), type := 3, pos := "chip.go:184", after := #[{ on := 3, ground := Ground.data }], guard := none }) (v := .int .i64 (n : Int)) rfl (by kernel_rfl) (by kernel_rfl) (by kernel_rfl) (fun _ _ _ h => h) (Or.inl ⟨by rfl, ?_⟩) hHeld ?_
  · intro w' hS'; obtain ⟨hS0, _, _⟩ := hS'; go_simp
  simp only [Act.put, List.setIfInBounds_toArray, List.set_cons_zero, List.set_cons_succ]
  refine wpAnyH_take (i := 5) (oi := { dst := some 9, op := Op.load 80 (Operand.tmp 3), type := 80, pos := "chip.go:184", after := #[], guard := none }) (v := .agg P.toArray) rfl (by kernel_rfl) (by kernel_rfl) (by kernel_rfl) (fun _ _ _ h => h) (yieldsIf_load_mid (by rfl) 80 (.tmp 3) rfl w.heap.size 0 rfl P _ (fun w' hS' => hS'.2.1) hu rfl hi) hHeld ?_
  simp only [Act.put, List.setIfInBounds_toArray, List.set_cons_zero, List.set_cons_succ]
  refine wpAnyH_take (i := 6) (oi := { dst := some 10, op := Op.nilCheck (Operand.tmp 4), type := 0, pos := "chip.go:184", after := #[{ on := 0, ground := Ground.data }], guard := none }) (v := .pointer (some ⟨cb, b * 524, none⟩)) rfl (by kernel_rfl) (by kernel_rfl) (by kernel_rfl) (fun _ _ _ h => h) (Or.inl ⟨by rfl, ?_⟩) hHeld ?_
  · intro w' hS'; go_simp
  simp only [Act.put, List.setIfInBounds_toArray, List.set_cons_zero, List.set_cons_succ]
  refine wpAnyH_take (i := 7) (oi := { dst := some 11, op := Op.fieldAddr 83 (Operand.tmp 10) 0, type := 0, pos := "chip.go:184", after := #[{ on := 6, ground := Ground.data }], guard := none }) (v := .pointer (some ⟨cb, b * 524, none⟩)) rfl (by kernel_rfl) (by kernel_rfl) (by kernel_rfl) (fun _ _ _ h => h) (Or.inl ⟨by rfl, ?_⟩) hHeld ?_
  · intro w' hS'; go_simp
  simp only [Act.put, List.setIfInBounds_toArray, List.set_cons_zero, List.set_cons_succ]
  refine wpAnyH_take (i := 8) (oi := { dst := some 12, op := Op.indexAddr 81 (Operand.tmp 11) (Operand.tmp 8), type := 0, pos := "chip.go:184", after := #[{ on := 7, ground := Ground.data }, { on := 4, ground := Ground.data }, { on := 0, ground := Ground.phase }, { on := 1, ground := Ground.phase }, { on := 2, ground := Ground.phase }, { on := 3, ground := Ground.phase }, { on := 4, ground := Ground.phase }, { on := 5, ground := Ground.phase }], guard := none }) (v := .pointer (some ⟨cb, b * 524 + n * 65, none⟩)) rfl (by kernel_rfl) (by kernel_rfl) (by kernel_rfl) (fun _ _ _ h => h) (Or.inl ⟨by rfl, ?_⟩) hHeld ?_
  · intro w' hS'; go_simp
  simp only [Act.put, List.setIfInBounds_toArray, List.set_cons_zero, List.set_cons_succ]
  refine wpAnyH_ready (rs := [9]) (by kernel_rfl) (by simp) ?_
  refine AllReadyH.cons (o := { dst := none, op := Op.store 80 (Operand.tmp 12) (Operand.tmp 9), type := 0, pos := "chip.go:184", after := #[{ on := 8, ground := Ground.data }, { on := 5, ground := Ground.data }, { on := 0, ground := Ground.phase }, { on := 1, ground := Ground.phase }, { on := 2, ground := Ground.phase }, { on := 3, ground := Ground.phase }, { on := 4, ground := Ground.phase }, { on := 5, ground := Ground.phase }], guard := none }) rfl (fun K hK => ?_) AllReadyH.nil
  rw [if_pos (by rfl)]
  refine wp_store_mid 80 (.tmp 12) (.tmp 9) rfl cb (b * 524 + n * 65) P.toArray rfl rfl (by simpa [hP] using hHeld.2.2) (by simpa using hi) (all_oneCell_toArray h1) ?_
  have hkW : Blk ((w.alloc (.cells P.toArray 80)).drew.setCells cb (b * 524 + n * 65) P.toArray.toList) cb (putAt cs (b * 524 + n * 65) P) 87 := by
    have := Blk.setCells P (Blk.drew (hk.alloc (.cells P.toArray 80))) (b * 524 + n * 65)
    simpa using this
  have T0 : ((w.alloc (.cells P.toArray 80)).drew.setCells cb (b * 524 + n * 65) P.toArray.toList).cell? ⟨cb, b * 524 + 520, none⟩ = some (.int .i64 (n : Int)) := by
    rw [hkW.cell, putAt_out _ _ _ _ (by omega)]; exact hnx
  have hgW : w.grownBy ((w.alloc (.cells P.toArray 80)).drew.setCells cb (b * 524 + n * 65) P.toArray.toList) (some cb) := by
    exact grow_trans (grow_drew (grow_alloc w (.cells P.toArray 80) (some cb))) (grow_setCells _ _)
  refine hK.out _ _ ⟨T0, ?_, ?_⟩ (fun _ => ?_)
  · refine World.rangeAt_setCells_apart (by simpa using S1) _ _ _ (.inl (Ne.symm hne))
  · exact World.there_setCells (by simpa using S2) _ _ _
  refine wpAnyH_done (by kernel_rfl) ?_ _
  refine NoPanic.normal ?_
  have T1 := hkW.free (b * 524 + 520)
  simp only [Act.put]
  generalize (w.alloc (.cells P.toArray 80)).drew.setCells cb (b * 524 + n * 65) P.toArray.toList = W at *
  clear S0 S1 S2 hHeld hK hk hnx c0 f0 hi hu
  go_wp2
  go_end0
  exact ⟨rfl, hkW.set _ _, grow_trans hgW (grow_set _ _ _ _)⟩

def pageV (st : Int) : List Value := .int .i64 st :: List.replicate 64 (.int .u8 0)
theorem pageV_len (st : Int) : (pageV st).length = 65 := by simp [pageV]
theorem pageV_one (st : Int) : ∀ v ∈ pageV st, v.oneCell' = true := by
  intro v hv
  simp only [pageV, List.mem_cons, List.mem_replicate] at hv
  rcases hv with rfl | ⟨_, rfl⟩ <;> rfl

def Z83 : Array Value := (pageV 0).toArray
theorem zero83 (w : World) : (zeroValue 80).run Tryz.prog w = .ok (.agg Z83) w := by kernel_rfl
theorem Z83_ne : (Z83 = #[]) = False := by simp [Z83, pageV]
theorem Z83_set (st : Int) : Z83.setIfInBounds 0 (.int .i64 st) = (pageV st).toArray := by simp [Z83, pageV]

theorem store_run (b o : Nat) (l : List Value) (w : World) (ht : w.there b o l.length) (h1 : ∀ v ∈ l, v.oneCell' = true) : (storeCells ⟨b, o, none⟩ l).run Tryz.prog w = .ok () (w.setCells b o l) := by
  have := run_storeCells_cells (P := Tryz.prog) b o l 0 w (fun j hj => by simpa using (ht j hj).1) (fun j hj => by simpa using (ht j hj).2) h1
  simpa using this
/-- Behind k rounds of a wipe. -/
structure Wiped (cs cs' : Array Value) (b k : Nat) (st : Int) : Prop where
  size : cs'.size = cs.size
  out : ∀ i, (i < b * 524 ∨ b * 524 + k * 65 ≤ i) → cs'[i]? = cs[i]?
  ins : ∀ p j, p < k → j < 65 → cs'[b * 524 + p * 65 + j]? = (pageV st)[j]?
set_option maxRecDepth 10000 in
theorem Wiped.step {cs cs' : Array Value} {b k : Nat} {st : Int} (h : Wiped cs cs' b k st) (hk : k < 8) (hb : b < 24) (hs : cs.size = 12578) : Wiped cs (putAt cs' (b * 524 + k * 65) (pageV st)) b (k + 1) st := by
  have hl := pageV_len st
  have hz := h.size
  refine ⟨by rw [putAt_size]; exact h.size, fun i hi => ?_, fun p j hp hj => ?_⟩
  · rw [putAt_out _ _ _ _ (by omega)]; exact h.out i (by omega)
  · by_cases e : p = k
    · subst e
      rw [putAt_in _ _ _ _ (by omega) (by omega)]
    · rw [putAt_out _ _ _ _ (by omega)]; exact h.ins p j (by omega) hj

set_option maxRecDepth 100000 in
set_option maxHeartbeats 2000000 in
theorem wipe_cells (cb b : Nat) (st nx wn : Nat) (cs : Array Value) (w : World) (hb : b < 24) (hwr : wn ≤ 1000000000) (hk : Blk w cb cs 87) (hs : cs.size = 12578)
    (hcw : cs[b * 524 + 521]? = some (.int .i64 (wn : Int))) :
    Calls Tryz.prog 99 #[.pointer (some ⟨cb, b * 524, none⟩), .int .i64 (st : Int), .int .i64 (nx : Int)] w fun e w' => e = .returned (.tuple #[]) ∧
      ∃ cs', Wiped cs cs' b 8 st ∧ Blk w' cb ((cs'.setIfInBounds (b * 524 + 520) (.int .i64 (nx : Int))).setIfInBounds (b * 524 + 521) (.int .i64 ((wn : Int) + 1))) 87 ∧ w.grownBy w' (some cb) := by
  have z0 := zero83
  have z1 := Z83_ne
  have z2 := Z83_set
  go_enter Tryz.func99, Tryz.ntmps99
  go_wp2_with fail
  go_loopw [7] (fun i wx => ∃ (k : Nat) (cs' : Array Value), k ≤ 8 ∧ i = .int .i64 k ∧ Wiped cs cs' b k st ∧ Blk wx cb cs' 87 ∧ w.grownBy wx (some cb)) (fun i _ => 8 - (intOf i).toNat)
  case atStart => exact ⟨0, cs, Nat.zero_le _, rfl, ⟨rfl, fun _ _ => rfl, fun p j hp => absurd hp (Nat.not_lt_zero _)⟩, hk, grow_refl _ _⟩
  case round =>
    obtain ⟨k, cs', hk8, rfl, hw, hkx, hgx⟩ := hrel
    by_cases hlt : k < 8
    · have hlt' : (k : Int) < 8 := by omega
      have hk0 : (0 : Int) ≤ (k : Int) := by omega
      have hth : wr.there cb (b * 524 + k * 65) (pageV (st : Int)).toArray.size := by
        rw [List.size_toArray, pageV_len]; exact hkx.there (by have := hw.size; omega)
      have hw' := hw.step hlt hb hs
      have hkx' := Blk.setCells (pageV (st : Int)) hkx (b * 524 + k * 65)
      have hgx' : w.grownBy (wr.setCells cb (b * 524 + k * 65) (pageV (st : Int))) (some cb) := grow_trans hgx (grow_setCells _ _)
      clear hk hcw hw hkx hgx
      have hsc := store_run cb (b * 524 + k * 65) (pageV (st : Int)) wr (by simpa using hth) (pageV_one _)
      clear hth
      go_wp2
      go_roundw
      case rel => exact ⟨k + 1, _, by omega, by go_num, hw', by simpa using hkx', by simpa using hgx'⟩
      case measure => simp [intOf]; omega
    · have hk88 : k = 8 := by omega
      subst hk88
      have n0 := hkx.cell (b * 524 + 520)
      have n1 := hkx.free (b * 524 + 520)
      have hsz : b * 524 + 520 < cs'.size := by have := hw.size; omega
      rw [Array.getElem?_eq_getElem hsz] at n0
      generalize cs'[b * 524 + 520] = oldn at *
      have m0 := hkx.cell (b * 524 + 521)
      rw [hw.out _ (by omega), hcw] at m0
      have m1 := hkx.free (b * 524 + 521)
      clear hk hcw z0 z1 z2
      go_wp2
      go_end0
      exact ⟨rfl, cs', hw, (hkx.set _ _).set _ _, grow_trans hgx (grow_trans (grow_set _ _ _ _) (grow_set _ _ _ _))⟩

end Go.Proofs.YtjeinblcpejpnabGreatDoor

/- What becomes of a step: the closures. -/
namespace Go.Proofs.YtjeinblcpejpnabGreatDoor
open Go.RowKit

/-- The chip's cells, whatever waits. -/
def CellsAt (w : World) (cb : Nat) (M : CM) : Prop := ∃ cs fv, Blk w cb cs 87 ∧ Rep cs M fv ∧ FellAt w cb M.pend fv

def layM (M : CM) (b : Nat) (p : Pg) : CM := { M with pg := upd M.pg b (M.pg b ++ [p]) }
def wipeM (M : CM) (b : Nat) (l : List Pg) : CM := { M with pg := upd M.pg b l, wr := upd M.wr b (M.wr b + 1) }

set_option maxRecDepth 10000 in
theorem Rep.lay {cs : Array Value} {M : CM} {fv : Value} (h : Rep cs M fv) {b : Nat} (hb : b < 24) (p : Pg) (hl : (M.pg b).length < 8) (hp : ∀ d, p = .whole d → d.length = 64) :
    Rep ((putAt cs (b * 524 + (M.pg b).length * 65) (pgCells p)).setIfInBounds (b * 524 + 520) (.int .i64 (((M.pg b).length : Int) + 1))) (layM M b p) fv := by
  have hs := h.size
  have hlen : (pgCells p).length = 65 := by
    cases p with
    | whole d => simp [pgCells, hp d rfl]
    | torn => simp [pgCells]
  have := h.block (cs' := (putAt cs (b * 524 + (M.pg b).length * 65) (pgCells p)).setIfInBounds (b * 524 + 520) (.int .i64 (((M.pg b).length : Int) + 1))) hb (by simp [putAt_size])
    (fun i hi => by rw [Array.getElem?_setIfInBounds_ne (by omega), putAt_out _ _ _ _ (by rw [hlen]; omega)]) ((h.blk b hb).lay (by omega) p hl hp)
  simpa only [upd_id, layM] using this

theorem stOf_nil (p : Nat) : stOf [] p = 0 := rfl
set_option maxRecDepth 10000 in
theorem BRep.wipe {cs cs' : Array Value} {b : Nat} {l l' : List Pg} {wr : Nat} {wk bd : Bool} {st : Int} (h : BRep cs b l wr wk bd) (hw : Wiped cs cs' b 8 st) (hs : b * 524 + 524 ≤ cs.size) (hst : ∀ p, p < 8 → stOf l' p = st) (hl : l'.length ≤ 8) (hno : ∀ (p : Nat) (d : List UInt8), ¬ l'[p]? = some (Pg.whole d)) :
    BRep ((cs'.setIfInBounds (b * 524 + 520) (.int .i64 (l'.length : Int))).setIfInBounds (b * 524 + 521) (.int .i64 ((wr : Int) + 1))) b l' (wr + 1) wk bd := by
  have hz := hw.size
  refine ⟨fun p hp => ?_, fun p d _ hd => absurd hd (hno p d), ?_, ?_, ?_, ?_, hl, fun p d hd => absurd hd (hno p d)⟩
  · rw [Array.getElem?_setIfInBounds_ne (by omega), Array.getElem?_setIfInBounds_ne (by omega)]
    have := hw.ins p 0 hp (by omega)
    rw [Nat.add_zero] at this
    rw [this, hst p hp]; rfl
  · rw [Array.getElem?_setIfInBounds_ne (by omega), Array.getElem?_setIfInBounds_self_of_lt (by omega)]
  · rw [Array.getElem?_setIfInBounds_self_of_lt (by simp; omega)]; simp
  · rw [Array.getElem?_setIfInBounds_ne (by omega), Array.getElem?_setIfInBounds_ne (by omega), hw.out _ (by omega)]; exact h.cwk
  · rw [Array.getElem?_setIfInBounds_ne (by omega), Array.getElem?_setIfInBounds_ne (by omega), hw.out _ (by omega)]; exact h.cbd
set_option maxRecDepth 10000 in
theorem Rep.wipe {cs cs' : Array Value} {M : CM} {fv : Value} (h : Rep cs M fv) {b : Nat} (hb : b < 24) {st : Int} {l' : List Pg} (hw : Wiped cs cs' b 8 st) (hst : ∀ p, p < 8 → stOf l' p = st) (hl : l'.length ≤ 8) (hno : ∀ (p : Nat) (d : List UInt8), ¬ l'[p]? = some (Pg.whole d)) :
    Rep ((cs'.setIfInBounds (b * 524 + 520) (.int .i64 (l'.length : Int))).setIfInBounds (b * 524 + 521) (.int .i64 ((M.wr b : Int) + 1))) (wipeM M b l') fv := by
  have hs := h.size
  have hz := hw.size
  have := h.block (cs' := (cs'.setIfInBounds (b * 524 + 520) (.int .i64 (l'.length : Int))).setIfInBounds (b * 524 + 521) (.int .i64 ((M.wr b : Int) + 1))) hb (by simp [hz])
    (fun i hi => by rw [Array.getElem?_setIfInBounds_ne (by omega), Array.getElem?_setIfInBounds_ne (by omega), hw.out _ (by omega)]) ((h.blk b hb).wipe hw (by omega) hst hl hno)
  simpa only [upd_id, wipeM] using this

theorem pgCells_len (p : Pg) (hp : ∀ d, p = .whole d → d.length = 64) : (pgCells p).length = 65 := by
  cases p with
  | whole d => simp [pgCells, hp d rfl]
  | torn => simp [pgCells]
theorem pgCells_one (p : Pg) : ∀ v ∈ pgCells p, v.oneCell' = true := by
  intro v hv
  cases p with
  | whole d =>
    simp only [pgCells, List.mem_cons, List.mem_map] at hv
    rcases hv with rfl | ⟨x, _, rfl⟩ <;> rfl
  | torn => exact pageV_one 2 v hv

theorem lay_any (cb b : Nat) (M : CM) (p : Pg) (w : World) (hb : b < 24) (hl : (M.pg b).length < 8) (hp : ∀ d, p = .whole d → d.length = 64) (h : CellsAt w cb M) :
    Calls Tryz.prog 79 #[.pointer (some ⟨cb, b * 524, none⟩), .agg (pgCells p).toArray] w fun e w' => e = .returned (.tuple #[]) ∧ CellsAt w' cb (layM M b p) ∧ w.grownBy w' (some cb) := by
  obtain ⟨cs, fv, h1, h2, h3⟩ := h
  refine (lay_cells cb b (M.pg b).length (pgCells p) cs w hb hl (pgCells_len p hp) (pgCells_one p) h1 h2.size (h2.blk b hb).nx).mono ?_
  rintro e w' ⟨rfl, hk, hg⟩
  exact ⟨rfl, ⟨_, fv, hk, h2.lay hb p hl hp, h3.grown hg⟩, hg⟩
theorem wipe_any (cb b : Nat) (M : CM) (l' : List Pg) (st : Nat) (w : World) (hb : b < 24) (hwr : M.wr b ≤ 1000000000) (hst : ∀ p, p < 8 → stOf l' p = st) (hl : l'.length ≤ 8) (hno : ∀ (p : Nat) (d : List UInt8), ¬ l'[p]? = some (Pg.whole d)) (h : CellsAt w cb M) :
    Calls Tryz.prog 99 #[.pointer (some ⟨cb, b * 524, none⟩), .int .i64 (st : Int), .int .i64 (l'.length : Int)] w fun e w' => e = .returned (.tuple #[]) ∧ CellsAt w' cb (wipeM M b l') ∧ w.grownBy w' (some cb) := by
  obtain ⟨cs, fv, h1, h2, h3⟩ := h
  refine (wipe_cells cb b st l'.length (M.wr b) cs w hb hwr h1 h2.size (h2.blk b hb).cwr).mono ?_
  rintro e w' ⟨rfl, cs', hw, hk, hg⟩
  exact ⟨rfl, ⟨_, fv, hk, h2.wipe hb hw hst hl hno, h3.grown hg⟩, hg⟩
theorem wipe_blank (cb b : Nat) (M : CM) (w : World) (hb : b < 24) (hwr : M.wr b ≤ 1000000000) (h : CellsAt w cb M) :
    Calls Tryz.prog 99 #[.pointer (some ⟨cb, b * 524, none⟩), .int .i64 0, .int .i64 0] w fun e w' => e = .returned (.tuple #[]) ∧ CellsAt w' cb (wipeM M b []) ∧ w.grownBy w' (some cb) :=
  wipe_any cb b M [] 0 w hb hwr (fun _ _ => rfl) (by simp) (by simp) h
theorem torn8 (p : Nat) (hp : p < 8) : (List.replicate 8 Pg.torn)[p]? = some Pg.torn := by rw [List.getElem?_replicate, if_pos hp]
theorem torn_no (p : Nat) (d : List UInt8) (he : (List.replicate 8 Pg.torn)[p]? = some (Pg.whole d)) : False := by
  rcases Nat.lt_or_ge p 8 with h1 | h1
  · rw [torn8 p h1] at he; cases he
  · rw [List.getElem?_eq_none (by simpa using h1)] at he; cases he
theorem wipe_torn (cb b : Nat) (M : CM) (w : World) (hb : b < 24) (hwr : M.wr b ≤ 1000000000) (h : CellsAt w cb M) :
    Calls Tryz.prog 99 #[.pointer (some ⟨cb, b * 524, none⟩), .int .i64 2, .int .i64 8] w fun e w' => e = .returned (.tuple #[]) ∧ CellsAt w' cb (wipeM M b (List.replicate 8 Pg.torn)) ∧ w.grownBy w' (some cb) :=
  wipe_any cb b M (List.replicate 8 Pg.torn) 2 w hb hwr (fun p hp => by unfold stOf; rw [torn8 p hp]; rfl) (by simp) (fun p d he => torn_no p d he) h

set_option maxRecDepth 100000 in
set_option maxHeartbeats 1000000 in
theorem write1_any (cb b kb pb : Nat) (M : CM) (d : List UInt8) (w : World) (hb : b < 24) (hl : (M.pg b).length < 8) (hd : d.length = 64) (h : CellsAt w cb M)
    (hk : Blk w kb #[.pointer (some ⟨cb, b * 524, none⟩)] 137) (hp : Blk w pb (pgCells (.whole d)).toArray 80) :
    Calls Tryz.prog 78 #[.pointer (some ⟨kb, 0, none⟩), .pointer (some ⟨pb, 0, none⟩)] w fun e w' => e = .returned (.tuple #[]) ∧ CellsAt w' cb (layM M b (.whole d)) ∧ w.grownBy w' (some cb) := by
  have c0 := hk.cell 0
  simp only [List.getElem?_toArray, List.getElem?_cons_zero] at c0
  have hr : w.rangeAt pb 0 (pgCells (.whole d)) := by
    intro j v hj
    rw [Nat.zero_add, hp.cell]; simpa using hj
  have HI : Hid ((Tryz.prog.info? 80).map (·.size) = some (pgCells (.whole d)).length) := by
    unfold Hid; rw [pgCells_len _ (by intro d' e; cases e; exact hd)]; exact Tryz.size83
  clear hk hp
  go_enter Tryz.func78, Tryz.ntmps78
  go_wp2_with (first
    | (refine wpList_load_mid rfl 80 (.tmp 1) rfl pb 0 (by rfl) (pgCells (.whole d)) _ hr Tryz.underlying80 rfl HI.out ?_)
    | (go_at_call 79; refine (lay_any cb b M (.whole d) _ hb hl (by intro d' e; cases e; exact hd) h).mono ?_; rintro e w' ⟨rfl, hc, hg⟩))
  go_end0
  exact ⟨rfl, hc, hg⟩

set_option maxRecDepth 100000 in
set_option maxHeartbeats 1000000 in
theorem write2_any (cb b kb : Nat) (M : CM) (w : World) (hb : b < 24) (hl : (M.pg b).length < 8) (h : CellsAt w cb M)
    (hk : Blk w kb #[.pointer (some ⟨cb, b * 524, none⟩)] 137) :
    Calls Tryz.prog 80 #[.pointer (some ⟨kb, 0, none⟩)] w fun e w' => e = .returned (.tuple #[]) ∧ CellsAt w' cb (layM M b .torn) ∧ w.grownBy w' (some cb) := by
  have c0 := hk.cell 0
  simp only [List.getElem?_toArray, List.getElem?_cons_zero] at c0
  have z0 := zero83
  have z1 := Z83_ne
  have z2 := Z83_set 2
  have hlay := lay_any cb b M .torn w hb hl (by intro d e; cases e) h
  have HL : Hid (Calls Tryz.prog 79 #[.pointer (some ⟨cb, b * 524, none⟩), .agg (pageV 2).toArray] w fun e w' => e = .returned (.tuple #[]) ∧ CellsAt w' cb (layM M b .torn) ∧ w.grownBy w' (some cb)) := hlay
  clear hk hlay
  go_enter Tryz.func80, Tryz.ntmps80
  go_wp2_with (go_at_call 79; refine HL.out.mono ?_; rintro e w' ⟨rfl, hc, hg⟩)
  go_end0
  exact ⟨rfl, hc, hg⟩
set_option maxRecDepth 100000 in
set_option maxHeartbeats 1000000 in
theorem erase1_any (cb b kb : Nat) (M : CM) (w : World) (hb : b < 24) (hwr : M.wr b ≤ 1000000000) (h : CellsAt w cb M)
    (hk : Blk w kb #[.pointer (some ⟨cb, b * 524, none⟩)] 137) :
    Calls Tryz.prog 98 #[.pointer (some ⟨kb, 0, none⟩)] w fun e w' => e = .returned (.tuple #[]) ∧ CellsAt w' cb (wipeM M b []) ∧ w.grownBy w' (some cb) := by
  have c0 := hk.cell 0
  simp only [List.getElem?_toArray, List.getElem?_cons_zero] at c0
  clear hk
  go_enter Tryz.func98, Tryz.ntmps98
  go_wp2_with (go_at_call 99; refine (wipe_blank cb b M _ hb hwr h).mono ?_; rintro e w' ⟨rfl, hc, hg⟩)
  go_end0
  exact ⟨rfl, hc, hg⟩
set_option maxRecDepth 100000 in
set_option maxHeartbeats 1000000 in
theorem erase2_any (cb b kb : Nat) (M : CM) (w : World) (hb : b < 24) (hwr : M.wr b ≤ 1000000000) (h : CellsAt w cb M)
    (hk : Blk w kb #[.pointer (some ⟨cb, b * 524, none⟩)] 137) :
    Calls Tryz.prog 100 #[.pointer (some ⟨kb, 0, none⟩)] w fun e w' => e = .returned (.tuple #[]) ∧ CellsAt w' cb (wipeM M b (List.replicate 8 Pg.torn)) ∧ w.grownBy w' (some cb) := by
  have c0 := hk.cell 0
  simp only [List.getElem?_toArray, List.getElem?_cons_zero] at c0
  clear hk
  go_enter Tryz.func100, Tryz.ntmps100
  go_wp2_with (go_at_call 99; refine (wipe_torn cb b M _ hb hwr h).mono ?_; rintro e w' ⟨rfl, hc, hg⟩)
  go_end0
  exact ⟨rfl, hc, hg⟩

end Go.Proofs.YtjeinblcpejpnabGreatDoor
