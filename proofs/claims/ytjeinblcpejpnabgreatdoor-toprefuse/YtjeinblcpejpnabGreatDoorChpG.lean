/- ChpE ChpF ChpG. -/
import Derived.Test.YtjeinblcpejpnabGreatDoorChpD
import Derived.Laws.EntriesVeiled

/- What becomes of a step: the closures. -/
namespace Go.Proofs.YtjeinblcpejpnabGreatDoor
open Go.RowKit

/-- The chip's cells, whatever waits. -/
def CellsAt (w : World) (cb : Nat) (M : CM) : Prop := ∃ cs fv, Blk w cb cs 87 ∧ Rep cs M fv ∧ FellAt w cb M.pend fv

def layM (M : CM) (b : Nat) (p : Pg) : CM := { M with pg := upd M.pg b (M.pg b ++ [p]) }
def wipeM (M : CM) (b : Nat) (l : List Pg) : CM := { M with pg := upd M.pg b l, wr := upd M.wr b (M.wr b + 1) }

set_option maxRecDepth 10000 in
theorem Rep.lay {cs : Array Value} {M : CM} {fv : Value} (h : Rep cs M fv) {b : Nat} (hb : b < 24) (p : Pg) (hl : (M.pg b).length < 8) (hp : ∀ d, p = .whole d → d.length = 64) :
    Rep ((putAt cs (b * 524 + (M.pg b).length * 65) (pgCells p)).setIfInBounds (b * 524 + 520) (.int .i64 (((M.pg b).length : Int) + 1))) (layM M b p) fv := by
  have hs := h.size
  have hlen : (pgCells p).length = 65 := by
    cases p with
    | whole d => simp [pgCells, hp d rfl]
    | torn => simp [pgCells]
  have := h.block (cs' := (putAt cs (b * 524 + (M.pg b).length * 65) (pgCells p)).setIfInBounds (b * 524 + 520) (.int .i64 (((M.pg b).length : Int) + 1))) hb (by simp [putAt_size])
    (fun i hi => by rw [Array.getElem?_setIfInBounds_ne (by omega), putAt_out _ _ _ _ (by rw [hlen]; omega)]) ((h.blk b hb).lay (by omega) p hl hp)
  simpa only [upd_id, layM] using this

theorem stOf_nil (p : Nat) : stOf [] p = 0 := rfl
set_option maxRecDepth 10000 in
theorem BRep.wipe {cs cs' : Array Value} {b : Nat} {l l' : List Pg} {wr : Nat} {wk bd : Bool} {st : Int} (h : BRep cs b l wr wk bd) (hw : Wiped cs cs' b 8 st) (hs : b * 524 + 524 ≤ cs.size) (hst : ∀ p, p < 8 → stOf l' p = st) (hl : l'.length ≤ 8) (hno : ∀ (p : Nat) (d : List UInt8), ¬ l'[p]? = some (Pg.whole d)) :
    BRep ((cs'.setIfInBounds (b * 524 + 520) (.int .i64 (l'.length : Int))).setIfInBounds (b * 524 + 521) (.int .i64 ((wr : Int) + 1))) b l' (wr + 1) wk bd := by
  have hz := hw.size
  refine ⟨fun p hp => ?_, fun p d _ hd => absurd hd (hno p d), ?_, ?_, ?_, ?_, hl, fun p d hd => absurd hd (hno p d)⟩
  · rw [Array.getElem?_setIfInBounds_ne (by omega), Array.getElem?_setIfInBounds_ne (by omega)]
    have := hw.ins p 0 hp (by omega)
    rw [Nat.add_zero] at this
    rw [this, hst p hp]; rfl
  · rw [Array.getElem?_setIfInBounds_ne (by omega), Array.getElem?_setIfInBounds_self_of_lt (by omega)]
  · rw [Array.getElem?_setIfInBounds_self_of_lt (by simp; omega)]; simp
  · rw [Array.getElem?_setIfInBounds_ne (by omega), Array.getElem?_setIfInBounds_ne (by omega), hw.out _ (by omega)]; exact h.cwk
  · rw [Array.getElem?_setIfInBounds_ne (by omega), Array.getElem?_setIfInBounds_ne (by omega), hw.out _ (by omega)]; exact h.cbd
set_option maxRecDepth 10000 in
theorem Rep.wipe {cs cs' : Array Value} {M : CM} {fv : Value} (h : Rep cs M fv) {b : Nat} (hb : b < 24) {st : Int} {l' : List Pg} (hw : Wiped cs cs' b 8 st) (hst : ∀ p, p < 8 → stOf l' p = st) (hl : l'.length ≤ 8) (hno : ∀ (p : Nat) (d : List UInt8), ¬ l'[p]? = some (Pg.whole d)) :
    Rep ((cs'.setIfInBounds (b * 524 + 520) (.int .i64 (l'.length : Int))).setIfInBounds (b * 524 + 521) (.int .i64 ((M.wr b : Int) + 1))) (wipeM M b l') fv := by
  have hs := h.size
  have hz := hw.size
  have := h.block (cs' := (cs'.setIfInBounds (b * 524 + 520) (.int .i64 (l'.length : Int))).setIfInBounds (b * 524 + 521) (.int .i64 ((M.wr b : Int) + 1))) hb (by simp [hz])
    (fun i hi => by rw [Array.getElem?_setIfInBounds_ne (by omega), Array.getElem?_setIfInBounds_ne (by omega), hw.out _ (by omega)]) ((h.blk b hb).wipe hw (by omega) hst hl hno)
  simpa only [upd_id, wipeM] using this

theorem pgCells_len (p : Pg) (hp : ∀ d, p = .whole d → d.length = 64) : (pgCells p).length = 65 := by
  cases p with
  | whole d => simp [pgCells, hp d rfl]
  | torn => simp [pgCells]
theorem pgCells_one (p : Pg) : ∀ v ∈ pgCells p, v.oneCell' = true := by
  intro v hv
  cases p with
  | whole d =>
    simp only [pgCells, List.mem_cons, List.mem_map] at hv
    rcases hv with rfl | ⟨x, _, rfl⟩ <;> rfl
  | torn => exact pageV_one 2 v hv

theorem lay_any (cb b : Nat) (M : CM) (p : Pg) (w : World) (hb : b < 24) (hl : (M.pg b).length < 8) (hp : ∀ d, p = .whole d → d.length = 64) (h : CellsAt w cb M) :
    Calls Tryz.prog 79 #[.pointer (some ⟨cb, b * 524, none⟩), .agg (pgCells p).toArray] w fun e w' => e = .returned (.tuple #[]) ∧ CellsAt w' cb (layM M b p) ∧ w.grownBy w' (some cb) := by
  obtain ⟨cs, fv, h1, h2, h3⟩ := h
  refine (lay_cells cb b (M.pg b).length (pgCells p) cs w hb hl (pgCells_len p hp) (pgCells_one p) h1 h2.size (h2.blk b hb).nx).mono ?_
  rintro e w' ⟨rfl, hk, hg⟩
  exact ⟨rfl, ⟨_, fv, hk, h2.lay hb p hl hp, h3.grown hg⟩, hg⟩
theorem wipe_any (cb b : Nat) (M : CM) (l' : List Pg) (st : Nat) (w : World) (hb : b < 24) (hwr : M.wr b ≤ 1000000000) (hst : ∀ p, p < 8 → stOf l' p = st) (hl : l'.length ≤ 8) (hno : ∀ (p : Nat) (d : List UInt8), ¬ l'[p]? = some (Pg.whole d)) (h : CellsAt w cb M) :
    Calls Tryz.prog 99 #[.pointer (some ⟨cb, b * 524, none⟩), .int .i64 (st : Int), .int .i64 (l'.length : Int)] w fun e w' => e = .returned (.tuple #[]) ∧ CellsAt w' cb (wipeM M b l') ∧ w.grownBy w' (some cb) := by
  obtain ⟨cs, fv, h1, h2, h3⟩ := h
  refine (wipe_cells cb b st l'.length (M.wr b) cs w hb hwr h1 h2.size (h2.blk b hb).cwr).mono ?_
  rintro e w' ⟨rfl, cs', hw, hk, hg⟩
  exact ⟨rfl, ⟨_, fv, hk, h2.wipe hb hw hst hl hno, h3.grown hg⟩, hg⟩
theorem wipe_blank (cb b : Nat) (M : CM) (w : World) (hb : b < 24) (hwr : M.wr b ≤ 1000000000) (h : CellsAt w cb M) :
    Calls Tryz.prog 99 #[.pointer (some ⟨cb, b * 524, none⟩), .int .i64 0, .int .i64 0] w fun e w' => e = .returned (.tuple #[]) ∧ CellsAt w' cb (wipeM M b []) ∧ w.grownBy w' (some cb) :=
  wipe_any cb b M [] 0 w hb hwr (fun _ _ => rfl) (by simp) (by simp) h
theorem torn8 (p : Nat) (hp : p < 8) : (List.replicate 8 Pg.torn)[p]? = some Pg.torn := by rw [List.getElem?_replicate, if_pos hp]
theorem torn_no (p : Nat) (d : List UInt8) (he : (List.replicate 8 Pg.torn)[p]? = some (Pg.whole d)) : False := by
  rcases Nat.lt_or_ge p 8 with h1 | h1
  · rw [torn8 p h1] at he; cases he
  · rw [List.getElem?_eq_none (by simpa using h1)] at he; cases he
theorem wipe_torn (cb b : Nat) (M : CM) (w : World) (hb : b < 24) (hwr : M.wr b ≤ 1000000000) (h : CellsAt w cb M) :
    Calls Tryz.prog 99 #[.pointer (some ⟨cb, b * 524, none⟩), .int .i64 2, .int .i64 8] w fun e w' => e = .returned (.tuple #[]) ∧ CellsAt w' cb (wipeM M b (List.replicate 8 Pg.torn)) ∧ w.grownBy w' (some cb) :=
  wipe_any cb b M (List.replicate 8 Pg.torn) 2 w hb hwr (fun p hp => by unfold stOf; rw [torn8 p hp]; rfl) (by simp) (fun p d he => torn_no p d he) h

set_option maxRecDepth 100000 in
set_option maxHeartbeats 1000000 in
theorem write1_any (cb b kb pb : Nat) (M : CM) (d : List UInt8) (w : World) (hb : b < 24) (hl : (M.pg b).length < 8) (hd : d.length = 64) (h : CellsAt w cb M)
    (hk : Blk w kb #[.pointer (some ⟨cb, b * 524, none⟩)] 137) (hp : Blk w pb (pgCells (.whole d)).toArray 80) :
    Calls Tryz.prog 78 #[.pointer (some ⟨kb, 0, none⟩), .pointer (some ⟨pb, 0, none⟩)] w fun e w' => e = .returned (.tuple #[]) ∧ CellsAt w' cb (layM M b (.whole d)) ∧ w.grownBy w' (some cb) := by
  have c0 := hk.cell 0
  simp only [List.getElem?_toArray, List.getElem?_cons_zero] at c0
  have hr : w.rangeAt pb 0 (pgCells (.whole d)) := by
    intro j v hj
    rw [Nat.zero_add, hp.cell]; simpa using hj
  have HI : Hid ((Tryz.prog.info? 80).map (·.size) = some (pgCells (.whole d)).length) := by
    unfold Hid; rw [pgCells_len _ (by intro d' e; cases e; exact hd)]; exact Tryz.size83
  clear hk hp
  go_enter Tryz.func78, Tryz.ntmps78
  go_wp2_with (first
    | (refine wpList_load_mid rfl 80 (.tmp 1) rfl pb 0 (by rfl) (pgCells (.whole d)) _ hr Tryz.underlying80 rfl HI.out ?_)
    | (go_at_call 79; refine (lay_any cb b M (.whole d) _ hb hl (by intro d' e; cases e; exact hd) h).mono ?_; rintro e w' ⟨rfl, hc, hg⟩))
  go_end0
  exact ⟨rfl, hc, hg⟩

set_option maxRecDepth 100000 in
set_option maxHeartbeats 1000000 in
theorem write2_any (cb b kb : Nat) (M : CM) (w : World) (hb : b < 24) (hl : (M.pg b).length < 8) (h : CellsAt w cb M)
    (hk : Blk w kb #[.pointer (some ⟨cb, b * 524, none⟩)] 137) :
    Calls Tryz.prog 80 #[.pointer (some ⟨kb, 0, none⟩)] w fun e w' => e = .returned (.tuple #[]) ∧ CellsAt w' cb (layM M b .torn) ∧ w.grownBy w' (some cb) := by
  have c0 := hk.cell 0
  simp only [List.getElem?_toArray, List.getElem?_cons_zero] at c0
  have z0 := zero83
  have z1 := Z83_ne
  have z2 := Z83_set 2
  have hlay := lay_any cb b M .torn w hb hl (by intro d e; cases e) h
  have HL : Hid (Calls Tryz.prog 79 #[.pointer (some ⟨cb, b * 524, none⟩), .agg (pageV 2).toArray] w fun e w' => e = .returned (.tuple #[]) ∧ CellsAt w' cb (layM M b .torn) ∧ w.grownBy w' (some cb)) := hlay
  clear hk hlay
  go_enter Tryz.func80, Tryz.ntmps80
  go_wp2_with (go_at_call 79; refine HL.out.mono ?_; rintro e w' ⟨rfl, hc, hg⟩)
  go_end0
  exact ⟨rfl, hc, hg⟩
set_option maxRecDepth 100000 in
set_option maxHeartbeats 1000000 in
theorem erase1_any (cb b kb : Nat) (M : CM) (w : World) (hb : b < 24) (hwr : M.wr b ≤ 1000000000) (h : CellsAt w cb M)
    (hk : Blk w kb #[.pointer (some ⟨cb, b * 524, none⟩)] 137) :
    Calls Tryz.prog 98 #[.pointer (some ⟨kb, 0, none⟩)] w fun e w' => e = .returned (.tuple #[]) ∧ CellsAt w' cb (wipeM M b []) ∧ w.grownBy w' (some cb) := by
  have c0 := hk.cell 0
  simp only [List.getElem?_toArray, List.getElem?_cons_zero] at c0
  clear hk
  go_enter Tryz.func98, Tryz.ntmps98
  go_wp2_with (go_at_call 99; refine (wipe_blank cb b M _ hb hwr h).mono ?_; rintro e w' ⟨rfl, hc, hg⟩)
  go_end0
  exact ⟨rfl, hc, hg⟩
set_option maxRecDepth 100000 in
set_option maxHeartbeats 1000000 in
theorem erase2_any (cb b kb : Nat) (M : CM) (w : World) (hb : b < 24) (hwr : M.wr b ≤ 1000000000) (h : CellsAt w cb M)
    (hk : Blk w kb #[.pointer (some ⟨cb, b * 524, none⟩)] 137) :
    Calls Tryz.prog 100 #[.pointer (some ⟨kb, 0, none⟩)] w fun e w' => e = .returned (.tuple #[]) ∧ CellsAt w' cb (wipeM M b (List.replicate 8 Pg.torn)) ∧ w.grownBy w' (some cb) := by
  have c0 := hk.cell 0
  simp only [List.getElem?_toArray, List.getElem?_cons_zero] at c0
  clear hk
  go_enter Tryz.func100, Tryz.ntmps100
  go_wp2_with (go_at_call 99; refine (wipe_torn cb b M _ hb hwr h).mono ?_; rintro e w' ⟨rfl, hc, hg⟩)
  go_end0
  exact ⟨rfl, hc, hg⟩

end Go.Proofs.YtjeinblcpejpnabGreatDoor

/- A step is done, or the machine falls in it; Restart. -/
namespace Go.Proofs.YtjeinblcpejpnabGreatDoor
open Go.RowKit

def doneM (M : CM) : Pend → CM
  | .write b d => layM M b (.whole d)
  | .erase b => wipeM M b []
def halfM (M : CM) : Pend → CM
  | .write b _ => layM M b .torn
  | .erase b => wipeM M b (List.replicate 8 Pg.torn)
/-- One step fewer goes well. -/
def tickM (M : CM) : CM := if 0 < M.left then { M with left := M.left - 1 } else M
def WrOk (M : CM) : Prop := ∀ b, b < 24 → M.wr b ≤ 1000000000

theorem CellsAt.left {w : World} {cb : Nat} {M : CM} (h : CellsAt w cb M) : w.cell? ⟨cb, 12576, none⟩ = some (.int .i64 M.left) ∧ w.frozen? ⟨cb, 12576, none⟩ = false := by
  obtain ⟨cs, fv, h1, h2, _⟩ := h
  exact ⟨by rw [h1.cell]; exact h2.left, h1.free _⟩
theorem CellsAt.fell {w : World} {cb : Nat} {M : CM} (h : CellsAt w cb M) : (∃ v, w.cell? ⟨cb, 12577, none⟩ = some v) ∧ w.frozen? ⟨cb, 12577, none⟩ = false := by
  obtain ⟨cs, fv, h1, h2, _⟩ := h
  exact ⟨⟨fv, by rw [h1.cell]; exact h2.fell⟩, h1.free _⟩
theorem CellsAt.lt {w : World} {cb : Nat} {M : CM} (h : CellsAt w cb M) : cb < w.heap.size := by
  obtain ⟨cs, fv, h1, _⟩ := h
  exact h1.lt
theorem CellsAt.ext {w w' : World} {cb : Nat} {M : CM} (h : CellsAt w cb M) (hx : Ext w w') : CellsAt w' cb M := by
  obtain ⟨cs, fv, h1, h2, h3⟩ := h
  exact ⟨cs, fv, h1.ext hx, h2, h3.grown (grow_ext hx _)⟩
theorem CellsAt.setLeft {w : World} {cb : Nat} {M : CM} (h : CellsAt w cb M) (n : Int) : CellsAt (w.setCell ⟨cb, 12576, none⟩ (.int .i64 n)) cb { M with left := n } := by
  obtain ⟨cs, fv, h1, h2, h3⟩ := h
  exact ⟨_, fv, h1.set _ _, h2.setLeft n, h3.grown (grow_set _ _ _ _)⟩
theorem CellsAt.setFell {w : World} {cb : Nat} {M : CM} (h : CellsAt w cb M) (v : Value) (p : Option Pend) (hf : FellAt (w.setCell ⟨cb, 12577, none⟩ v) cb p v) : CellsAt (w.setCell ⟨cb, 12577, none⟩ v) cb { M with pend := p } := by
  obtain ⟨cs, fv, h1, h2, h3⟩ := h
  exact ⟨_, v, h1.set _ _, h2.setFell v p, hf⟩

set_option maxRecDepth 100000 in
set_option maxHeartbeats 1000000 in
/-- The machine falls. -/
theorem step_fall (cb f1 f2 : Nat) (c1 c2 : Array Value) (M : CM) (w : World) (h : CellsAt w cb M) (hl : M.left = 0) :
    Calls Tryz.prog 77 #[.pointer (some ⟨cb, 0, none⟩), .func (.func f1) #[] c1, .func (.func f2) #[] c2] w fun e w' => e = .returned (.iface 88 (.int .i64 9)) ∧
      w' = ((w.setCell ⟨cb, 12577, none⟩ (fellV w.heap.size (w.heap.size + 1))).alloc (.cells #[.func (.func f1) #[] c1] 1)).alloc (.cells #[.func (.func f2) #[] c2] 1) := by
  obtain ⟨c0, _⟩ := h.left
  rw [hl] at c0
  obtain ⟨⟨fv, c1'⟩, f1'⟩ := h.fell
  have hlt := h.lt
  have hx : Ext w ((w.alloc (.cells #[.func (.func f1) #[] c1] 1)).alloc (.cells #[.func (.func f2) #[] c2] 1)) := ((Ext.refl w).alloc _).alloc _
  have G1 := (h.ext hx).fell.2
  have G0 := hx.cell c1'
  clear h hl hx f1' c1'
  go_enter Tryz.func77, Tryz.ntmps77
  go_wp2
  go_ret
  exact ⟨rfl, rfl⟩

theorem box_mono {w w' : World} {cb : Nat} {M : CM} (h : CellsAt w cb M) (hx : Ext w w') : w.grownBy w' (some cb) ∧ CellsAt w' cb M := ⟨grow_ext hx _, h.ext hx⟩

set_option maxRecDepth 100000 in
set_option maxHeartbeats 1000000 in
/-- The step is done: function 46. -/
theorem step_go46 (cb f2 : Nat) (c1 c2 : Array Value) (M M' : CM) (w : World) (h : CellsAt w cb M) (hl : ¬ M.left = 0) (hub : M.left ≤ 9223372036854775807)
    (hf : ∀ W, w.grownBy W (some cb) → CellsAt W cb (tickM M) → Calls Tryz.prog 78 c1 W fun e w' => e = .returned (.tuple #[]) ∧ CellsAt w' cb M' ∧ W.grownBy w' (some cb)) :
    Calls Tryz.prog 77 #[.pointer (some ⟨cb, 0, none⟩), .func (.func 78) #[] c1, .func (.func f2) #[] c2] w fun e w' => e = .returned .nilIface ∧ CellsAt w' cb M' ∧ w.grownBy w' (some cb) := by
  have hlt := h.lt
  have hne : ¬ w.heap.size = cb := by omega
  obtain ⟨G0, G1⟩ := h.left
  have hlz : (M.left == 0) = false := by simpa using hl
  by_cases hpos : 0 < M.left
  · have HT : Hid (tickM M = { M with left := M.left - 1 }) := by unfold tickM Hid; rw [if_pos hpos]
    have hx : Ext (w.setCell ⟨cb, 12576, none⟩ (.int .i64 (M.left - 1))) (((w.setCell ⟨cb, 12576, none⟩ (.int .i64 (M.left - 1))).alloc (.cells #[.func (.func 78) #[] c1] 1)).alloc (.cells #[.func (.func f2) #[] c2] 1)) := ((Ext.refl _).alloc _).alloc _
    have hc3 := (h.setLeft (M.left - 1)).ext hx
    have hg3 := grow_trans (grow_set w cb 12576 (.int .i64 (M.left - 1))) (grow_ext hx (some cb))
    have HC : Hid (Calls Tryz.prog 78 c1 (((w.setCell ⟨cb, 12576, none⟩ (.int .i64 (M.left - 1))).alloc (.cells #[.func (.func 78) #[] c1] 1)).alloc (.cells #[.func (.func f2) #[] c2] 1)) fun e w' => e = .returned (.tuple #[]) ∧ CellsAt w' cb M' ∧ World.grownBy (((w.setCell ⟨cb, 12576, none⟩ (.int .i64 (M.left - 1))).alloc (.cells #[.func (.func 78) #[] c1] 1)).alloc (.cells #[.func (.func f2) #[] c2] 1)) w' (some cb)) := hf _ hg3 (by rw [HT.out]; exact hc3)
    have HG : Hid (w.grownBy (((w.setCell ⟨cb, 12576, none⟩ (.int .i64 (M.left - 1))).alloc (.cells #[.func (.func 78) #[] c1] 1)).alloc (.cells #[.func (.func f2) #[] c2] 1)) (some cb)) := hg3
    clear hf h hc3 hx hl hg3 HT
    generalize M.left = lf at *
    go_enter Tryz.func77, Tryz.ntmps77
    go_wp2_with (go_at_call 78; refine HC.out.mono ?_; rintro e w' ⟨rfl, hc4, hg4⟩)
    go_ret
    exact ⟨rfl, hc4, grow_trans HG.out hg4⟩
  · have HT : Hid (tickM M = M) := by unfold tickM Hid; rw [if_neg hpos]
    have hx : Ext w ((w.alloc (.cells #[.func (.func 78) #[] c1] 1)).alloc (.cells #[.func (.func f2) #[] c2] 1)) := ((Ext.refl _).alloc _).alloc _
    have hc3 := h.ext hx
    have hg3 := grow_ext hx (some cb)
    have HC : Hid (Calls Tryz.prog 78 c1 ((w.alloc (.cells #[.func (.func 78) #[] c1] 1)).alloc (.cells #[.func (.func f2) #[] c2] 1)) fun e w' => e = .returned (.tuple #[]) ∧ CellsAt w' cb M' ∧ World.grownBy ((w.alloc (.cells #[.func (.func 78) #[] c1] 1)).alloc (.cells #[.func (.func f2) #[] c2] 1)) w' (some cb)) := hf _ hg3 (by rw [HT.out]; exact hc3)
    have HG : Hid (w.grownBy ((w.alloc (.cells #[.func (.func 78) #[] c1] 1)).alloc (.cells #[.func (.func f2) #[] c2] 1)) (some cb)) := hg3
    clear hf h hc3 hx hl hg3 HT
    generalize M.left = lf at *
    go_enter Tryz.func77, Tryz.ntmps77
    go_wp2_with (go_at_call 78; refine HC.out.mono ?_; rintro e w' ⟨rfl, hc4, hg4⟩)
    go_ret
    exact ⟨rfl, hc4, grow_trans HG.out hg4⟩

set_option maxRecDepth 100000 in
set_option maxHeartbeats 1000000 in
/-- The step is done: function 51. -/
theorem step_go51 (cb f2 : Nat) (c1 c2 : Array Value) (M M' : CM) (w : World) (h : CellsAt w cb M) (hl : ¬ M.left = 0) (hub : M.left ≤ 9223372036854775807)
    (hf : ∀ W, w.grownBy W (some cb) → CellsAt W cb (tickM M) → Calls Tryz.prog 98 c1 W fun e w' => e = .returned (.tuple #[]) ∧ CellsAt w' cb M' ∧ W.grownBy w' (some cb)) :
    Calls Tryz.prog 77 #[.pointer (some ⟨cb, 0, none⟩), .func (.func 98) #[] c1, .func (.func f2) #[] c2] w fun e w' => e = .returned .nilIface ∧ CellsAt w' cb M' ∧ w.grownBy w' (some cb) := by
  have hlt := h.lt
  have hne : ¬ w.heap.size = cb := by omega
  obtain ⟨G0, G1⟩ := h.left
  have hlz : (M.left == 0) = false := by simpa using hl
  by_cases hpos : 0 < M.left
  · have HT : Hid (tickM M = { M with left := M.left - 1 }) := by unfold tickM Hid; rw [if_pos hpos]
    have hx : Ext (w.setCell ⟨cb, 12576, none⟩ (.int .i64 (M.left - 1))) (((w.setCell ⟨cb, 12576, none⟩ (.int .i64 (M.left - 1))).alloc (.cells #[.func (.func 98) #[] c1] 1)).alloc (.cells #[.func (.func f2) #[] c2] 1)) := ((Ext.refl _).alloc _).alloc _
    have hc3 := (h.setLeft (M.left - 1)).ext hx
    have hg3 := grow_trans (grow_set w cb 12576 (.int .i64 (M.left - 1))) (grow_ext hx (some cb))
    have HC : Hid (Calls Tryz.prog 98 c1 (((w.setCell ⟨cb, 12576, none⟩ (.int .i64 (M.left - 1))).alloc (.cells #[.func (.func 98) #[] c1] 1)).alloc (.cells #[.func (.func f2) #[] c2] 1)) fun e w' => e = .returned (.tuple #[]) ∧ CellsAt w' cb M' ∧ World.grownBy (((w.setCell ⟨cb, 12576, none⟩ (.int .i64 (M.left - 1))).alloc (.cells #[.func (.func 98) #[] c1] 1)).alloc (.cells #[.func (.func f2) #[] c2] 1)) w' (some cb)) := hf _ hg3 (by rw [HT.out]; exact hc3)
    have HG : Hid (w.grownBy (((w.setCell ⟨cb, 12576, none⟩ (.int .i64 (M.left - 1))).alloc (.cells #[.func (.func 98) #[] c1] 1)).alloc (.cells #[.func (.func f2) #[] c2] 1)) (some cb)) := hg3
    clear hf h hc3 hx hl hg3 HT
    generalize M.left = lf at *
    go_enter Tryz.func77, Tryz.ntmps77
    go_wp2_with (go_at_call 98; refine HC.out.mono ?_; rintro e w' ⟨rfl, hc4, hg4⟩)
    go_ret
    exact ⟨rfl, hc4, grow_trans HG.out hg4⟩
  · have HT : Hid (tickM M = M) := by unfold tickM Hid; rw [if_neg hpos]
    have hx : Ext w ((w.alloc (.cells #[.func (.func 98) #[] c1] 1)).alloc (.cells #[.func (.func f2) #[] c2] 1)) := ((Ext.refl _).alloc _).alloc _
    have hc3 := h.ext hx
    have hg3 := grow_ext hx (some cb)
    have HC : Hid (Calls Tryz.prog 98 c1 ((w.alloc (.cells #[.func (.func 98) #[] c1] 1)).alloc (.cells #[.func (.func f2) #[] c2] 1)) fun e w' => e = .returned (.tuple #[]) ∧ CellsAt w' cb M' ∧ World.grownBy ((w.alloc (.cells #[.func (.func 98) #[] c1] 1)).alloc (.cells #[.func (.func f2) #[] c2] 1)) w' (some cb)) := hf _ hg3 (by rw [HT.out]; exact hc3)
    have HG : Hid (w.grownBy ((w.alloc (.cells #[.func (.func 98) #[] c1] 1)).alloc (.cells #[.func (.func f2) #[] c2] 1)) (some cb)) := hg3
    clear hf h hc3 hx hl hg3 HT
    generalize M.left = lf at *
    go_enter Tryz.func77, Tryz.ntmps77
    go_wp2_with (go_at_call 98; refine HC.out.mono ?_; rintro e w' ⟨rfl, hc4, hg4⟩)
    go_ret
    exact ⟨rfl, hc4, grow_trans HG.out hg4⟩

end Go.Proofs.YtjeinblcpejpnabGreatDoor

/- Restart. -/
namespace Go.Proofs.YtjeinblcpejpnabGreatDoor
open Go.RowKit

def stepped (M : CM) (p : Pend) (how : Int) : CM := if how = 2 then doneM M p else if how = 1 then halfM M p else M
def restartM (M : CM) (how : Int) : CM := match M.pend with
  | none => { M with left := -1, pend := none }
  | some p => { stepped M p how with left := -1, pend := none }

set_option maxRecDepth 100000 in
set_option maxHeartbeats 1000000 in
theorem fell_none (b1 b2 : Nat) (how : Int) (w : World) (h1 : ¬ how = 1) (h2 : ¬ how = 2) :
    Calls Tryz.prog 102 #[.int .i64 how, .pointer (some ⟨b1, 0, none⟩), .pointer (some ⟨b2, 0, none⟩)] w fun e w' => e = .returned (.tuple #[]) ∧ w' = w := by
  have h1' : (how == 1) = false := by simpa using h1
  have h2' : (how == 2) = false := by simpa using h2
  clear h1 h2
  go_enter Tryz.func102, Tryz.ntmps102
  go_wp2
  go_end0
  exact ⟨rfl, rfl⟩

set_option maxRecDepth 100000 in
set_option maxHeartbeats 1000000 in
theorem fell_46 (cb b1 b2 : Nat) (c : Array Value) (M' : CM) (w : World) (hb : Blk w b1 #[.func (.func 78) #[] c] 1)
    (hf : Calls Tryz.prog 78 c w fun e w' => e = .returned (.tuple #[]) ∧ CellsAt w' cb M' ∧ w.grownBy w' (some cb)) :
    Calls Tryz.prog 102 #[.int .i64 2, .pointer (some ⟨b1, 0, none⟩), .pointer (some ⟨b2, 0, none⟩)] w fun e w' => e = .returned (.tuple #[]) ∧ CellsAt w' cb M' ∧ w.grownBy w' (some cb) := by
  have B0 := hb.cell 0
  simp only [List.getElem?_toArray, List.getElem?_cons_zero] at B0
  have HF : Hid (Calls Tryz.prog 78 c w fun e w' => e = .returned (.tuple #[]) ∧ CellsAt w' cb M' ∧ w.grownBy w' (some cb)) := hf
  clear hf hb
  go_enter Tryz.func102, Tryz.ntmps102
  go_wp2_with (go_at_call 78; refine HF.out.mono ?_; rintro e w' ⟨rfl, hc, hg⟩)
  go_end0
  exact ⟨rfl, hc, hg⟩

set_option maxRecDepth 100000 in
set_option maxHeartbeats 1000000 in
theorem fell_48 (cb b1 b2 : Nat) (c : Array Value) (M' : CM) (w : World) (hb : Blk w b2 #[.func (.func 80) #[] c] 1)
    (hf : Calls Tryz.prog 80 c w fun e w' => e = .returned (.tuple #[]) ∧ CellsAt w' cb M' ∧ w.grownBy w' (some cb)) :
    Calls Tryz.prog 102 #[.int .i64 1, .pointer (some ⟨b1, 0, none⟩), .pointer (some ⟨b2, 0, none⟩)] w fun e w' => e = .returned (.tuple #[]) ∧ CellsAt w' cb M' ∧ w.grownBy w' (some cb) := by
  have B0 := hb.cell 0
  simp only [List.getElem?_toArray, List.getElem?_cons_zero] at B0
  have HF : Hid (Calls Tryz.prog 80 c w fun e w' => e = .returned (.tuple #[]) ∧ CellsAt w' cb M' ∧ w.grownBy w' (some cb)) := hf
  clear hf hb
  go_enter Tryz.func102, Tryz.ntmps102
  go_wp2_with (go_at_call 80; refine HF.out.mono ?_; rintro e w' ⟨rfl, hc, hg⟩)
  go_end0
  exact ⟨rfl, hc, hg⟩

set_option maxRecDepth 100000 in
set_option maxHeartbeats 1000000 in
theorem fell_51 (cb b1 b2 : Nat) (c : Array Value) (M' : CM) (w : World) (hb : Blk w b1 #[.func (.func 98) #[] c] 1)
    (hf : Calls Tryz.prog 98 c w fun e w' => e = .returned (.tuple #[]) ∧ CellsAt w' cb M' ∧ w.grownBy w' (some cb)) :
    Calls Tryz.prog 102 #[.int .i64 2, .pointer (some ⟨b1, 0, none⟩), .pointer (some ⟨b2, 0, none⟩)] w fun e w' => e = .returned (.tuple #[]) ∧ CellsAt w' cb M' ∧ w.grownBy w' (some cb) := by
  have B0 := hb.cell 0
  simp only [List.getElem?_toArray, List.getElem?_cons_zero] at B0
  have HF : Hid (Calls Tryz.prog 98 c w fun e w' => e = .returned (.tuple #[]) ∧ CellsAt w' cb M' ∧ w.grownBy w' (some cb)) := hf
  clear hf hb
  go_enter Tryz.func102, Tryz.ntmps102
  go_wp2_with (go_at_call 98; refine HF.out.mono ?_; rintro e w' ⟨rfl, hc, hg⟩)
  go_end0
  exact ⟨rfl, hc, hg⟩

set_option maxRecDepth 100000 in
set_option maxHeartbeats 1000000 in
theorem fell_53 (cb b1 b2 : Nat) (c : Array Value) (M' : CM) (w : World) (hb : Blk w b2 #[.func (.func 100) #[] c] 1)
    (hf : Calls Tryz.prog 100 c w fun e w' => e = .returned (.tuple #[]) ∧ CellsAt w' cb M' ∧ w.grownBy w' (some cb)) :
    Calls Tryz.prog 102 #[.int .i64 1, .pointer (some ⟨b1, 0, none⟩), .pointer (some ⟨b2, 0, none⟩)] w fun e w' => e = .returned (.tuple #[]) ∧ CellsAt w' cb M' ∧ w.grownBy w' (some cb) := by
  have B0 := hb.cell 0
  simp only [List.getElem?_toArray, List.getElem?_cons_zero] at B0
  have HF : Hid (Calls Tryz.prog 100 c w fun e w' => e = .returned (.tuple #[]) ∧ CellsAt w' cb M' ∧ w.grownBy w' (some cb)) := hf
  clear hf hb
  go_enter Tryz.func102, Tryz.ntmps102
  go_wp2_with (go_at_call 100; refine HF.out.mono ?_; rintro e w' ⟨rfl, hc, hg⟩)
  go_end0
  exact ⟨rfl, hc, hg⟩

theorem fell_any (cb : Nat) (how : Int) (p : Pend) (M : CM) (w : World) (h : ChipAt w cb M) (hp : M.pend = some p) (hwr : WrOk M) :
    ∃ b1 b2, w.cell? ⟨cb, 12577, none⟩ = some (fellV b1 b2) ∧
      Calls Tryz.prog 102 #[.int .i64 how, .pointer (some ⟨b1, 0, none⟩), .pointer (some ⟨b2, 0, none⟩)] w fun e w' => e = .returned (.tuple #[]) ∧ CellsAt w' cb (stepped M p how) ∧ w.grownBy w' (some cb) := by
  obtain ⟨hcells, hok⟩ := h
  have hcells' : CellsAt w cb M := hcells
  obtain ⟨cs, fv, k1, k2, k3⟩ := hcells
  have hc := k1.cell 12577
  rw [k2.fell] at hc
  rw [hp] at k3
  have hnone : ∀ b1 b2, ¬ how = 1 → ¬ how = 2 → Calls Tryz.prog 102 #[.int .i64 how, .pointer (some ⟨b1, 0, none⟩), .pointer (some ⟨b2, 0, none⟩)] w fun e w' => e = .returned (.tuple #[]) ∧ CellsAt w' cb (stepped M p how) ∧ w.grownBy w' (some cb) := by
    intro b1 b2 h1 h2
    refine (fell_none b1 b2 how w h1 h2).mono ?_
    rintro e w' ⟨rfl, rfl⟩
    refine ⟨rfl, ?_, grow_refl _ _⟩
    unfold stepped; rw [if_neg h2, if_neg h1]; exact hcells'
  match p, k3 with
  | .write b d, ⟨b1, b2, kb, pb, e, n1, n2, n3, n4, hb, hd, j1, j2, j3, j4⟩ =>
    refine ⟨b1, b2, by rw [hc, e], ?_⟩
    by_cases h2 : how = 2
    · subst h2
      exact fell_46 cb b1 b2 _ _ w j1 (write1_any cb b kb pb M d w hb (hok b d hp) hd hcells' j3 j4)
    · by_cases h1 : how = 1
      · subst h1
        exact fell_48 cb b1 b2 _ _ w j2 (write2_any cb b kb M w hb (hok b d hp) hcells' j3)
      · exact hnone b1 b2 h1 h2
  | .erase b, ⟨b1, b2, kb, e, n1, n2, n3, hb, j1, j2, j3⟩ =>
    refine ⟨b1, b2, by rw [hc, e], ?_⟩
    by_cases h2 : how = 2
    · subst h2
      exact fell_51 cb b1 b2 _ _ w j1 (erase1_any cb b kb M w hb (hwr b hb) hcells' j3)
    · by_cases h1 : how = 1
      · subst h1
        exact fell_53 cb b1 b2 _ _ w j2 (erase2_any cb b kb M w hb (hwr b hb) hcells' j3)
      · exact hnone b1 b2 h1 h2

theorem CellsAt.fin {w : World} {cb : Nat} {M : CM} (h : CellsAt w cb M) : ChipAt ((w.setCell ⟨cb, 12577, none⟩ .nilFunc).setCell ⟨cb, 12576, none⟩ (.int .i64 (-1))) cb { M with left := -1, pend := none } ∧ w.grownBy ((w.setCell ⟨cb, 12577, none⟩ .nilFunc).setCell ⟨cb, 12576, none⟩ (.int .i64 (-1))) (some cb) := by
  have h1 := (h.setFell .nilFunc none rfl).setLeft (-1)
  exact ⟨⟨h1, fun b d e => by cases e⟩, grow_trans (grow_set _ _ _ _) (grow_set _ _ _ _)⟩

end Go.Proofs.YtjeinblcpejpnabGreatDoor
