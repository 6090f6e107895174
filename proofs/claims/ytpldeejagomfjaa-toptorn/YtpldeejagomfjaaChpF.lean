
/- A step is done, or the machine falls in it; Restart. -/
import Derived.Test.YtpldeejagomfjaaChpE
import Derived.Laws.EntriesVeiled
namespace Go.Proofs.Ytpldeejagomfjaa
open Go.RowKit

def doneM (M : CM) : Pend → CM
  | .write b d => layM M b (.whole d)
  | .erase b => wipeM M b []
def halfM (M : CM) : Pend → CM
  | .write b _ => layM M b .torn
  | .erase b => wipeM M b (List.replicate 8 Pg.torn)
/-- One step fewer goes well. -/
def tickM (M : CM) : CM := if 0 < M.left then { M with left := M.left - 1 } else M
def WrOk (M : CM) : Prop := ∀ b, b < 24 → M.wr b ≤ 1000000000

theorem CellsAt.left {w : World} {cb : Nat} {M : CM} (h : CellsAt w cb M) : w.cell? ⟨cb, 12576, none⟩ = some (.int .i64 M.left) ∧ w.frozen? ⟨cb, 12576, none⟩ = false := by
  obtain ⟨cs, fv, h1, h2, _⟩ := h
  exact ⟨by rw [h1.cell]; exact h2.left, h1.free _⟩
theorem CellsAt.fell {w : World} {cb : Nat} {M : CM} (h : CellsAt w cb M) : (∃ v, w.cell? ⟨cb, 12577, none⟩ = some v) ∧ w.frozen? ⟨cb, 12577, none⟩ = false := by
  obtain ⟨cs, fv, h1, h2, _⟩ := h
  exact ⟨⟨fv, by rw [h1.cell]; exact h2.fell⟩, h1.free _⟩
theorem CellsAt.lt {w : World} {cb : Nat} {M : CM} (h : CellsAt w cb M) : cb < w.heap.size := by
  obtain ⟨cs, fv, h1, _⟩ := h
  exact h1.lt
theorem CellsAt.ext {w w' : World} {cb : Nat} {M : CM} (h : CellsAt w cb M) (hx : Ext w w') : CellsAt w' cb M := by
  obtain ⟨cs, fv, h1, h2, h3⟩ := h
  exact ⟨cs, fv, h1.ext hx, h2, h3.grown (grow_ext hx _)⟩
theorem CellsAt.setLeft {w : World} {cb : Nat} {M : CM} (h : CellsAt w cb M) (n : Int) : CellsAt (w.setCell ⟨cb, 12576, none⟩ (.int .i64 n)) cb { M with left := n } := by
  obtain ⟨cs, fv, h1, h2, h3⟩ := h
  exact ⟨_, fv, h1.set _ _, h2.setLeft n, h3.grown (grow_set _ _ _ _)⟩
theorem CellsAt.setFell {w : World} {cb : Nat} {M : CM} (h : CellsAt w cb M) (v : Value) (p : Option Pend) (hf : FellAt (w.setCell ⟨cb, 12577, none⟩ v) cb p v) : CellsAt (w.setCell ⟨cb, 12577, none⟩ v) cb { M with pend := p } := by
  obtain ⟨cs, fv, h1, h2, h3⟩ := h
  exact ⟨_, v, h1.set _ _, h2.setFell v p, hf⟩

set_option maxRecDepth 100000 in
set_option maxHeartbeats 1000000 in
/-- The machine falls. -/
theorem step_fall (cb f1 f2 : Nat) (c1 c2 : Array Value) (M : CM) (w : World) (h : CellsAt w cb M) (hl : M.left = 0) :
    Calls Try.prog 85 #[.pointer (some ⟨cb, 0, none⟩), .func (.func f1) #[] c1, .func (.func f2) #[] c2] w fun e w' => e = .returned (.iface 123 (.int .i64 9)) ∧
      w' = ((w.setCell ⟨cb, 12577, none⟩ (fellV w.heap.size (w.heap.size + 1))).alloc (.cells #[.func (.func f1) #[] c1] 1)).alloc (.cells #[.func (.func f2) #[] c2] 1) := by
  obtain ⟨c0, _⟩ := h.left
  rw [hl] at c0
  obtain ⟨⟨fv, c1'⟩, f1'⟩ := h.fell
  have hlt := h.lt
  have hx : Ext w ((w.alloc (.cells #[.func (.func f1) #[] c1] 1)).alloc (.cells #[.func (.func f2) #[] c2] 1)) := ((Ext.refl w).alloc _).alloc _
  have G1 := (h.ext hx).fell.2
  have G0 := hx.cell c1'
  clear h hl hx f1' c1'
  go_enter Try.func85, Try.ntmps85
  go_wp2
  go_ret
  exact ⟨rfl, rfl⟩

theorem box_mono {w w' : World} {cb : Nat} {M : CM} (h : CellsAt w cb M) (hx : Ext w w') : w.grownBy w' (some cb) ∧ CellsAt w' cb M := ⟨grow_ext hx _, h.ext hx⟩

set_option maxRecDepth 100000 in
set_option maxHeartbeats 1000000 in
/-- The step is done: function 46. -/
theorem step_go46 (cb f2 : Nat) (c1 c2 : Array Value) (M M' : CM) (w : World) (h : CellsAt w cb M) (hl : ¬ M.left = 0) (hub : M.left ≤ 9223372036854775807)
    (hf : ∀ W, w.grownBy W (some cb) → CellsAt W cb (tickM M) → Calls Try.prog 86 c1 W fun e w' => e = .returned (.tuple #[]) ∧ CellsAt w' cb M' ∧ W.grownBy w' (some cb)) :
    Calls Try.prog 85 #[.pointer (some ⟨cb, 0, none⟩), .func (.func 86) #[] c1, .func (.func f2) #[] c2] w fun e w' => e = .returned .nilIface ∧ CellsAt w' cb M' ∧ w.grownBy w' (some cb) := by
  have hlt := h.lt
  have hne : ¬ w.heap.size = cb := by omega
  obtain ⟨G0, G1⟩ := h.left
  have hlz : (M.left == 0) = false := by simpa using hl
  by_cases hpos : 0 < M.left
  · have HT : Hid (tickM M = { M with left := M.left - 1 }) := by unfold tickM Hid; rw [if_pos hpos]
    have hx : Ext (w.setCell ⟨cb, 12576, none⟩ (.int .i64 (M.left - 1))) (((w.setCell ⟨cb, 12576, none⟩ (.int .i64 (M.left - 1))).alloc (.cells #[.func (.func 86) #[] c1] 1)).alloc (.cells #[.func (.func f2) #[] c2] 1)) := ((Ext.refl _).alloc _).alloc _
    have hc3 := (h.setLeft (M.left - 1)).ext hx
    have hg3 := grow_trans (grow_set w cb 12576 (.int .i64 (M.left - 1))) (grow_ext hx (some cb))
    have HC : Hid (Calls Try.prog 86 c1 (((w.setCell ⟨cb, 12576, none⟩ (.int .i64 (M.left - 1))).alloc (.cells #[.func (.func 86) #[] c1] 1)).alloc (.cells #[.func (.func f2) #[] c2] 1)) fun e w' => e = .returned (.tuple #[]) ∧ CellsAt w' cb M' ∧ World.grownBy (((w.setCell ⟨cb, 12576, none⟩ (.int .i64 (M.left - 1))).alloc (.cells #[.func (.func 86) #[] c1] 1)).alloc (.cells #[.func (.func f2) #[] c2] 1)) w' (some cb)) := hf _ hg3 (by rw [HT.out]; exact hc3)
    have HG : Hid (w.grownBy (((w.setCell ⟨cb, 12576, none⟩ (.int .i64 (M.left - 1))).alloc (.cells #[.func (.func 86) #[] c1] 1)).alloc (.cells #[.func (.func f2) #[] c2] 1)) (some cb)) := hg3
    clear hf h hc3 hx hl hg3 HT
    generalize M.left = lf at *
    go_enter Try.func85, Try.ntmps85
    go_wp2_with (go_at_call 86; refine HC.out.mono ?_; rintro e w' ⟨rfl, hc4, hg4⟩)
    go_ret
    exact ⟨rfl, hc4, grow_trans HG.out hg4⟩
  · have HT : Hid (tickM M = M) := by unfold tickM Hid; rw [if_neg hpos]
    have hx : Ext w ((w.alloc (.cells #[.func (.func 86) #[] c1] 1)).alloc (.cells #[.func (.func f2) #[] c2] 1)) := ((Ext.refl _).alloc _).alloc _
    have hc3 := h.ext hx
    have hg3 := grow_ext hx (some cb)
    have HC : Hid (Calls Try.prog 86 c1 ((w.alloc (.cells #[.func (.func 86) #[] c1] 1)).alloc (.cells #[.func (.func f2) #[] c2] 1)) fun e w' => e = .returned (.tuple #[]) ∧ CellsAt w' cb M' ∧ World.grownBy ((w.alloc (.cells #[.func (.func 86) #[] c1] 1)).alloc (.cells #[.func (.func f2) #[] c2] 1)) w' (some cb)) := hf _ hg3 (by rw [HT.out]; exact hc3)
    have HG : Hid (w.grownBy ((w.alloc (.cells #[.func (.func 86) #[] c1] 1)).alloc (.cells #[.func (.func f2) #[] c2] 1)) (some cb)) := hg3
    clear hf h hc3 hx hl hg3 HT
    generalize M.left = lf at *
    go_enter Try.func85, Try.ntmps85
    go_wp2_with (go_at_call 86; refine HC.out.mono ?_; rintro e w' ⟨rfl, hc4, hg4⟩)
    go_ret
    exact ⟨rfl, hc4, grow_trans HG.out hg4⟩

set_option maxRecDepth 100000 in
set_option maxHeartbeats 1000000 in
/-- The step is done: function 51. -/
theorem step_go51 (cb f2 : Nat) (c1 c2 : Array Value) (M M' : CM) (w : World) (h : CellsAt w cb M) (hl : ¬ M.left = 0) (hub : M.left ≤ 9223372036854775807)
    (hf : ∀ W, w.grownBy W (some cb) → CellsAt W cb (tickM M) → Calls Try.prog 91 c1 W fun e w' => e = .returned (.tuple #[]) ∧ CellsAt w' cb M' ∧ W.grownBy w' (some cb)) :
    Calls Try.prog 85 #[.pointer (some ⟨cb, 0, none⟩), .func (.func 91) #[] c1, .func (.func f2) #[] c2] w fun e w' => e = .returned .nilIface ∧ CellsAt w' cb M' ∧ w.grownBy w' (some cb) := by
  have hlt := h.lt
  have hne : ¬ w.heap.size = cb := by omega
  obtain ⟨G0, G1⟩ := h.left
  have hlz : (M.left == 0) = false := by simpa using hl
  by_cases hpos : 0 < M.left
  · have HT : Hid (tickM M = { M with left := M.left - 1 }) := by unfold tickM Hid; rw [if_pos hpos]
    have hx : Ext (w.setCell ⟨cb, 12576, none⟩ (.int .i64 (M.left - 1))) (((w.setCell ⟨cb, 12576, none⟩ (.int .i64 (M.left - 1))).alloc (.cells #[.func (.func 91) #[] c1] 1)).alloc (.cells #[.func (.func f2) #[] c2] 1)) := ((Ext.refl _).alloc _).alloc _
    have hc3 := (h.setLeft (M.left - 1)).ext hx
    have hg3 := grow_trans (grow_set w cb 12576 (.int .i64 (M.left - 1))) (grow_ext hx (some cb))
    have HC : Hid (Calls Try.prog 91 c1 (((w.setCell ⟨cb, 12576, none⟩ (.int .i64 (M.left - 1))).alloc (.cells #[.func (.func 91) #[] c1] 1)).alloc (.cells #[.func (.func f2) #[] c2] 1)) fun e w' => e = .returned (.tuple #[]) ∧ CellsAt w' cb M' ∧ World.grownBy (((w.setCell ⟨cb, 12576, none⟩ (.int .i64 (M.left - 1))).alloc (.cells #[.func (.func 91) #[] c1] 1)).alloc (.cells #[.func (.func f2) #[] c2] 1)) w' (some cb)) := hf _ hg3 (by rw [HT.out]; exact hc3)
    have HG : Hid (w.grownBy (((w.setCell ⟨cb, 12576, none⟩ (.int .i64 (M.left - 1))).alloc (.cells #[.func (.func 91) #[] c1] 1)).alloc (.cells #[.func (.func f2) #[] c2] 1)) (some cb)) := hg3
    clear hf h hc3 hx hl hg3 HT
    generalize M.left = lf at *
    go_enter Try.func85, Try.ntmps85
    go_wp2_with (go_at_call 91; refine HC.out.mono ?_; rintro e w' ⟨rfl, hc4, hg4⟩)
    go_ret
    exact ⟨rfl, hc4, grow_trans HG.out hg4⟩
  · have HT : Hid (tickM M = M) := by unfold tickM Hid; rw [if_neg hpos]
    have hx : Ext w ((w.alloc (.cells #[.func (.func 91) #[] c1] 1)).alloc (.cells #[.func (.func f2) #[] c2] 1)) := ((Ext.refl _).alloc _).alloc _
    have hc3 := h.ext hx
    have hg3 := grow_ext hx (some cb)
    have HC : Hid (Calls Try.prog 91 c1 ((w.alloc (.cells #[.func (.func 91) #[] c1] 1)).alloc (.cells #[.func (.func f2) #[] c2] 1)) fun e w' => e = .returned (.tuple #[]) ∧ CellsAt w' cb M' ∧ World.grownBy ((w.alloc (.cells #[.func (.func 91) #[] c1] 1)).alloc (.cells #[.func (.func f2) #[] c2] 1)) w' (some cb)) := hf _ hg3 (by rw [HT.out]; exact hc3)
    have HG : Hid (w.grownBy ((w.alloc (.cells #[.func (.func 91) #[] c1] 1)).alloc (.cells #[.func (.func f2) #[] c2] 1)) (some cb)) := hg3
    clear hf h hc3 hx hl hg3 HT
    generalize M.left = lf at *
    go_enter Try.func85, Try.ntmps85
    go_wp2_with (go_at_call 91; refine HC.out.mono ?_; rintro e w' ⟨rfl, hc4, hg4⟩)
    go_ret
    exact ⟨rfl, hc4, grow_trans HG.out hg4⟩

end Go.Proofs.Ytpldeejagomfjaa
