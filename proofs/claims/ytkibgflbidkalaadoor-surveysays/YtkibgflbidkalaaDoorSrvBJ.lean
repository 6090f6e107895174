/- SrvB. -/
import Derived.Test.YtkibgflbidkalaaDoorSrvAJ

/- What blocks are used for: Count. -/
namespace Go.Proofs.YtkibgflbidkalaaDoor
open Go.RowKit Go.WideShapes

/-- The kinds of all blocks, as an array. -/
def kC (g : Nat → Int) : Array Value := #[.int .i64 (g 0), .int .i64 (g 1), .int .i64 (g 2), .int .i64 (g 3), .int .i64 (g 4), .int .i64 (g 5), .int .i64 (g 6), .int .i64 (g 7), .int .i64 (g 8), .int .i64 (g 9), .int .i64 (g 10), .int .i64 (g 11), .int .i64 (g 12), .int .i64 (g 13), .int .i64 (g 14), .int .i64 (g 15), .int .i64 (g 16), .int .i64 (g 17), .int .i64 (g 18), .int .i64 (g 19), .int .i64 (g 20), .int .i64 (g 21), .int .i64 (g 22), .int .i64 (g 23)]
theorem kC_range (g : Nat → Int) : kC g = ((List.range 24).map fun i : Nat => Value.int .i64 (g i)).toArray := rfl
theorem kC_get (g : Nat → Int) (n : Nat) (h : n < 24) : (kC g)[n]? = some (.int .i64 (g n)) := by
  rw [kC_range]; simp [h]
def updK (g : Nat → Int) (b : Nat) (v : Int) : Nat → Int := fun i => if i = b then v else g i
theorem kC_set (g : Nat → Int) (b : Nat) (v : Int) : (kC g).setIfInBounds b (.int .i64 v) = kC (updK g b v) := by
  rw [kC_range, kC_range]
  apply Array.ext'
  simp only [Array.toList_setIfInBounds]
  apply List.ext_getElem?
  intro i
  rw [List.getElem?_set]
  by_cases hi : i < 24
  · by_cases hij : b = i
    · subst hij
      simp [hi, updK]
    · have hij' : ¬ i = b := fun e => hij e.symm
      simp [hij, hi, updK, hij']
  · have h1 : (List.map (fun i : Nat => Value.int .i64 (updK g b v i)) (List.range 24))[i]? = none := by simp; omega
    have h2 : (List.map (fun i : Nat => Value.int .i64 (g i)) (List.range 24))[i]? = none := by simp; omega
    rw [h1]
    split
    · split
      · rename_i h3 h4; simp at h4; omega
      · rfl
    · exact h2
/-- How many of the first blocks are of a kind. -/
def cntK (g : Nat → Int) (kd : Int) : Nat → Nat
  | 0 => 0
  | j + 1 => cntK g kd j + if g j = kd then 1 else 0
theorem cntK_le (g : Nat → Int) (kd : Int) : ∀ j, cntK g kd j ≤ j
  | 0 => Nat.le_refl _
  | j + 1 => by have := cntK_le g kd j; unfold cntK; split <;> omega
theorem idx24 (g : Nat → Int) (j : Nat) (hj : j < 24) (w : World) : (Instr.index 27 (.agg (kC g)) (.int .i64 (j : Int))).run Tryd.prog w = .ok (.int .i64 (g j)) w := by
  have h0 : (Instr.index 27 (.agg (kC g)) (.int .i64 ((0 : Nat) : Int))).run Tryd.prog w = .ok (.int .i64 (g 0)) w := by kernel_rfl
  have h1 : (Instr.index 27 (.agg (kC g)) (.int .i64 ((1 : Nat) : Int))).run Tryd.prog w = .ok (.int .i64 (g 1)) w := by kernel_rfl
  have h2 : (Instr.index 27 (.agg (kC g)) (.int .i64 ((2 : Nat) : Int))).run Tryd.prog w = .ok (.int .i64 (g 2)) w := by kernel_rfl
  have h3 : (Instr.index 27 (.agg (kC g)) (.int .i64 ((3 : Nat) : Int))).run Tryd.prog w = .ok (.int .i64 (g 3)) w := by kernel_rfl
  have h4 : (Instr.index 27 (.agg (kC g)) (.int .i64 ((4 : Nat) : Int))).run Tryd.prog w = .ok (.int .i64 (g 4)) w := by kernel_rfl
  have h5 : (Instr.index 27 (.agg (kC g)) (.int .i64 ((5 : Nat) : Int))).run Tryd.prog w = .ok (.int .i64 (g 5)) w := by kernel_rfl
  have h6 : (Instr.index 27 (.agg (kC g)) (.int .i64 ((6 : Nat) : Int))).run Tryd.prog w = .ok (.int .i64 (g 6)) w := by kernel_rfl
  have h7 : (Instr.index 27 (.agg (kC g)) (.int .i64 ((7 : Nat) : Int))).run Tryd.prog w = .ok (.int .i64 (g 7)) w := by kernel_rfl
  have h8 : (Instr.index 27 (.agg (kC g)) (.int .i64 ((8 : Nat) : Int))).run Tryd.prog w = .ok (.int .i64 (g 8)) w := by kernel_rfl
  have h9 : (Instr.index 27 (.agg (kC g)) (.int .i64 ((9 : Nat) : Int))).run Tryd.prog w = .ok (.int .i64 (g 9)) w := by kernel_rfl
  have h10 : (Instr.index 27 (.agg (kC g)) (.int .i64 ((10 : Nat) : Int))).run Tryd.prog w = .ok (.int .i64 (g 10)) w := by kernel_rfl
  have h11 : (Instr.index 27 (.agg (kC g)) (.int .i64 ((11 : Nat) : Int))).run Tryd.prog w = .ok (.int .i64 (g 11)) w := by kernel_rfl
  have h12 : (Instr.index 27 (.agg (kC g)) (.int .i64 ((12 : Nat) : Int))).run Tryd.prog w = .ok (.int .i64 (g 12)) w := by kernel_rfl
  have h13 : (Instr.index 27 (.agg (kC g)) (.int .i64 ((13 : Nat) : Int))).run Tryd.prog w = .ok (.int .i64 (g 13)) w := by kernel_rfl
  have h14 : (Instr.index 27 (.agg (kC g)) (.int .i64 ((14 : Nat) : Int))).run Tryd.prog w = .ok (.int .i64 (g 14)) w := by kernel_rfl
  have h15 : (Instr.index 27 (.agg (kC g)) (.int .i64 ((15 : Nat) : Int))).run Tryd.prog w = .ok (.int .i64 (g 15)) w := by kernel_rfl
  have h16 : (Instr.index 27 (.agg (kC g)) (.int .i64 ((16 : Nat) : Int))).run Tryd.prog w = .ok (.int .i64 (g 16)) w := by kernel_rfl
  have h17 : (Instr.index 27 (.agg (kC g)) (.int .i64 ((17 : Nat) : Int))).run Tryd.prog w = .ok (.int .i64 (g 17)) w := by kernel_rfl
  have h18 : (Instr.index 27 (.agg (kC g)) (.int .i64 ((18 : Nat) : Int))).run Tryd.prog w = .ok (.int .i64 (g 18)) w := by kernel_rfl
  have h19 : (Instr.index 27 (.agg (kC g)) (.int .i64 ((19 : Nat) : Int))).run Tryd.prog w = .ok (.int .i64 (g 19)) w := by kernel_rfl
  have h20 : (Instr.index 27 (.agg (kC g)) (.int .i64 ((20 : Nat) : Int))).run Tryd.prog w = .ok (.int .i64 (g 20)) w := by kernel_rfl
  have h21 : (Instr.index 27 (.agg (kC g)) (.int .i64 ((21 : Nat) : Int))).run Tryd.prog w = .ok (.int .i64 (g 21)) w := by kernel_rfl
  have h22 : (Instr.index 27 (.agg (kC g)) (.int .i64 ((22 : Nat) : Int))).run Tryd.prog w = .ok (.int .i64 (g 22)) w := by kernel_rfl
  have h23 : (Instr.index 27 (.agg (kC g)) (.int .i64 ((23 : Nat) : Int))).run Tryd.prog w = .ok (.int .i64 (g 23)) w := by kernel_rfl
  match j, hj with
  | 0, _ => exact h0
  | 1, _ => exact h1
  | 2, _ => exact h2
  | 3, _ => exact h3
  | 4, _ => exact h4
  | 5, _ => exact h5
  | 6, _ => exact h6
  | 7, _ => exact h7
  | 8, _ => exact h8
  | 9, _ => exact h9
  | 10, _ => exact h10
  | 11, _ => exact h11
  | 12, _ => exact h12
  | 13, _ => exact h13
  | 14, _ => exact h14
  | 15, _ => exact h15
  | 16, _ => exact h16
  | 17, _ => exact h17
  | 18, _ => exact h18
  | 19, _ => exact h19
  | 20, _ => exact h20
  | 21, _ => exact h21
  | 22, _ => exact h22
  | 23, _ => exact h23
  | n + 24, h => exact absurd h (by omega)
end Go.Proofs.YtkibgflbidkalaaDoor
