/- The constants and errors of package api have the numbers that the document names: the walks of Names and of what it calls. -/
import Derived.Test.YtpldeejagomfjaaDoorRows
import Derived.WalkKit
import Derived.WalkSpells
import Derived.WalkLawsBesides
import Derived.Deep.QuietTactic
import Derived.BigQuiet
namespace Go.Proofs.YtpldeejagomfjaaDoor
open Go.RowKit

set_option maxHeartbeats 400000 in
theorem same_any (k : Int) (w : World) (h0 : 0 < k) (_h1 : k ≤ 9) :
    Calls Tryd.prog 4 #[.iface 23 (.int .i64 k), .int .i64 k] w fun e w' => e = .returned (.bool true) ∧ w' = w := by
  have hta : ∀ (v : Value) (w : World), (Instr.typeAssert (.iface 23 v) 27 23 true).run Tryd.prog w = .ok (.tuple #[v, .bool true]) w := fun _ _ => by kernel_rfl
  go_enter Tryd.func4, Tryd.ntmps4
  go_wp2
  go_ret
  exact ⟨rfl, rfl⟩

set_option maxHeartbeats 400000 in
theorem error_nine (w : World) :
    Calls Tryd.prog 6 #[.int .i64 9] w fun e w' => e = .returned (.string ⟨#[116, 105, 100, 101, 103, 97, 116, 101, 58, 32, 101, 114, 114, 111, 114, 32, 57]⟩) ∧ w' = w := by
  go_enter Tryd.func6, Tryd.ntmps6
  go_wp2
  go_ret
  exact ⟨by rfl, rfl⟩

set_option maxHeartbeats 400000 in
theorem sameNumbers_any (b1 b2 n c1 c2 : Nat) (f : Nat → Int) (w : World) (hn : n ≤ 1000)
    (h1 : ∀ i, i < n → w.cell? ⟨b1, i, none⟩ = some (.int .i64 (f i))) (h2 : ∀ i, i < n → w.cell? ⟨b2, i, none⟩ = some (.int .i64 (f i))) :
    Calls Tryd.prog 5 #[.slice (some ⟨b1, 0, none⟩) n c1, .slice (some ⟨b2, 0, none⟩) n c2] w fun e w' => e = .returned (.bool true) ∧ ∃ k, w' = w.drewN k := by
  go_enter Tryd.func5, Tryd.ntmps5
  go_wp2
  go_loopw [5] (fun i w' => ∃ k m : Nat, k ≤ n ∧ i = .int .i64 k ∧ w' = w.drewN m) (fun i _ => n - (intOf i).toNat)
  case atStart => exact ⟨0, 0, Nat.zero_le _, rfl, rfl⟩
  case round =>
    obtain ⟨k, m, hk, rfl, rfl⟩ := hrel
    by_cases hlt : k < n
    · have g1 := h1 k hlt
      have g2 := h2 k hlt
      clear h1 h2
      go_wp2
      go_quiet (fail)
      go_wp2
      go_roundw
      case rel => exact ⟨k + 1, _, by omega, by go_num, rfl⟩
      case measure => simp [intOf]; omega
    · clear h1 h2
      go_wp2
      go_ret
      exact ⟨rfl, _, rfl⟩

def nums : List Int := [24, 8, 64, 2, 8, 16, 4, 40, 2, 4, 3, 100000, 80, 60, 0, 1, 2, 3, 4, 5]
def errs : List Int := [1, 2, 3, 4, 5, 6, 7, 8, 9]
theorem lt20 {i : Nat} (h : i < 20) : i = 0 ∨ i = 1 ∨ i = 2 ∨ i = 3 ∨ i = 4 ∨ i = 5 ∨ i = 6 ∨ i = 7 ∨ i = 8 ∨ i = 9 ∨ i = 10 ∨ i = 11 ∨ i = 12 ∨ i = 13 ∨ i = 14 ∨ i = 15 ∨ i = 16 ∨ i = 17 ∨ i = 18 ∨ i = 19 := by omega
theorem lt9 {i : Nat} (h : i < 9) : i = 0 ∨ i = 1 ∨ i = 2 ∨ i = 3 ∨ i = 4 ∨ i = 5 ∨ i = 6 ∨ i = 7 ∨ i = 8 := by omega

set_option maxHeartbeats 1000000 in
theorem names_any (w : World) :
    Calls Tryd.prog 3 #[] w fun e w' => e = .returned (.bool true) ∧ Below w.heap.size w w' := by
  go_enter Tryd.func3, Tryd.ntmps3
  go_wp2_with fail
  generalize hW : (((w.alloc _).alloc _).alloc _) = W
  have hb : Below w.heap.size w W := by
    rw [← hW]
    exact (((Below.refl _ _).alloc (Nat.le_refl _) _).alloc (by simp) _).alloc (by simp; omega) _
  have h1 : ∀ i, i < 20 → W.cell? ⟨w.heap.size, i, none⟩ = some (.int .i64 (nums.getD i 0)) := by
    intro i hi
    rw [← hW]
    rcases lt20 hi with rfl | rfl | rfl | rfl | rfl | rfl | rfl | rfl | rfl | rfl | rfl | rfl | rfl | rfl | rfl | rfl | rfl | rfl | rfl | rfl <;> simp [go_sem, nums]
  have h2 : ∀ i, i < 20 → W.cell? ⟨w.heap.size + 1, i, none⟩ = some (.int .i64 (nums.getD i 0)) := by
    intro i hi
    rw [← hW]
    rcases lt20 hi with rfl | rfl | rfl | rfl | rfl | rfl | rfl | rfl | rfl | rfl | rfl | rfl | rfl | rfl | rfl | rfl | rfl | rfl | rfl | rfl <;> simp [go_sem, nums]
  have h3 : ∀ i, i < 9 → W.cell? ⟨w.heap.size + 1 + 1, i, none⟩ = some (.iface 23 (.int .i64 ((i : Int) + 1))) := by
    intro i hi
    rw [← hW]
    rcases lt9 hi with rfl | rfl | rfl | rfl | rfl | rfl | rfl | rfl | rfl <;> simp [go_sem]
  clear hW
  go_loop [4] (fun i => ∃ k : Nat, k ≤ 9 ∧ i = .int .i64 k) (fun i => 9 - (intOf i).toNat)
  case atStart => exact ⟨0, Nat.zero_le _, rfl⟩
  case round =>
    obtain ⟨k, hk, rfl⟩ := hrel
    by_cases hlt : k < 9
    · have g := h3 k hlt
      have hh : (k : Int) < 9 := by omega
      clear h1 h2 h3
      go_wp2_with (go_at_call 4; refine (same_any _ _ (by omega) (by omega)).mono ?_; rintro e w' ⟨rfl, rfl⟩)
      go_round
      case rel => exact ⟨k + 1, by omega, by go_num⟩
      case measure => simp [intOf]; omega
    · have hh : (9 : Int) ≤ k := by omega
      have g := fun w0 (h : W = w0) => sameNumbers_any w.heap.size (w.heap.size + 1) 20 20 20 (fun i => nums.getD i 0) w0 (by omega) (h ▸ h1) (h ▸ h2)
      clear h1 h2 h3
      go_wp2_with fail
      refine (g _ rfl).mono ?_
      rintro e w' ⟨rfl, q, rfl⟩
      go_wp2_with (go_at_call 6; refine (error_nine _).mono ?_; rintro e w' ⟨rfl, rfl⟩)
      go_ret
      exact ⟨rfl, below_drewN hb q⟩

end Go.Proofs.YtpldeejagomfjaaDoor
