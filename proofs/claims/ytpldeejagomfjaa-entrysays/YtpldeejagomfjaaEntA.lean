
/- Entries: what EntryFault and same answer. -/
import Derived.Test.YtpldeejagomfjaaEntK
import Derived.WalkKit
import Derived.WalkSpells
import Derived.WalkLawsBesides
import Derived.Deep.QuietTactic
import Derived.BigQuiet
namespace Go.Proofs.Ytpldeejagomfjaa
open Go.RowKit

set_option maxHeartbeats 400000 in
theorem fault_any (key val : ByteArray) (gone : Bool) (w : World) :
    Calls Try.prog 21 #[.agg #[.string key, .string val, .bool gone]] w fun e w' => e = .returned (.int .i64 (faultB key val gone)) ∧ ∃ c, w' = w.alloc (.cells c 30) := by
  go_enter Try.func21, Try.ntmps21
  go_wp2
  all_goals go_ret
  all_goals refine ⟨ret_of ?_, _, rfl⟩
  all_goals simp_all [faultB]
  all_goals (first | omega | (rw [if_neg (by omega), if_pos (by omega)]) | (rw [if_neg (by omega)]; rfl) | (rw [if_pos (by omega)]; rfl))

set_option maxHeartbeats 400000 in
theorem same_nil (f : Int) (w : World) :
    Calls Try.prog 19 #[.nilIface, .int .i64 f] w fun e w' => e = .returned (.bool (f == 0)) ∧ w' = w := by
  go_enter Try.func19, Try.ntmps19
  go_wp2
  all_goals go_ret
  all_goals exact ⟨by simp_all, rfl⟩

set_option maxHeartbeats 400000 in
theorem same_err (k f : Int) (w : World) :
    Calls Try.prog 19 #[.iface 123 (.int .i64 k), .int .i64 f] w fun e w' => e = .returned (.bool (decide (0 < f) && (k == f))) ∧ w' = w := by
  have hta : ∀ (v : Value) (w : World), (Instr.typeAssert (.iface 123 v) 27 123 true).run Try.prog w = .ok (.tuple #[v, .bool true]) w := fun _ _ => by kernel_rfl
  go_enter Try.func19, Try.ntmps19
  go_wp2
  all_goals go_ret
  all_goals refine ⟨ret_of ?_, rfl⟩
  all_goals simp_all
  all_goals (intro _; omega)

theorem same_self (f : Int) (hf : 0 ≤ f) (w : World) :
    Calls Try.prog 19 #[errV f, .int .i64 f] w fun e w' => e = .returned (.bool true) ∧ w' = w := by
  unfold errV
  by_cases h : f = 0
  · subst h
    rw [if_pos rfl]
    refine (same_nil 0 w).mono ?_
    rintro e w' ⟨rfl, rfl⟩
    exact ⟨by simp, rfl⟩
  · rw [if_neg h]
    refine (same_err f f w).mono ?_
    rintro e w' ⟨rfl, rfl⟩
    exact ⟨by simp; omega, rfl⟩

end Go.Proofs.Ytpldeejagomfjaa
