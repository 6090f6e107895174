/- EntA. -/
import Derived.Test.YtkibgflbidkalaaGreatDoorEntKJ
import Derived.WalkKit
import Derived.WalkSpells
import Derived.WalkLawsBesides
import Derived.Deep.QuietTactic
import Derived.BigQuiet

/- Entries: what EntryFault and same answer. -/
namespace Go.Proofs.YtkibgflbidkalaaGreatDoor
open Go.RowKit

set_option maxHeartbeats 400000 in
theorem fault_any (key val : ByteArray) (gone : Bool) (w : World) :
    Calls Tryz.prog 68 #[.agg #[.string key, .string val, .bool gone]] w fun e w' => e = .returned (.int .i64 (faultB key val gone)) ∧ ∃ c, w' = w.alloc (.cells c 56) := by
  go_enter Tryz.func68, Tryz.ntmps68
  go_wp2
  all_goals go_ret
  all_goals refine ⟨ret_of ?_, _, rfl⟩
  all_goals simp_all [faultB]
  all_goals (first | omega | (rw [if_neg (by omega), if_pos (by omega)]) | (rw [if_neg (by omega)]; rfl) | (rw [if_pos (by omega)]; rfl))

set_option maxHeartbeats 400000 in
theorem same_nil (f : Int) (w : World) :
    Calls Tryz.prog 6 #[.nilIface, .int .i64 f] w fun e w' => e = .returned (.bool (f == 0)) ∧ w' = w := by
  go_enter Tryz.func6, Tryz.ntmps6
  go_wp2
  all_goals go_ret
  all_goals exact ⟨by simp_all, rfl⟩

set_option maxHeartbeats 400000 in
theorem same_err (k f : Int) (w : World) :
    Calls Tryz.prog 6 #[.iface 39 (.int .i64 k), .int .i64 f] w fun e w' => e = .returned (.bool (decide (0 < f) && (k == f))) ∧ w' = w := by
  have hta : ∀ (v : Value) (w : World), (Instr.typeAssert (.iface 39 v) 25 39 true).run Tryz.prog w = .ok (.tuple #[v, .bool true]) w := fun _ _ => by kernel_rfl
  go_enter Tryz.func6, Tryz.ntmps6
  go_wp2
  all_goals go_ret
  all_goals refine ⟨ret_of ?_, rfl⟩
  all_goals simp_all
  all_goals (intro _; omega)

end Go.Proofs.YtkibgflbidkalaaGreatDoor
