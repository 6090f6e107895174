
/- Entries: what Check answers. -/
import Derived.Test.YtpldeejagomfjaaEntE
import Derived.WalkKit
import Derived.WalkSpells
import Derived.WalkLawsBesides
import Derived.Deep.QuietTactic
import Derived.BigQuiet
namespace Go.Proofs.Ytpldeejagomfjaa
open Go.RowKit

/-- What is wrong with an entry: 3, 2, or 0: nothing. -/
def faultB (key val : ByteArray) (gone : Bool) : Int :=
  if key.toList = [] ∨ (gone = true ∧ ¬ val.toList = []) then 3 else if 8 < key.size ∨ 16 < val.size then 2 else 0
theorem faultB_cases (key val : ByteArray) (gone : Bool) : faultB key val gone = 3 ∨ faultB key val gone = 2 ∨ faultB key val gone = 0 := by
  unfold faultB; split
  · simp
  · split <;> simp

set_option maxHeartbeats 400000 in
theorem check_any (key val : ByteArray) (gone : Bool) (w : World) :
    Calls Try.prog 20 #[.agg #[.string key, .string val, .bool gone]] w fun e w' => e = .returned (errV (faultB key val gone)) ∧ ∃ c, w' = w.alloc (.cells c 30) := by
  go_enter Try.func20, Try.ntmps20
  go_wp2
  all_goals go_ret
  all_goals refine ⟨ret_of ?_, _, rfl⟩
  all_goals simp_all [faultB, errV]
  all_goals (first | omega | (rw [if_neg (by omega), if_pos (by omega)]) | (rw [if_neg (by omega)]; rfl) | (rw [if_pos (by omega)]; rfl))
end Go.Proofs.Ytpldeejagomfjaa
