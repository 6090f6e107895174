/- EntF EntK. -/
import Derived.Test.YtkibgflbidkalaaDoorEntEJ
import Derived.WalkKit
import Derived.WalkSpells
import Derived.WalkLawsBesides
import Derived.Deep.QuietTactic
import Derived.BigQuiet

/- Entries: what Check answers. -/
namespace Go.Proofs.YtkibgflbidkalaaDoor
open Go.RowKit

/-- What is wrong with an entry: 3, 2, or 0: nothing. -/
def faultB (key val : ByteArray) (gone : Bool) : Int :=
  if key.toList = [] ∨ (gone = true ∧ ¬ val.toList = []) then 3 else if 8 < key.size ∨ 16 < val.size then 2 else 0
theorem faultB_cases (key val : ByteArray) (gone : Bool) : faultB key val gone = 3 ∨ faultB key val gone = 2 ∨ faultB key val gone = 0 := by
  unfold faultB; split
  · simp
  · split <;> simp

set_option maxHeartbeats 400000 in
theorem check_any (key val : ByteArray) (gone : Bool) (w : World) :
    Calls Tryd.prog 46 #[.agg #[.string key, .string val, .bool gone]] w fun e w' => e = .returned (errV (faultB key val gone)) ∧ ∃ c, w' = w.alloc (.cells c 96) := by
  go_enter Tryd.func46, Tryd.ntmps46
  go_wp2
  all_goals go_ret
  all_goals refine ⟨ret_of ?_, _, rfl⟩
  all_goals simp_all [faultB, errV]
  all_goals (first | omega | (rw [if_neg (by omega), if_pos (by omega)]) | (rw [if_neg (by omega)]; rfl) | (rw [if_pos (by omega)]; rfl))
end Go.Proofs.YtkibgflbidkalaaDoor

/- Entries: what goneByte answers. -/
namespace Go.Proofs.YtkibgflbidkalaaDoor
open Go.RowKit

def goneN (g : Bool) : Int := if g then 1 else 0
set_option maxHeartbeats 400000 in
theorem gone_any (g : Bool) (w : World) :
    Calls Tryd.prog 47 #[.bool g] w fun e w' => e = .returned (.int .u8 (goneN g)) ∧ w' = w := by
  go_enter Tryd.func47, Tryd.ntmps47
  go_wp2
  all_goals go_ret
  all_goals exact ⟨by simp_all [goneN], rfl⟩

end Go.Proofs.YtkibgflbidkalaaDoor
