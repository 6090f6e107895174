
/- Entries: what goneByte answers. -/
import Derived.Test.YtpldeejagomfjaaEntF
namespace Go.Proofs.Ytpldeejagomfjaa
open Go.RowKit

def goneN (g : Bool) : Int := if g then 1 else 0
set_option maxHeartbeats 400000 in
theorem gone_any (g : Bool) (w : World) :
    Calls Try.prog 80 #[.bool g] w fun e w' => e = .returned (.int .u8 (goneN g)) ∧ w' = w := by
  go_enter Try.func80, Try.ntmps80
  go_wp2
  all_goals go_ret
  all_goals exact ⟨by simp_all [goneN], rfl⟩

end Go.Proofs.Ytpldeejagomfjaa
