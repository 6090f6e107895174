
/- The walk of ChipSays: all ways. -/
import Derived.Test.YtpldeejagomfjaaSaysB
namespace Go.Proofs.Ytpldeejagomfjaa
open Go.RowKit

theorem chipSays_any (ao : Option Addr) (cap : Nat) (acs : List ActE) (w : World) (hl : acs.length ≤ 9223372036854775807) (has : ActsAt w ao acs) :
    Calls Try.prog 4 #[.slice ao acs.length cap] w fun r w' => r = .returned (.bool true) ∧ Ext w w' := by
  cases hli : lightActs acs 100 with
  | false => exact chipSays_dark ao cap acs w hl has hli
  | true =>
    have hlen : acs.length ≤ 100 := by
      have h := hli
      unfold lightActs at h
      simp at h
      exact h.1
    exact chipSays_long ao cap acs w hlen has hli
#print axioms chipSays_any
end Go.Proofs.Ytpldeejagomfjaa
