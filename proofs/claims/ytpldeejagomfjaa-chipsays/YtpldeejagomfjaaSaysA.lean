
/- A first look at a chip: chips; and ChipSays where acts are not light. -/
import Derived.Test.YtpldeejagomfjaaOnceA
import Derived.Test.YtpldeejagomfjaaEntA
import Derived.Test.YtpldeejagomfjaaRefK
import Derived.Test.YtpldeejagomfjaaRefL
namespace Go.Proofs.Ytpldeejagomfjaa
open Go.RowKit Go.WideShapes

def x64 : ByteArray := txtL (padD ⟨#[120]⟩)
theorem m3_r : readR m3 3 0 = (padD ⟨#[120]⟩, 0) := by decide +kernel
theorem read3 (cb : Nat) (w : World) (h : ChipAt w cb m3) :
    Calls Try.prog 40 #[.pointer (some ⟨cb, 0, none⟩), .int .i64 3, .int .i64 0] w fun e w' => e = .returned (.tuple #[.string x64, .nilIface]) ∧ w' = w := by
  refine (read_any cb 3 0 m3 w h).mono ?_
  rintro e w' ⟨rfl, rfl⟩
  exact ⟨by rw [m3_r]; rfl, rfl⟩
theorem x64_size : x64.size = 64 := by decide +kernel
theorem x64_one : ((x64.extract 0 1).toList == [120]) = true := by decide +kernel
theorem same0 (w : World) : Calls Try.prog 19 #[.nilIface, .int .i64 0] w fun e w' => e = .returned (.bool true) ∧ w' = w := same_self 0 (by decide) w

set_option maxRecDepth 100000 in
set_option maxHeartbeats 4000000 in
theorem chips_any (w : World) : Calls Try.prog 27 #[] w fun e w' => e = .returned (.bool true) ∧ Ext w w' := by
  have k1 := x64_size
  have k2 := x64_one
  go_enter Try.func27, Try.ntmps27
  go_wp2_with (first
    | (go_at_call 29; refine (new_any _).mono ?_; rintro r w1 ⟨rfl, hc1, hx1, hs1⟩)
    | (go_at_call 31; refine (write3 _ _ hc1).mono ?_; rintro r w2 ⟨rfl, hc2, hg2⟩)
    | (go_at_call 43; refine (next3 _ _ hc2).mono ?_; rintro r wy ⟨rfl, hwy⟩; subst wy)
    | (go_at_call 40; refine (read3 _ _ hc2).mono ?_; rintro r wy ⟨rfl, hwy⟩; subst wy)
    | (go_at_call 19; refine (same0 _).mono ?_; rintro r wy ⟨rfl, hwy⟩; subst wy))
  go_ret
  exact ⟨rfl, hx1.grown2 hg2 (Nat.le_refl _)⟩

set_option maxRecDepth 100000 in
set_option maxHeartbeats 4000000 in
theorem chipSays_dark (ao : Option Addr) (cap : Nat) (acs : List ActE) (w : World) (hl : acs.length ≤ 9223372036854775807) (has : ActsAt w ao acs) (hli : lightActs acs 100 = false) :
    Calls Try.prog 4 #[.slice ao acs.length cap] w fun r w' => r = .returned (.bool true) ∧ Ext w w' := by
  go_enter Try.func4, Try.ntmps4
  go_wp2_with (first
    | (go_at_call 27; refine (chips_any _).mono ?_; rintro r w1 ⟨rfl, hx1⟩)
    | (go_at_call 28; refine (lightActs_any ao cap acs 100 _ (by omega) hl (has.ext hx1)).mono ?_; rw [hli]; rintro r w4 ⟨rfl, rfl⟩))
  go_ret
  exact ⟨rfl, hx1⟩
end Go.Proofs.Ytpldeejagomfjaa
