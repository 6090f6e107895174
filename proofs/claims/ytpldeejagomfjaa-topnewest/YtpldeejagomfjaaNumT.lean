
/- The number of an error (of the top's statements). -/
import Derived.Test.YtpldeejagomfjaaWld
namespace Go.Proofs.Ytpldeejagomfjaa
open Go.RowKit

set_option maxHeartbeats 400000 in
theorem numT_nil (w : World) : Calls Try.prog 47 #[.nilIface] w fun e w' => e = .returned (.int .i64 0) ∧ w' = w := by
  go_enter Try.func47, Try.ntmps47
  go_wp2
  go_ret
  exact ⟨rfl, rfl⟩
set_option maxHeartbeats 400000 in
theorem numT_err (n : Int) (w : World) : Calls Try.prog 47 #[.iface 123 (.int .i64 n)] w fun e w' => e = .returned (.int .i64 n) ∧ w' = w := by
  have hta : ∀ (v : Value) (w : World), (Instr.typeAssert (.iface 123 v) 27 123 true).run Try.prog w = .ok (.tuple #[v, .bool true]) w := fun _ _ => by kernel_rfl
  go_enter Try.func47, Try.ntmps47
  go_wp2
  go_ret
  exact ⟨rfl, rfl⟩
end Go.Proofs.Ytpldeejagomfjaa
