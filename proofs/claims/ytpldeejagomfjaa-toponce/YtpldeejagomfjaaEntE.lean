
/- Errors. -/
import Derived.Test.YtpldeejagomfjaaWld
namespace Go.Proofs.Ytpldeejagomfjaa
open Go.RowKit

/-- An error by its number. -/
def errV (n : Int) : Value := if n = 0 then .nilIface else .iface 123 (.int .i64 n)
end Go.Proofs.Ytpldeejagomfjaa
