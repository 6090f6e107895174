/- Errors. -/
import Derived.Test.YtjeinblcpejpnabWld
namespace Go.Proofs.Ytjeinblcpejpnab
open Go.RowKit

/-- An error by its number. -/
def errV (n : Int) : Value := if n = 0 then .nilIface else .iface 93 (.int .i64 n)
end Go.Proofs.Ytjeinblcpejpnab
