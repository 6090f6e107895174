/- Errors. -/
import Derived.Test.YtjeinblcpejpnaaWld
namespace Go.Proofs.Ytjeinblcpejpnaa
open Go.RowKit

/-- An error by its number. -/
def errV (n : Int) : Value := if n = 0 then .nilIface else .iface 128 (.int .i64 n)
end Go.Proofs.Ytjeinblcpejpnaa
