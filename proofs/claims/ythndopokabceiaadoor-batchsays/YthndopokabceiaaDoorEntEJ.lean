/- EntE. -/
import Derived.Test.YthndopokabceiaaDoorWldJ

/- Errors. -/
namespace Go.Proofs.YthndopokabceiaaDoor
open Go.RowKit

/-- An error by its number. -/
def errV (n : Int) : Value := if n = 0 then .nilIface else .iface 82 (.int .i64 n)
end Go.Proofs.YthndopokabceiaaDoor
