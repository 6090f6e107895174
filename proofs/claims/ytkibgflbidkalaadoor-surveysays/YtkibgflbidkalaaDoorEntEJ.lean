/- EntE. -/
import Derived.Test.YtkibgflbidkalaaDoorWldJ

/- Errors. -/
namespace Go.Proofs.YtkibgflbidkalaaDoor
open Go.RowKit

/-- An error by its number. -/
def errV (n : Int) : Value := if n = 0 then .nilIface else .iface 62 (.int .i64 n)
end Go.Proofs.YtkibgflbidkalaaDoor
