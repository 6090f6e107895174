/- EntE. -/
import Derived.Test.YtjeinblcpejpnabGreatDoorWldJ

/- Errors. -/
namespace Go.Proofs.YtjeinblcpejpnabGreatDoor
open Go.RowKit

/-- An error by its number. -/
def errV (n : Int) : Value := if n = 0 then .nilIface else .iface 88 (.int .i64 n)
end Go.Proofs.YtjeinblcpejpnabGreatDoor
