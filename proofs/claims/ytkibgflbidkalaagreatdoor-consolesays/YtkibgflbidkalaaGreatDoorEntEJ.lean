/- EntE. -/
import Derived.Test.YtkibgflbidkalaaGreatDoorWldJ

/- Errors. -/
namespace Go.Proofs.YtkibgflbidkalaaGreatDoor
open Go.RowKit

def errV (n : Int) : Value := if n = 0 then .nilIface else .iface 39 (.int .i64 n)
end Go.Proofs.YtkibgflbidkalaaGreatDoor
