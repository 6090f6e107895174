/- EntE. -/
import Derived.Test.YthndopokabceiaaGreatDoorWldJ

/- Errors. -/
namespace Go.Proofs.YthndopokabceiaaGreatDoor
open Go.RowKit

def errV (n : Int) : Value := if n = 0 then .nilIface else .iface 110 (.int .i64 n)
end Go.Proofs.YthndopokabceiaaGreatDoor
