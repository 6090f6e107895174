/- GlbM. -/
import Derived.Test.YtkibgflbidkalaaGreatDoorShelfJ
import Derived.Shelf.Vars

/- The variable that the library's search reads holds a number. -/
namespace Go.Proofs.YtkibgflbidkalaaGreatDoor

theorem globM_of_shape {W : World} (h : W.ShapedOpen Tryz.prog) : Tryz.Glob W := cell_of_shapedOpen_int (g := 2) (t := 3) (zero := #[.int .i64 0]) h (of_decide_eq_true (by kernel_rfl)) (by kernel_rfl) (by kernel_rfl) (by kernel_rfl) (by kernel_rfl) Tryz.underlying3
end Go.Proofs.YtkibgflbidkalaaGreatDoor
