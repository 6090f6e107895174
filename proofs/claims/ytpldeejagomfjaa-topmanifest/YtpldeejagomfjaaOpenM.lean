
/- A manifest that came in, opened. -/
import Derived.Test.YtpldeejagomfjaaOpenB
import Derived.Test.YtpldeejagomfjaaIntL
import Derived.Lib.SmallJoins
namespace Go.Proofs.Ytpldeejagomfjaa
open Go.ChangeShapes Go.WideShapes Go.ChangeAt Go.RowKit Go.Deep

theorem Try.cellsM3 : Try.prog.cellsOf 3 = 1 := by kernel_rfl
theorem Try.cells74 : Try.prog.cellsOf 74 = 1 := by kernel_rfl
theorem Try.cells100 : Try.prog.cellsOf 100 = 4 := by kernel_rfl

section
variable {H : Type} {enc : TypeId × Value → H} {w : World} {base : Nat} {spare : Nat → Bool} {held : Bool}
theorem open_nums {fuel : Nat} {cs : List Value} {x : DataW H × List MemPlace} (h : DataW.trod enc Try.prog w base spare held fuel 74 cs = some x) :
    ∃ ao cap, ∃ ts : List Int, cs = [.slice ao ts.length cap] ∧ NumsAt w ao ts := by
  obtain ⟨ao, cap, ts, h1, _, h3⟩ := open_row1 (α := Int) Try.prog Try.underlying74 Try.cellsM3 (Value.int .i64) (fun _ _ _ hh => by
    obtain ⟨s, hs, _, _⟩ := DataW.trod_int Try.underlying3 hh; exact ⟨s, hs⟩) h
  exact ⟨ao, cap, ts, h1, h3⟩
theorem open_nums_le {fuel : Nat} {cs : List Value} {x : DataW H × List MemPlace} (h : DataW.trod enc Try.prog w base spare held fuel 74 cs = some x) :
    ∃ ao cap, ∃ ts : List Int, cs = [.slice ao ts.length cap] ∧ NumsAt w ao ts ∧ ts.length ≤ 9223372036854775807 := by
  obtain ⟨ao, cap, ts, h1, h2, h3⟩ := open_row1 (α := Int) Try.prog Try.underlying74 Try.cellsM3 (Value.int .i64) (fun _ _ _ hh => by
    obtain ⟨s, hs, _, _⟩ := DataW.trod_int Try.underlying3 hh; exact ⟨s, hs⟩) h
  exact ⟨ao, cap, ts, h1, h3, h2⟩
set_option maxRecDepth 100000 in
theorem open_man {fuel : Nat} {cs : List Value} {x : DataW H × List MemPlace} (h : DataW.trod enc Try.prog w base spare held fuel 100 cs = some x) :
    ∃ ep lg no oo nc oc, ∃ nw od : List Int, cs = [.int .i64 ep, .int .i64 lg, .slice no nw.length nc, .slice oo od.length oc] ∧ NumsAt w no nw ∧ NumsAt w oo od := by
  obtain ⟨y0, y1, y2, y3, n, rfl, hl, h0, h1, h2, h3⟩ := Joins.trod_struct4 Try.underlying100 h
  rw [Try.cells100] at hl
  match cs, hl with
  | [c0, c1, c2, c3], _ =>
    simp only [Try.cellsM3, Try.cells74, List.drop_zero, List.drop_succ_cons, List.take_succ_cons, List.take_zero] at h0 h1 h2 h3
    obtain ⟨ep, he, _⟩ := DataW.trod_int Try.underlying3 h0
    obtain ⟨lg, hg, _⟩ := DataW.trod_int Try.underlying3 h1
    obtain ⟨no, nc, nw, hn, hn2⟩ := open_nums h2
    obtain ⟨oo, oc, od, ho, ho2⟩ := open_nums h3
    simp at he hg hn ho
    subst he hg hn ho
    exact ⟨ep, lg, no, oo, nc, oc, nw, od, rfl, hn2, ho2⟩
end
end Go.Proofs.Ytpldeejagomfjaa
