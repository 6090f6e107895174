
/- Numbers that came in, opened. -/
import Derived.Test.YtpldeejagomfjaaOpenB
import Derived.Test.YtpldeejagomfjaaTowF
namespace Go.Proofs.Ytpldeejagomfjaa
open Go.ChangeShapes Go.WideShapes Go.ChangeAt Go.RowKit Go.Deep

theorem Try.cells3 : Try.prog.cellsOf 3 = 1 := by kernel_rfl
theorem open_ints {H : Type} {enc : TypeId × Value → H} {w : World} {base : Nat} {spare : Nat → Bool} {held : Bool} {fuel : Nat} {cs : List Value} {x : DataW H × List MemPlace} (h : DataW.trod enc Try.prog w base spare held fuel 74 cs = some x) :
    ∃ ao cap, ∃ ts : List Int, cs = [.slice ao ts.length cap] ∧ ts.length ≤ 9223372036854775807 ∧ IntsAt w ao ts := by
  obtain ⟨ao, cap, ts, h1, h2, h3⟩ := open_row1 (α := Int) Try.prog Try.underlying74 Try.cells3 (Value.int .i64) (fun _ _ _ hh => by
    obtain ⟨s, hs, _, _⟩ := DataW.trod_int Try.underlying3 hh; exact ⟨s, hs⟩) h
  exact ⟨ao, cap, ts, h1, h2, h3⟩
end Go.Proofs.Ytpldeejagomfjaa
