
/- Texts that came in, opened. -/
import Derived.Test.YtpldeejagomfjaaOpenB
import Derived.Test.YtpldeejagomfjaaFilA
namespace Go.Proofs.Ytpldeejagomfjaa
open Go.ChangeShapes Go.WideShapes Go.ChangeAt Go.RowKit Go.Deep

theorem open_txts {H : Type} {enc : TypeId × Value → H} {w : World} {base : Nat} {spare : Nat → Bool} {held : Bool} {fuel : Nat} {cs : List Value} {x : DataW H × List MemPlace} (h : DataW.trod enc Try.prog w base spare held fuel 85 cs = some x) :
    ∃ ao cap, ∃ ts : List ByteArray, cs = [.slice ao ts.length cap] ∧ ts.length ≤ 9223372036854775807 ∧ TxtsAt w ao ts := by
  obtain ⟨ao, cap, ts, h1, h2, h3⟩ := open_row1 (α := ByteArray) Try.prog Try.underlying85 Try.cells9 Value.string (fun _ _ _ hh => by
    obtain ⟨s, hs, _, _⟩ := DataW.trod_string Try.underlying9 hh; exact ⟨s, hs⟩) h
  exact ⟨ao, cap, ts, h1, h2, h3⟩
end Go.Proofs.Ytpldeejagomfjaa
