/- Entries that came in, opened, with their capacity. -/
import Derived.Test.YtjeinblcpejpnaaOpenE
namespace Go.Proofs.Ytjeinblcpejpnaa
open Go.ChangeShapes Go.WideShapes Go.ChangeAt Go.RowKit Go.Deep
section
variable {H : Type} {enc : TypeId × Value → H} {w : World} {base : Nat} {spare : Nat → Bool} {held : Bool}
theorem open_entsC {fuel : Nat} {cs : List Value} {x : DataW H × List MemPlace} (h : DataW.trod enc Try.prog w base spare held fuel 22 cs = some x) :
    ∃ ao cap, ∃ es : List Ent, cs = [.slice ao es.length cap] ∧ EntsAt w ao es ∧ es.length ≤ cap ∧ cap ≤ 9223372036854775807 := by
  obtain ⟨ao, cap, es, rfl, he, _⟩ := open_ents h
  refine ⟨ao, cap, es, rfl, he, ?_⟩
  rcases open_slice Try.underlying22 h with ⟨h1, _⟩ | ⟨a, len, cap', m, n, D, Pl, h1, _, hl, hm, _⟩
  · simp at h1
    obtain ⟨_, rfl, rfl⟩ := h1
    exact ⟨Nat.le_refl _, by omega⟩
  · simp at h1; unfold maxLen at hm; omega
end
end Go.Proofs.Ytjeinblcpejpnaa
