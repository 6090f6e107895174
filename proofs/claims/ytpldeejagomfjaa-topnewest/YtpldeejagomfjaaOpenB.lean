
/- What came in, opened: the ground of it. -/
import Derived.Test.YtpldeejagomfjaaWld
import Derived.ProofKit
import Derived.OpenShut
import Derived.ShutString
import Derived.ChangeOld
import Derived.Below
import Derived.Deep.Strs
namespace Go.Proofs.Ytpldeejagomfjaa
open Go.ChangeShapes Go.WideShapes Go.ChangeAt Go.RowKit Go.Deep
open Go.ChangeMaps (open_string shut_string)

theorem Try.own : ownKnob Try.prog.godebug = none := by kernel_rfl
theorem Try.laidOut : laidOutB Try.prog = true := by kernel_rfl
theorem Try.cells9 : Try.prog.cellsOf 9 = 1 := by kernel_rfl
theorem Try.cells4 : Try.prog.cellsOf 4 = 1 := by kernel_rfl

/-- A slice whose elements are of one cell each. -/
theorem open_row1 {α : Type} [Inhabited α] (P : Program) {H : Type} {enc : TypeId × Value → H} {w : World} {base : Nat} {spare : Nat → Bool} {held : Bool} {t e : TypeId} (ht : P.underlying t = some (.slice e)) (hc1 : P.cellsOf e = 1) (f : α → Value)
    (ho : ∀ (fuel : Nat) (cs : List Value) (x : DataW H × List MemPlace), DataW.trod enc P w base spare held fuel e cs = some x → ∃ a : α, cs = [f a]) {fuel : Nat} {cs : List Value} {x : DataW H × List MemPlace}
    (h : DataW.trod enc P w base spare held fuel t cs = some x) :
    ∃ ao cap, ∃ es : List α, cs = [.slice ao es.length cap] ∧ es.length ≤ 9223372036854775807 ∧ (es ≠ [] → ∃ b off, ao = some ⟨b, off, none⟩ ∧ ∀ i a, es[i]? = some a → w.cell? ⟨b, off + i, none⟩ = some (f a)) := by
  rcases open_slice ht h with ⟨rfl, _⟩ | ⟨a, len, cap, m, n, D, Pl, rfl, _, hl, hm, hmm, _, hx⟩
  · exact ⟨none, 0, [], rfl, by simp, fun h => absurd rfl h⟩
  · rw [hc1] at hx
    have hlm : len ≤ m := by rw [hmm]; split <;> omega
    have each : ∀ i, i < len → ∃ e : α, w.cell? (a.add i) = some (f e) := by
      intro i hi
      obtain ⟨cs', h1, h2⟩ := hx i (by omega)
      obtain ⟨e, rfl⟩ := ho _ _ _ h2
      obtain ⟨_, _, hc⟩ := World.cells?_some h1
      have a0 : (a.add (i * 1)).add 0 = a.add i := by unfold Addr.add; simp
      exact ⟨e, by have := hc 0 (by omega); rw [a0] at this; simpa using this⟩
    obtain ⟨E, hE⟩ := choose_lt each
    refine ⟨some a, cap, (List.range len).map E, by simp, by simp; unfold maxLen at hm; omega, ?_⟩
    intro hne
    have hlen : 0 < len := by
      rcases Nat.eq_zero_or_pos len with h0 | h0
      · subst h0; simp at hne
      · exact h0
    obtain ⟨b, off, spot⟩ := a
    have hs0 := hE 0 hlen
    have hspot : spot = none := by simpa [Addr.add] using World.cell?_spot hs0
    subst hspot
    refine ⟨b, off, rfl, fun i e he => ?_⟩
    have hi : i < len := by
      rcases Nat.lt_or_ge i len with h1 | h1
      · exact h1
      · simp [List.getElem?_eq_none (show ((List.range len).map E).length ≤ i by simpa using h1)] at he
    have he' : e = E i := by simp [hi] at he; exact he.symm
    subst he'
    have := hE i hi
    simpa only [add_plain] using this
end Go.Proofs.Ytpldeejagomfjaa
