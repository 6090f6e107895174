
/- Lists of entries that came in, opened. -/
import Derived.Test.YtpldeejagomfjaaOpenE
import Derived.Test.YtpldeejagomfjaaMrgB
namespace Go.Proofs.Ytpldeejagomfjaa
open Go.ChangeShapes Go.WideShapes Go.ChangeAt Go.RowKit Go.Deep

theorem Try.cells22 : Try.prog.cellsOf 22 = 1 := by kernel_rfl
instance : Inhabited LE := ⟨⟨[], none, 0⟩⟩

section
variable {H : Type} {enc : TypeId × Value → H} {w : World} {base : Nat} {spare : Nat → Bool} {held : Bool}
theorem open_ents_cap {fuel : Nat} {cs : List Value} {x : DataW H × List MemPlace} (h : DataW.trod enc Try.prog w base spare held fuel 22 cs = some x) :
    ∃ ao cap, ∃ es : List Ent, cs = [.slice ao es.length cap] ∧ EntsAt w ao es ∧ es.length ≤ cap ∧ cap ≤ 9223372036854775807 := by
  obtain ⟨ao, cap, es, rfl, he, _⟩ := open_ents h
  refine ⟨ao, cap, es, rfl, he, ?_⟩
  rcases open_slice Try.underlying22 h with ⟨h1, _⟩ | ⟨a, len, cap', m, n, D, Pl, h1, _, hl, hm, _⟩
  · simp at h1
    obtain ⟨_, rfl, rfl⟩ := h1
    exact ⟨Nat.le_refl _, by omega⟩
  · simp at h1; unfold maxLen at hm; omega

theorem open_lists {fuel : Nat} {cs : List Value} {x : DataW H × List MemPlace} (h : DataW.trod enc Try.prog w base spare held fuel 94 cs = some x) :
    ∃ ao cap, ∃ ls : List LE, cs = [.slice ao ls.length cap] ∧ ListsAt w ao ls ∧ ls.length ≤ 9223372036854775807 ∧ ls.length ≤ cap ∧ ∀ l ∈ ls, l.es.length ≤ 9223372036854775807 := by
  rcases open_slice Try.underlying94 h with ⟨rfl, _⟩ | ⟨a, len, cap, m, n, D, Pl, rfl, _, hl, hm, hmm, _, hx⟩
  · exact ⟨none, 0, [], rfl, fun h => absurd rfl h, by simp, by simp, by simp⟩
  · rw [Try.cells22] at hx
    have hlm : len ≤ m := by rw [hmm]; split <;> omega
    have each : ∀ i, i < len → ∃ l : LE, w.cell? (a.add i) = some (.slice l.ao l.es.length l.cap) ∧ l.es.length ≤ l.cap ∧ EntsAt w l.ao l.es ∧ l.es.length ≤ 9223372036854775807 := by
      intro i hi
      obtain ⟨cs', h1, h2⟩ := hx i (by omega)
      obtain ⟨eo, ec, es, rfl, he, hc1, hc2⟩ := open_ents_cap h2
      obtain ⟨_, _, hc⟩ := World.cells?_some h1
      have a0 : (a.add (i * 1)).add 0 = a.add i := by unfold Addr.add; simp
      exact ⟨⟨es, eo, ec⟩, by have := hc 0 (by omega); rw [a0] at this; simpa using this, hc1, he, by dsimp only; omega⟩
    obtain ⟨E, hE⟩ := choose_lt each
    have mem : ∀ l ∈ (List.range len).map E, l.es.length ≤ 9223372036854775807 := by
      intro l hl
      obtain ⟨i, hi, rfl⟩ := List.mem_map.1 hl
      exact (hE i (by simpa using hi)).2.2.2
    refine ⟨some a, cap, (List.range len).map E, by simp, ?_, by simp; unfold maxLen at hm; omega, by simpa using hl, mem⟩
    intro hne
    have hlen : 0 < len := by
      rcases Nat.eq_zero_or_pos len with h0 | h0
      · subst h0; simp at hne
      · exact h0
    obtain ⟨b, off, spot⟩ := a
    have hs0 := (hE 0 hlen).1
    have hspot : spot = none := by simpa [Addr.add] using World.cell?_spot hs0
    subst hspot
    refine ⟨b, off, rfl, fun i e he => ?_⟩
    have hi : i < len := by
      rcases Nat.lt_or_ge i len with h1 | h1
      · exact h1
      · simp [List.getElem?_eq_none (show ((List.range len).map E).length ≤ i by simpa using h1)] at he
    have he' : e = E i := by simp [hi] at he; exact he.symm
    subst he'
    have := hE i hi
    simp only [add_plain] at this
    exact ⟨this.1, this.2.1, this.2.2.1⟩
end
end Go.Proofs.Ytpldeejagomfjaa
