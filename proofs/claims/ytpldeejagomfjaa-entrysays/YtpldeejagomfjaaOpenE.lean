
/- Entries that came in, opened. -/
import Derived.Test.YtpldeejagomfjaaEntL
import Derived.Test.YtpldeejagomfjaaOpenB
import Derived.ProofKit
import Derived.OpenShut
import Derived.ShutString
import Derived.ChangeOld
import Derived.Below
import Derived.Deep.Strs
namespace Go.Proofs.Ytpldeejagomfjaa
open Go.ChangeShapes Go.WideShapes Go.ChangeAt Go.RowKit Go.Deep
open Go.ChangeMaps (open_string shut_string)

theorem Try.cells30 : Try.prog.cellsOf 30 = 3 := by kernel_rfl
instance : Inhabited Ent := ⟨⟨⟨#[]⟩, ⟨#[]⟩, false⟩⟩

section
variable {H : Type} {enc : TypeId × Value → H} {w : World} {base : Nat} {spare : Nat → Bool} {held : Bool}


set_option maxRecDepth 100000 in
theorem open_ent {fuel : Nat} {cs : List Value} {x : DataW H × List MemPlace} (h : DataW.trod enc Try.prog w base spare held fuel 30 cs = some x) :
    ∃ e : Ent, cs = [.string e.key, .string e.val, .bool e.gone] := by
  obtain ⟨y0, y1, y2, n, rfl, hl, h0, h1, h2⟩ := trod_struct3 Try.underlying30 h
  rw [Try.cells30] at hl
  match cs, hl with
  | [c0, c1, c2], _ =>
    simp only [Try.cells9, Try.cells4, List.drop_zero, List.drop_succ_cons, List.take_succ_cons, List.take_zero] at h0 h1 h2
    obtain ⟨k, hk, _, _⟩ := DataW.trod_string Try.underlying9 h0
    obtain ⟨v, hv, _, _⟩ := DataW.trod_string Try.underlying9 h1
    obtain ⟨g, hg, _⟩ := DataW.trod_bool Try.underlying4 h2
    simp at hk hv hg
    subst hk hv hg
    exact ⟨⟨k, v, g⟩, rfl⟩

theorem open_ents {fuel : Nat} {cs : List Value} {x : DataW H × List MemPlace} (h : DataW.trod enc Try.prog w base spare held fuel 22 cs = some x) :
    ∃ ao cap, ∃ es : List Ent, cs = [.slice ao es.length cap] ∧ EntsAt w ao es ∧ es.length ≤ 9223372036854775807 := by
  rcases open_slice Try.underlying22 h with ⟨rfl, _⟩ | ⟨a, len, cap, m, n, D, Pl, rfl, _, hl, hm, hmm, _, hx⟩
  · exact ⟨none, 0, [], rfl, fun h => absurd rfl h, by simp⟩
  · rw [Try.cells30] at hx
    have hlm : len ≤ m := by rw [hmm]; split <;> omega
    have each : ∀ i, i < len → ∃ e : Ent, w.cell? (a.add (i * 3)) = some (.string e.key) ∧ w.cell? ((a.add (i * 3)).add 1) = some (.string e.val) ∧ w.cell? ((a.add (i * 3)).add 2) = some (.bool e.gone) := by
      intro i hi
      obtain ⟨cs', h1, h2⟩ := hx i (by omega)
      obtain ⟨e, rfl⟩ := open_ent h2
      obtain ⟨_, _, hc⟩ := World.cells?_some h1
      have a0 : (a.add (i * 3)).add 0 = a.add (i * 3) := by unfold Addr.add; simp
      exact ⟨e, by have := hc 0 (by omega); rw [a0] at this; simpa using this, by simpa using hc 1 (by omega), by simpa using hc 2 (by omega)⟩
    obtain ⟨E, hE⟩ := choose_lt each
    refine ⟨some a, cap, (List.range len).map E, by simp, ?_, by simp; unfold maxLen at hm; omega⟩
    intro hne
    have hlen : 0 < len := by
      rcases Nat.eq_zero_or_pos len with h0 | h0
      · subst h0; simp at hne
      · exact h0
    obtain ⟨b, off, spot⟩ := a
    have hs0 := (hE 0 hlen).1
    have hspot : spot = none := by simpa [Addr.add] using World.cell?_spot hs0
    subst hspot
    refine ⟨b, off, rfl, fun i e he => ?_⟩
    have hi : i < len := by
      rcases Nat.lt_or_ge i len with h1 | h1
      · exact h1
      · simp [List.getElem?_eq_none (show ((List.range len).map E).length ≤ i by simpa using h1)] at he
    have he' : e = E i := by simp [hi] at he; exact he.symm
    subst he'
    have := hE i hi
    simpa only [add_plain] using this
end
end Go.Proofs.Ytpldeejagomfjaa
