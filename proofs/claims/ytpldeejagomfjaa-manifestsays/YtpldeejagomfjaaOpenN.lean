
/- Manifests that came in, opened. -/
import Derived.Test.YtpldeejagomfjaaOpenM
import Derived.Test.YtpldeejagomfjaaManW
namespace Go.Proofs.Ytpldeejagomfjaa
open Go.ChangeShapes Go.WideShapes Go.ChangeAt Go.RowKit Go.Deep

instance : Inhabited ME := ⟨⟨⟨0, 0, [], []⟩, none, 0, none, 0⟩⟩
theorem open_mans {H : Type} {enc : TypeId × Value → H} {w : World} {base : Nat} {spare : Nat → Bool} {held : Bool} {fuel : Nat} {cs : List Value} {x : DataW H × List MemPlace} (h : DataW.trod enc Try.prog w base spare held fuel 101 cs = some x) :
    ∃ ao cap, ∃ ms : List ME, cs = [.slice ao ms.length cap] ∧ MansAt w ao ms ∧ ms.length ≤ 9223372036854775807 := by
  rcases open_slice Try.underlying101 h with ⟨rfl, _⟩ | ⟨a, len, cap, m, n, D, Pl, rfl, _, hl, hm, hmm, _, hx⟩
  · exact ⟨none, 0, [], rfl, fun h => absurd rfl h, by simp⟩
  · rw [Try.cells100] at hx
    have hlm : len ≤ m := by rw [hmm]; split <;> omega
    have each : ∀ i, i < len → ∃ e : ME, (w.cell? (a.add (i * 4)) = some (.int .i64 e.m.ep) ∧ w.cell? ((a.add (i * 4)).add 1) = some (.int .i64 e.m.lg) ∧ w.cell? ((a.add (i * 4)).add 2) = some (.slice e.no e.m.nw.length e.nc) ∧ w.cell? ((a.add (i * 4)).add 3) = some (.slice e.oo e.m.od.length e.oc)) ∧ NumsAt w e.no e.m.nw ∧ NumsAt w e.oo e.m.od := by
      intro i hi
      obtain ⟨cs', h1, h2⟩ := hx i (by omega)
      obtain ⟨ep, lg, no, oo, nc, oc, nw, od, rfl, hn, ho⟩ := open_man h2
      obtain ⟨_, _, hc⟩ := World.cells?_some h1
      have a0 : (a.add (i * 4)).add 0 = a.add (i * 4) := by unfold Addr.add; simp
      exact ⟨⟨⟨ep, lg, nw, od⟩, no, nc, oo, oc⟩, ⟨by have := hc 0 (by omega); rw [a0] at this; simpa using this, by simpa using hc 1 (by omega), by simpa using hc 2 (by omega), by simpa using hc 3 (by omega)⟩, hn, ho⟩
    obtain ⟨E, hE⟩ := choose_lt each
    refine ⟨some a, cap, (List.range len).map E, by simp, ?_, by simp; unfold maxLen at hm; omega⟩
    intro hne
    have hlen : 0 < len := by
      rcases Nat.eq_zero_or_pos len with h0 | h0
      · subst h0; simp at hne
      · exact h0
    obtain ⟨b, off, spot⟩ := a
    have hs0 := (hE 0 hlen).1.1
    have hspot : spot = none := by simpa [Addr.add] using World.cell?_spot hs0
    subst hspot
    refine ⟨b, off, rfl, fun i e he => ?_⟩
    have hi : i < len := by
      rcases Nat.lt_or_ge i len with h1 | h1
      · exact h1
      · simp [List.getElem?_eq_none (show ((List.range len).map E).length ≤ i by simpa using h1)] at he
    have he' : e = E i := by simp [hi] at he; exact he.symm
    subst he'
    obtain ⟨⟨q0, q1, q2, q3⟩, q4, q5⟩ := hE i hi
    simp only [add_plain] at q0 q1 q2 q3
    exact ⟨q0, q1, q2, q3, q4, q5⟩
end Go.Proofs.Ytpldeejagomfjaa
