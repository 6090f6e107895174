
/- Acts that came in, opened. -/
import Derived.Test.YtpldeejagomfjaaOpenE
import Derived.Test.YtpldeejagomfjaaActA
namespace Go.Proofs.Ytpldeejagomfjaa
open Go.ChangeShapes Go.WideShapes Go.ChangeAt Go.RowKit Go.Deep
open Go.ChangeMaps (open_string shut_string)

theorem Try.cells49 : Try.prog.cellsOf 49 = 5 := by kernel_rfl
theorem Try.cells3 : Try.prog.cellsOf 3 = 1 := by kernel_rfl
theorem Try.cells22 : Try.prog.cellsOf 22 = 1 := by kernel_rfl
instance : Inhabited ActE := ⟨⟨⟨#[]⟩, ⟨#[]⟩, 0, 0, [], none, 0⟩⟩

section
variable {H : Type} {enc : TypeId × Value → H} {w : World} {base : Nat} {spare : Nat → Bool} {held : Bool}

theorem trod_struct5 {P : Program} {t : TypeId} {f0 f1 f2 f3 f4 : Field} {fuel : Nat} {cs : List Value} {x : DataW H × List MemPlace} (ht : P.underlying t = some (.struct #[f0, f1, f2, f3, f4])) (h : DataW.trod enc P w base spare held fuel t cs = some x) :
    ∃ y0 y1 y2 y3 y4 n, cs.length = P.cellsOf t ∧ DataW.trod enc P w base spare held n f0.type ((cs.drop f0.offset).take (P.cellsOf f0.type)) = some y0 ∧
      DataW.trod enc P w base spare held n f1.type ((cs.drop f1.offset).take (P.cellsOf f1.type)) = some y1 ∧ DataW.trod enc P w base spare held n f2.type ((cs.drop f2.offset).take (P.cellsOf f2.type)) = some y2 ∧
      DataW.trod enc P w base spare held n f3.type ((cs.drop f3.offset).take (P.cellsOf f3.type)) = some y3 ∧ DataW.trod enc P w base spare held n f4.type ((cs.drop f4.offset).take (P.cellsOf f4.type)) = some y4 := by
  obtain ⟨xs, n, _, rfl, hl, hlen, hf⟩ := DataW.trod_struct ht h
  match xs, hlen with
  | [y0, y1, y2, y3, y4], _ => exact ⟨y0, y1, y2, y3, y4, n, hl, by simpa using hf 0 f0 rfl, by simpa using hf 1 f1 rfl, by simpa using hf 2 f2 rfl, by simpa using hf 3 f3 rfl, by simpa using hf 4 f4 rfl⟩

set_option maxRecDepth 100000 in
/-- Five cells that read as an act. -/
theorem open_act {fuel : Nat} {cs : List Value} {x : DataW H × List MemPlace} (h : DataW.trod enc Try.prog w base spare held fuel 49 cs = some x) :
    ∃ e : ActE, cs = [.string e.kind, .string e.s, .int .i64 e.a, .int .i64 e.b, .slice e.ao e.es.length e.cap] ∧ ActOk w e := by
  obtain ⟨y0, y1, y2, y3, y4, n, hl, h0, h1, h2, h3, h4⟩ := trod_struct5 Try.underlying49 h
  rw [Try.cells49] at hl
  match cs, hl with
  | [c0, c1, c2, c3, c4], _ =>
    simp only [Try.cells9, Try.cells3, Try.cells22, List.drop_zero, List.drop_succ_cons, List.take_succ_cons, List.take_zero] at h0 h1 h2 h3 h4
    obtain ⟨k, hk, _, _⟩ := DataW.trod_string Try.underlying9 h0
    obtain ⟨s, hs, _, hsz⟩ := DataW.trod_string Try.underlying9 h1
    obtain ⟨a, ha, _, haw⟩ := DataW.trod_int Try.underlying3 h2
    obtain ⟨b, hb, _, hbw⟩ := DataW.trod_int Try.underlying3 h3
    obtain ⟨ao, cap, es, hv, he, hel⟩ := open_ents h4
    simp at hk hs ha hb hv
    subst hk hs ha hb hv
    refine ⟨⟨k, s, a, b, es, ao, cap⟩, rfl, ⟨he, hel, ?_, ?_, ?_⟩⟩
    · unfold maxLen at hsz; omega
    · simp [Lit.wf, IntKind.min, IntKind.max, IntKind.signed, IntKind.bits] at haw; dsimp only; omega
    · simp [Lit.wf, IntKind.min, IntKind.max, IntKind.signed, IntKind.bits] at haw; dsimp only; omega

set_option maxRecDepth 100000 in
theorem open_acts {fuel : Nat} {cs : List Value} {x : DataW H × List MemPlace} (h : DataW.trod enc Try.prog w base spare held fuel 42 cs = some x) :
    ∃ ao cap, ∃ acs : List ActE, cs = [.slice ao acs.length cap] ∧ ActsAt w ao acs ∧ acs.length ≤ 9223372036854775807 := by
  rcases open_slice Try.underlying42 h with ⟨rfl, _⟩ | ⟨a, len, cap, m, n, D, Pl, rfl, _, hl, hm, hmm, _, hx⟩
  · exact ⟨none, 0, [], rfl, fun h => absurd rfl h, by simp⟩
  · rw [Try.cells49] at hx
    have hlm : len ≤ m := by rw [hmm]; split <;> omega
    have each : ∀ i, i < len → ∃ e : ActE, w.cell? (a.add (i * 5)) = some (.string e.kind) ∧ w.cell? ((a.add (i * 5)).add 1) = some (.string e.s) ∧ w.cell? ((a.add (i * 5)).add 2) = some (.int .i64 e.a) ∧
        w.cell? ((a.add (i * 5)).add 3) = some (.int .i64 e.b) ∧ w.cell? ((a.add (i * 5)).add 4) = some (.slice e.ao e.es.length e.cap) ∧ ActOk w e := by
      intro i hi
      obtain ⟨cs', h1, h2⟩ := hx i (by omega)
      obtain ⟨e, rfl, hok⟩ := open_act h2
      obtain ⟨_, _, hc⟩ := World.cells?_some h1
      have a0 : (a.add (i * 5)).add 0 = a.add (i * 5) := by unfold Addr.add; simp
      exact ⟨e, by have := hc 0 (by omega); rw [a0] at this; simpa using this, by simpa using hc 1 (by omega), by simpa using hc 2 (by omega), by simpa using hc 3 (by omega), by simpa using hc 4 (by omega), hok⟩
    obtain ⟨E, hE⟩ := choose_lt each
    refine ⟨some a, cap, (List.range len).map E, by simp, ?_, by simp; unfold maxLen at hm; omega⟩
    intro hne
    have hlen : 0 < len := by
      rcases Nat.eq_zero_or_pos len with h0 | h0
      · subst h0; simp at hne
      · exact h0
    obtain ⟨b, off, spot⟩ := a
    have hs0 := (hE 0 hlen).1
    have hspot : spot = none := by simpa [Addr.add] using World.cell?_spot hs0
    subst hspot
    refine ⟨b, off, rfl, fun i e he => ?_⟩
    have hi : i < len := by
      rcases Nat.lt_or_ge i len with h1 | h1
      · exact h1
      · simp [List.getElem?_eq_none (show ((List.range len).map E).length ≤ i by simpa using h1)] at he
    have he' : e = E i := by simp [hi] at he; exact he.symm
    subst he'
    have := hE i hi
    simpa only [add_plain] using this
end
end Go.Proofs.Ytpldeejagomfjaa
