/- EntL. -/
import Derived.Test.YtkibgflbidkalaaGreatDoorWldJ
import Derived.WalkLawsBesides
import Derived.Deep.QuietTactic
import Derived.BigQuiet

/- Lists of entries in memory: LightEntries, SameEntries. -/
namespace Go.Proofs.YtkibgflbidkalaaGreatDoor
open Go.RowKit

structure Ent where
  key : ByteArray
  val : ByteArray
  gone : Bool

def entV (e : Ent) : Value := .agg #[.string e.key, .string e.val, .bool e.gone]
def EntsAt (w : World) (ao : Option Addr) (es : List Ent) : Prop :=
  es ≠ [] → ∃ b off, ao = some ⟨b, off, none⟩ ∧ ∀ i e, es[i]? = some e →
    w.cell? ⟨b, off + i * 3, none⟩ = some (.string e.key) ∧ w.cell? ⟨b, off + i * 3 + 1, none⟩ = some (.string e.val) ∧ w.cell? ⟨b, off + i * 3 + 2, none⟩ = some (.bool e.gone)

theorem EntsAt.get {w : World} {ao : Option Addr} {es : List Ent} (h : EntsAt w ao es) {k : Nat} (hk : k < es.length) :
    ∃ b off key val gone, ao = some ⟨b, off, none⟩ ∧ es[k]? = some ⟨key, val, gone⟩ ∧ w.cell? ⟨b, off + k * 3, none⟩ = some (.string key) ∧ w.cell? ⟨b, off + k * 3 + 1, none⟩ = some (.string val) ∧ w.cell? ⟨b, off + k * 3 + 2, none⟩ = some (.bool gone) := by
  obtain ⟨b, off, rfl, hc⟩ := h (by intro e; subst e; simp at hk)
  have he : es[k]? = some es[k] := List.getElem?_eq_getElem hk
  exact ⟨b, off, es[k].key, es[k].val, es[k].gone, rfl, he, hc k _ he⟩

def entCells (e : Ent) : List Value := [.string e.key, .string e.val, .bool e.gone]
def rowOf (es : List Ent) : List Value := es.flatMap entCells
theorem rowOf_length (es : List Ent) : (rowOf es).length = es.length * 3 := by
  induction es with
  | nil => rfl
  | cons e r ih => simp only [rowOf, List.flatMap_cons, List.length_append, List.length_cons] at *; rw [ih]; simp [entCells]; omega
theorem rowOf_snoc (es : List Ent) (e : Ent) : rowOf (es ++ [e]) = rowOf es ++ entCells e := by simp [rowOf]
theorem rowOf_app (a b : List Ent) : rowOf (a ++ b) = rowOf a ++ rowOf b := by simp [rowOf]
theorem rowOf_get (es : List Ent) (i : Nat) (e : Ent) (h : es[i]? = some e) : (rowOf es)[i * 3]? = some (.string e.key) ∧ (rowOf es)[i * 3 + 1]? = some (.string e.val) ∧ (rowOf es)[i * 3 + 2]? = some (.bool e.gone) := by
  induction es generalizing i with
  | nil => simp at h
  | cons x r ih =>
    cases i with
    | zero => simp at h; subst h; simp [rowOf, entCells]
    | succ i =>
      have := ih i (by simpa using h)
      rw [show (i + 1) * 3 = i * 3 + 1 + 1 + 1 by omega]
      simp only [rowOf, List.flatMap_cons, entCells, List.cons_append, List.nil_append] at *
      simpa using this
theorem rowOf_one (es : List Ent) : ∀ u ∈ rowOf es, u.oneCell' = true := by
  intro u hu
  simp only [rowOf, List.mem_flatMap] at hu
  obtain ⟨e, _, he⟩ := hu
  simp only [entCells, List.mem_cons, List.not_mem_nil, or_false] at he
  rcases he with rfl | rfl | rfl <;> rfl
theorem rowOf_inv (es : List Ent) (j : Nat) (u : Value) (h : (rowOf es)[j]? = some u) : ∃ i e, es[i]? = some e ∧ ((j = i * 3 ∧ u = .string e.key) ∨ (j = i * 3 + 1 ∧ u = .string e.val) ∨ (j = i * 3 + 2 ∧ u = .bool e.gone)) := by
  have hj : j < es.length * 3 := by
    rcases Nat.lt_or_ge j (es.length * 3) with h' | h'
    · exact h'
    · rw [List.getElem?_eq_none (by rw [rowOf_length]; exact h')] at h; simp at h
  have hi : j / 3 < es.length := by omega
  have he : es[j / 3]? = some es[j / 3] := List.getElem?_eq_getElem hi
  obtain ⟨a, b, c⟩ := rowOf_get es (j / 3) _ he
  refine ⟨j / 3, _, he, ?_⟩
  rcases (show j = j / 3 * 3 ∨ j = j / 3 * 3 + 1 ∨ j = j / 3 * 3 + 2 by omega) with e | e | e
  · rw [e] at h; rw [a] at h; simp at h; exact .inl ⟨e, h.symm⟩
  · rw [e] at h; rw [b] at h; simp at h; exact .inr (.inl ⟨e, h.symm⟩)
  · rw [e] at h; rw [c] at h; simp at h; exact .inr (.inr ⟨e, h.symm⟩)
theorem EntsAt.row {w : World} {ao : Option Addr} {es : List Ent} (h : EntsAt w ao es) : rowOf es ≠ [] → ∃ ad, ao = some ad ∧ ∀ j u, (rowOf es)[j]? = some u → w.cell? (ad.add j) = some u := by
  intro hne
  obtain ⟨b, off, rfl, hc⟩ := h (by intro e; subst e; exact hne rfl)
  refine ⟨_, rfl, fun j u hu => ?_⟩
  have : ((⟨b, off, none⟩ : Addr).add j) = ⟨b, off + j, none⟩ := by unfold Addr.add; by_cases h : j = 0 <;> simp [h]
  rw [this]
  obtain ⟨i, e, he, hh⟩ := rowOf_inv es j u hu
  obtain ⟨h1, h2, h3⟩ := hc i e he
  rcases hh with ⟨rfl, rfl⟩ | ⟨rfl, rfl⟩ | ⟨rfl, rfl⟩
  · exact h1
  · rw [← h2]; congr 2
  · rw [← h3]; congr 2
theorem ents_of_row {w : World} {base : Nat} {v : Value} {es : List Ent} (h : w.ownsRow base 56 3 v es.length (rowOf es)) : ∃ ao cap, v = .slice ao es.length cap ∧ EntsAt w ao es := by
  obtain ⟨hlen, hcase⟩ := h
  rcases hcase with ⟨rfl, h0⟩ | ⟨g, cap, cur, rfl, _, hh, _, _, _, htake⟩
  · have : es = [] := List.eq_nil_of_length_eq_zero h0
    subst this
    exact ⟨none, 0, rfl, fun h => absurd rfl h⟩
  · refine ⟨_, cap, rfl, fun _ => ⟨g, 0, rfl, fun i e he => ?_⟩⟩
    have key : ∀ j u, (rowOf es)[j]? = some u → w.cell? ⟨g, j, none⟩ = some u := by
      intro j u hj
      rw [← htake, List.getElem?_take] at hj
      split at hj
      · simp only [World.cell?, hh]; simpa using hj
      · simp at hj
    obtain ⟨a, b, c⟩ := rowOf_get es i e he
    simp only [Nat.zero_add]
    exact ⟨key _ _ a, key _ _ b, key _ _ c⟩
theorem EntsAt.ext {w w' : World} {ao : Option Addr} {es : List Ent} (h : EntsAt w ao es) (hx : Ext w w') : EntsAt w' ao es := by
  intro hne
  obtain ⟨b, off, rfl, hc⟩ := h hne
  exact ⟨b, off, rfl, fun i e he => ⟨hx.cell (hc i e he).1, hx.cell (hc i e he).2.1, hx.cell (hc i e he).2.2⟩⟩
theorem Tryz.info56 : (Tryz.prog.info? 56).map (fun i => (i.zero, i.size, i.bytes)) = some (some (.agg #[.string ⟨#[]⟩, .string ⟨#[]⟩, .bool false]), 3, 40) := by kernel_rfl
theorem take_snocE {es : List Ent} {k : Nat} {e : Ent} (he : es[k]? = some e) : es.take (k + 1) = es.take k ++ [e] := by
  rw [List.take_add_one, he]; rfl
end Go.Proofs.YtkibgflbidkalaaGreatDoor
