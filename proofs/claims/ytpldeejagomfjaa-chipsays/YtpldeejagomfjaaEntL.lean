
/- Lists of entries in memory: LightEntries, SameEntries. -/
import Derived.Test.YtpldeejagomfjaaWld
import Derived.WalkLawsBesides
import Derived.Deep.QuietTactic
import Derived.BigQuiet
namespace Go.Proofs.Ytpldeejagomfjaa
open Go.RowKit

structure Ent where
  key : ByteArray
  val : ByteArray
  gone : Bool

def entV (e : Ent) : Value := .agg #[.string e.key, .string e.val, .bool e.gone]
/-- In world w the slice at 'ao' holds the entries 'es'. -/
def EntsAt (w : World) (ao : Option Addr) (es : List Ent) : Prop :=
  es ≠ [] → ∃ b off, ao = some ⟨b, off, none⟩ ∧ ∀ i e, es[i]? = some e →
    w.cell? ⟨b, off + i * 3, none⟩ = some (.string e.key) ∧ w.cell? ⟨b, off + i * 3 + 1, none⟩ = some (.string e.val) ∧ w.cell? ⟨b, off + i * 3 + 2, none⟩ = some (.bool e.gone)

def lightE (e : Ent) : Bool := decide (e.key.size ≤ 20) && decide (e.val.size ≤ 30)
def light (es : List Ent) (most : Nat) : Bool := decide (es.length ≤ most) && es.all lightE

theorem EntsAt.get {w : World} {ao : Option Addr} {es : List Ent} (h : EntsAt w ao es) {k : Nat} (hk : k < es.length) :
    ∃ b off key val gone, ao = some ⟨b, off, none⟩ ∧ es[k]? = some ⟨key, val, gone⟩ ∧ w.cell? ⟨b, off + k * 3, none⟩ = some (.string key) ∧ w.cell? ⟨b, off + k * 3 + 1, none⟩ = some (.string val) ∧ w.cell? ⟨b, off + k * 3 + 2, none⟩ = some (.bool gone) := by
  obtain ⟨b, off, rfl, hc⟩ := h (by intro e; subst e; simp at hk)
  have he : es[k]? = some es[k] := List.getElem?_eq_getElem hk
  exact ⟨b, off, es[k].key, es[k].val, es[k].gone, rfl, he, hc k _ he⟩

def lightTo (es : List Ent) (k : Nat) : Prop := (es.take k).all lightE = true
theorem take_all_succ {es : List Ent} {k : Nat} {e : Ent} (he : es[k]? = some e) : (es.take (k + 1)).all lightE = ((es.take k).all lightE && lightE e) := by
  rw [List.take_add_one, he]; simp

theorem light_stop {es : List Ent} {k : Nat} {e : Ent} {most : Nat} (he : es[k]? = some e) (h : lightE e = false) : light es most = false := by
  have hm : e ∈ es := List.mem_of_getElem? he
  unfold light
  have : es.all lightE = false := by
    rw [List.all_eq_false]
    exact ⟨e, hm, by simp [h]⟩
  simp [this]

set_option maxHeartbeats 400000 in
theorem light_any (ao : Option Addr) (cap : Nat) (es : List Ent) (most : Nat) (w : World) (hm : most ≤ 1000) (hl : es.length ≤ 9223372036854775807) (hes : EntsAt w ao es) :
    Calls Try.prog 18 #[.slice ao es.length cap, .int .i64 most] w fun e w' => e = .returned (.bool (light es most)) ∧ w' = w := by
  by_cases hmost : es.length ≤ most
  · go_enter Try.func18, Try.ntmps18
    go_wp2
    go_loop [5] (fun i => ∃ k : Nat, k ≤ es.length ∧ i = .int .i64 k ∧ lightTo es k) (fun i => es.length - (intOf i).toNat)
    case atStart => exact ⟨0, Nat.zero_le _, rfl, by simp [lightTo]⟩
    case round =>
      obtain ⟨k, hk, rfl, hall⟩ := hrel
      by_cases hlt : k < es.length
      · obtain ⟨b, off, key, val, gone, rfl, he, h1, h2, h3⟩ := hes.get hlt
        have HE : Hid (es[k]? = some (⟨key, val, gone⟩ : Ent)) := he
        have HA : Hid (lightTo es k) := hall
        clear he hall hes
        rcases (show (key.size ≤ 20 ∧ val.size ≤ 30) ∨ 20 < key.size ∨ (key.size ≤ 20 ∧ 30 < val.size) by omega) with ⟨ha, hb⟩ | ha | ⟨ha, hb⟩
        · go_wp2
          go_round
          case rel => exact ⟨k + 1, by omega, by go_num, by have := HA.out; unfold lightTo at *; rw [take_all_succ HE.out, this]; simp [lightE, ha, hb]⟩
          case measure => simp [intOf]; omega
        · go_wp2
          go_ret
          exact ⟨ret_of (by rw [light_stop HE.out (by simp [lightE]; omega)]; rfl), rfl⟩
        · go_wp2
          go_ret
          exact ⟨ret_of (by rw [light_stop HE.out (by simp [lightE]; omega)]; rfl), rfl⟩
      · have HA : Hid (lightTo es k) := hall
        clear hes hall
        go_wp2
        go_ret
        refine ⟨ret_of ?_, rfl⟩
        have := HA.out
        unfold lightTo at this
        rw [List.take_of_length_le (by omega)] at this
        simp [light, this, hmost]
  · clear hes
    go_enter Try.func18, Try.ntmps18
    go_wp2
    go_ret
    exact ⟨ret_of (by simp [light, hmost]), rfl⟩

/-- Two entries are one. -/
def sameE (a b : Ent) : Bool := a.key.toList == b.key.toList && a.val.toList == b.val.toList && a.gone == b.gone
set_option maxHeartbeats 400000 in
theorem sameEntries_ne (ao bo : Option Addr) (ca cb : Nat) (n m : Nat) (w : World) (h : ¬ n = m) :
    Calls Try.prog 26 #[.slice ao n ca, .slice bo m cb] w fun e w' => e = .returned (.bool false) ∧ w' = w := by
  have h' : ((n : Int) != (m : Int)) = true := by simp; omega
  go_enter Try.func26, Try.ntmps26
  go_wp2
  go_ret
  exact ⟨rfl, rfl⟩

set_option maxHeartbeats 800000 in
theorem sameEntries_eq (ao bo : Option Addr) (ca cb : Nat) (es : List Ent) (w : World) (hl : es.length ≤ 9223372036854775807) (ha : EntsAt w ao es) (hb : EntsAt w bo es) :
    Calls Try.prog 26 #[.slice ao es.length ca, .slice bo es.length cb] w fun e w' => e = .returned (.bool true) ∧ ∃ q, w' = w.drewN q := by
  go_enter Try.func26, Try.ntmps26
  go_wp2
  go_loopw [5] (fun i w' => ∃ k q : Nat, k ≤ es.length ∧ i = .int .i64 k ∧ w' = w.drewN q) (fun i _ => es.length - (intOf i).toNat)
  case atStart => exact ⟨0, 0, Nat.zero_le _, rfl, rfl⟩
  case round =>
    obtain ⟨k, q, hk, rfl, rfl⟩ := hrel
    by_cases hlt : k < es.length
    · obtain ⟨b, off, key, val, gone, rfl, he, h1, h2, h3⟩ := ha.get hlt
      obtain ⟨b', off', key', val', gone', rfl, he', g1, g2, g3⟩ := hb.get hlt
      obtain ⟨rfl, rfl, rfl⟩ : key = key' ∧ val = val' ∧ gone = gone' := by
        rw [he] at he'; simpa using he'
      clear he he' ha hb
      go_wp2
      go_quiet (fail)
      go_wp2
      go_roundw
      case rel => exact ⟨k + 1, _, by omega, by go_num, rfl⟩
      case measure => simp [intOf]; omega
    · clear ha hb
      go_wp2
      go_ret
      exact ⟨rfl, _, rfl⟩


def entCells (e : Ent) : List Value := [.string e.key, .string e.val, .bool e.gone]
def rowOf (es : List Ent) : List Value := es.flatMap entCells
theorem rowOf_length (es : List Ent) : (rowOf es).length = es.length * 3 := by
  induction es with
  | nil => rfl
  | cons e r ih => simp only [rowOf, List.flatMap_cons, List.length_append, List.length_cons] at *; rw [ih]; simp [entCells]; omega
theorem rowOf_snoc (es : List Ent) (e : Ent) : rowOf (es ++ [e]) = rowOf es ++ entCells e := by simp [rowOf]
theorem rowOf_app (a b : List Ent) : rowOf (a ++ b) = rowOf a ++ rowOf b := by simp [rowOf]
theorem rowOf_get (es : List Ent) (i : Nat) (e : Ent) (h : es[i]? = some e) : (rowOf es)[i * 3]? = some (.string e.key) ∧ (rowOf es)[i * 3 + 1]? = some (.string e.val) ∧ (rowOf es)[i * 3 + 2]? = some (.bool e.gone) := by
  induction es generalizing i with
  | nil => simp at h
  | cons x r ih =>
    cases i with
    | zero => simp at h; subst h; simp [rowOf, entCells]
    | succ i =>
      have := ih i (by simpa using h)
      rw [show (i + 1) * 3 = i * 3 + 1 + 1 + 1 by omega]
      simp only [rowOf, List.flatMap_cons, entCells, List.cons_append, List.nil_append] at *
      simpa using this
theorem rowOf_one (es : List Ent) : ∀ u ∈ rowOf es, u.oneCell' = true := by
  intro u hu
  simp only [rowOf, List.mem_flatMap] at hu
  obtain ⟨e, _, he⟩ := hu
  simp only [entCells, List.mem_cons, List.not_mem_nil, or_false] at he
  rcases he with rfl | rfl | rfl <;> rfl
/-- What is in a row, cell by cell. -/
theorem rowOf_inv (es : List Ent) (j : Nat) (u : Value) (h : (rowOf es)[j]? = some u) : ∃ i e, es[i]? = some e ∧ ((j = i * 3 ∧ u = .string e.key) ∨ (j = i * 3 + 1 ∧ u = .string e.val) ∨ (j = i * 3 + 2 ∧ u = .bool e.gone)) := by
  have hj : j < es.length * 3 := by
    rcases Nat.lt_or_ge j (es.length * 3) with h' | h'
    · exact h'
    · rw [List.getElem?_eq_none (by rw [rowOf_length]; exact h')] at h; simp at h
  have hi : j / 3 < es.length := by omega
  have he : es[j / 3]? = some es[j / 3] := List.getElem?_eq_getElem hi
  obtain ⟨a, b, c⟩ := rowOf_get es (j / 3) _ he
  refine ⟨j / 3, _, he, ?_⟩
  rcases (show j = j / 3 * 3 ∨ j = j / 3 * 3 + 1 ∨ j = j / 3 * 3 + 2 by omega) with e | e | e
  · rw [e] at h; rw [a] at h; simp at h; exact .inl ⟨e, h.symm⟩
  · rw [e] at h; rw [b] at h; simp at h; exact .inr (.inl ⟨e, h.symm⟩)
  · rw [e] at h; rw [c] at h; simp at h; exact .inr (.inr ⟨e, h.symm⟩)
theorem EntsAt.row {w : World} {ao : Option Addr} {es : List Ent} (h : EntsAt w ao es) : rowOf es ≠ [] → ∃ ad, ao = some ad ∧ ∀ j u, (rowOf es)[j]? = some u → w.cell? (ad.add j) = some u := by
  intro hne
  obtain ⟨b, off, rfl, hc⟩ := h (by intro e; subst e; exact hne rfl)
  refine ⟨_, rfl, fun j u hu => ?_⟩
  have : ((⟨b, off, none⟩ : Addr).add j) = ⟨b, off + j, none⟩ := by unfold Addr.add; by_cases h : j = 0 <;> simp [h]
  rw [this]
  obtain ⟨i, e, he, hh⟩ := rowOf_inv es j u hu
  obtain ⟨h1, h2, h3⟩ := hc i e he
  rcases hh with ⟨rfl, rfl⟩ | ⟨rfl, rfl⟩ | ⟨rfl, rfl⟩
  · exact h1
  · rw [← h2]; congr 2
  · rw [← h3]; congr 2
theorem ents_of_row {w : World} {base : Nat} {v : Value} {es : List Ent} (h : w.ownsRow base 30 3 v es.length (rowOf es)) : ∃ ao cap, v = .slice ao es.length cap ∧ EntsAt w ao es := by
  obtain ⟨hlen, hcase⟩ := h
  rcases hcase with ⟨rfl, h0⟩ | ⟨g, cap, cur, rfl, _, hh, _, _, _, htake⟩
  · have : es = [] := List.eq_nil_of_length_eq_zero h0
    subst this
    exact ⟨none, 0, rfl, fun h => absurd rfl h⟩
  · refine ⟨_, cap, rfl, fun _ => ⟨g, 0, rfl, fun i e he => ?_⟩⟩
    have key : ∀ j u, (rowOf es)[j]? = some u → w.cell? ⟨g, j, none⟩ = some u := by
      intro j u hj
      rw [← htake, List.getElem?_take] at hj
      split at hj
      · simp only [World.cell?, hh]; simpa using hj
      · simp at hj
    obtain ⟨a, b, c⟩ := rowOf_get es i e he
    simp only [Nat.zero_add]
    exact ⟨key _ _ a, key _ _ b, key _ _ c⟩
theorem EntsAt.ext {w w' : World} {ao : Option Addr} {es : List Ent} (h : EntsAt w ao es) (hx : Ext w w') : EntsAt w' ao es := by
  intro hne
  obtain ⟨b, off, rfl, hc⟩ := h hne
  exact ⟨b, off, rfl, fun i e he => ⟨hx.cell (hc i e he).1, hx.cell (hc i e he).2.1, hx.cell (hc i e he).2.2⟩⟩
theorem Try.info30 : (Try.prog.info? 30).map (fun i => (i.zero, i.size, i.bytes)) = some (some (.agg #[.string ⟨#[]⟩, .string ⟨#[]⟩, .bool false]), 3, 40) := by kernel_rfl
theorem take_snocE {es : List Ent} {k : Nat} {e : Ent} (he : es[k]? = some e) : es.take (k + 1) = es.take k ++ [e] := by
  rw [List.take_add_one, he]; rfl
end Go.Proofs.Ytpldeejagomfjaa
