/- BatH. -/
import Derived.Test.YthndopokabceiaaDoorBatGJ

/- Changes as a text: what the laws walk with. -/
namespace Go.Proofs.YthndopokabceiaaDoor
open Go.RowKit Go.WideShapes

theorem ents_one {W : World} {b : Nat} {k v : ByteArray} {g : Bool} (h : Blk W b #[.string k, .string v, .bool g] 34) : EntsAt W (some ⟨b, 0, none⟩) [⟨k, v, g⟩] := fun _ => by
  refine ⟨b, 0, rfl, fun i e he => ?_⟩
  match i, he with
  | 0, he => simp at he; subst he; exact ⟨h.cell 0, h.cell 1, h.cell 2⟩
  | i + 1, he => simp at he
theorem ents_two {W : World} {b : Nat} {k v k' v' : ByteArray} {g g' : Bool} (h : Blk W b #[.string k, .string v, .bool g, .string k', .string v', .bool g'] 34) : EntsAt W (some ⟨b, 0, none⟩) [⟨k, v, g⟩, ⟨k', v', g'⟩] := fun _ => by
  refine ⟨b, 0, rfl, fun i e he => ?_⟩
  match i, he with
  | 0, he => simp at he; subst he; exact ⟨h.cell 0, h.cell 1, h.cell 2⟩
  | 1, he => simp at he; subst he; exact ⟨h.cell 3, h.cell 4, h.cell 5⟩
  | i + 2, he => simp at he
theorem check_a : checkC ⟨#[97]⟩ ⟨#[]⟩ false = 0 := by
  simp [checkC, faultB, ByteArray.toList_eq, plainS, plainC]
  decide
theorem check_ax : checkC ⟨#[97]⟩ ⟨#[120]⟩ false = 0 := by
  simp [checkC, faultB, ByteArray.toList_eq, plainS, plainC]
  decide
theorem check_b : checkC ⟨#[98]⟩ ⟨#[]⟩ true = 0 := by
  simp [checkC, faultB, ByteArray.toList_eq, plainS, plainC]
  decide
theorem text_a : textT [⟨⟨#[97]⟩, ⟨#[]⟩, false⟩] = (⟨#[97, 61]⟩, 0) := by
  simp [textT, textS, check_a]
  rfl
theorem chgs_ax : chgsE ⟨#[97, 61, 120, 32, 98]⟩ = [⟨⟨#[97]⟩, ⟨#[120]⟩, false⟩, ⟨⟨#[98]⟩, ⟨#[]⟩, true⟩] := by
  rfl
theorem parse_ax : parseE ⟨#[97, 61, 120, 32, 98]⟩ = some [⟨⟨#[97]⟩, ⟨#[120]⟩, false⟩, ⟨⟨#[98]⟩, ⟨#[]⟩, true⟩] := by
  unfold parseE
  rw [chgs_ax]
  simp [textT, textS, check_ax, check_b]
theorem light_small {es : List Ent} {q : Nat} (h : light es q = true) : es.length ≤ q ∧ Small es := by
  unfold light at h
  simp only [Bool.and_eq_true, List.all_eq_true, decide_eq_true_eq] at h
  refine ⟨h.1, fun e he => ?_⟩
  have := h.2 e he
  unfold lightE at this
  simp at this
  omega
theorem join_small (es : List Ent) (hl : es.length ≤ 4) (h : ∀ e ∈ es, e.key.size ≤ 8 ∧ e.val.size ≤ 16) : (joinE es).size ≤ 1000 := by
  have hw : ∀ x ∈ (wordsE es).map (·.data.toList), x.length ≤ 25 := fun x hx => by
    obtain ⟨y, hy, rfl⟩ := List.mem_map.1 hx
    obtain ⟨e, he, rfl⟩ := List.mem_map.1 hy
    obtain ⟨h1, h2⟩ := h e he
    unfold wordE
    have e1 : e.key.data.size = e.key.size := rfl
    have e2 : e.val.data.size = e.val.size := rfl
    split
    · simp; omega
    · simp; omega
  have hl' : ((wordsE es).map (·.data.toList)).length ≤ 4 := by simp [wordsE]; omega
  rw [Lib.size_eq, joinE_data]
  generalize (wordsE es).map (·.data.toList) = xs at *
  match xs, hl' with
  | [], _ => simp [Lib.join, List.intercalate]
  | [a], _ => have := hw a (by simp); simp [Lib.join, List.intercalate]; omega
  | [a, b], _ => have := hw a (by simp); have := hw b (by simp); simp [Lib.join, List.intercalate]; omega
  | [a, b, c], _ => have := hw a (by simp); have := hw b (by simp); have := hw c (by simp); simp [Lib.join, List.intercalate]; omega
  | [a, b, c, d], _ => have := hw a (by simp); have := hw b (by simp); have := hw c (by simp); have := hw d (by simp); simp [Lib.join, List.intercalate]; omega
/-- A text is short, and empty where there is an error. -/
theorem textT_small (es : List Ent) : (textT es).1.size ≤ 1000 ∧ (¬ (textT es).2 = 0 → (textT es).1 = ⟨#[]⟩) := by
  unfold textT
  split
  · exact ⟨Nat.zero_le _, fun _ => rfl⟩
  · rename_i hn
    split
    · exact ⟨Nat.zero_le _, fun _ => rfl⟩
    · rename_i hz
      refine ⟨join_small es (by omega) fun e he => checkC_ok (textS_ok (by simpa using hz) e he), fun h => absurd rfl h⟩
end Go.Proofs.YthndopokabceiaaDoor
