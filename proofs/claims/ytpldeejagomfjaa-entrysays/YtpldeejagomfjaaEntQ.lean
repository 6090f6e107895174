
/- What the document's EntriesOf answers. -/
import Derived.Test.YtpldeejagomfjaaEntR
namespace Go.Proofs.Ytpldeejagomfjaa
open Go.RowKit Go.WideShapes

theorem rest_size (s : ByteArray) (p : Nat) : (s.extract p s.size).size = s.size - p := by simp
theorem rest_byte (s : ByteArray) (p i : Nat) : byteAt (s.extract p s.size) i = byteAt s (p + i) := by
  unfold byteAt; rw [Lib.extract_to_end, List.getElem?_drop]
theorem rest_extract (s : ByteArray) (p a b : Nat) (_h : p + b ≤ s.size) : (s.extract p s.size).extract a b = s.extract (p + a) (p + b) := by
  apply ba_ext
  rw [Lib.extract_data, Lib.extract_to_end, Lib.extract_data, List.drop_drop, show p + b - (p + a) = b - a by omega]
theorem rest_rest (s : ByteArray) (p m : Nat) : (s.extract p s.size).extract m (s.extract p s.size).size = s.extract (p + m) s.size := by
  apply ba_ext
  rw [Lib.extract_to_end, Lib.extract_to_end, Lib.extract_to_end, List.drop_drop]

/-- The first entry behind p. -/
def okAt (s : ByteArray) (p : Nat) : Prop :=
  p + 3 ≤ s.size ∧ byteAt s p ≤ 1 ∧ p + 3 + byteAt s (p + 1) + byteAt s (p + 2) ≤ s.size ∧
    faultB (s.extract (p + 3) (p + 3 + byteAt s (p + 1))) (s.extract (p + 3 + byteAt s (p + 1)) (p + 3 + byteAt s (p + 1) + byteAt s (p + 2))) (byteAt s p == 1) = 0
theorem first_at_none (s : ByteArray) (p : Nat) (hp : p ≤ s.size) (h : ¬ okAt s p) : firstS (s.extract p s.size) = none := by
  unfold firstS
  rw [if_neg]
  rintro ⟨h1, h2, h3, h4⟩
  rw [rest_size] at h1 h3
  simp only [rest_byte, Nat.add_zero] at h2 h3 h4
  apply h
  refine ⟨by omega, h2, by omega, ?_⟩
  rw [rest_extract _ _ _ _ (by omega), rest_extract _ _ _ _ (by omega)] at h4
  simpa only [Nat.add_assoc] using h4
theorem first_at_some (s : ByteArray) (p : Nat) (h : okAt s p) : firstS (s.extract p s.size) = some (⟨s.extract (p + 3) (p + 3 + byteAt s (p + 1)), s.extract (p + 3 + byteAt s (p + 1)) (p + 3 + byteAt s (p + 1) + byteAt s (p + 2)), byteAt s p == 1⟩, 3 + byteAt s (p + 1) + byteAt s (p + 2)) := by
  obtain ⟨h1, h2, h3, h4⟩ := h
  unfold firstS
  rw [rest_size]
  simp only [rest_byte, Nat.add_zero]
  rw [rest_extract _ _ _ _ (by omega), rest_extract _ _ _ _ (by omega)]
  simp only [Nat.add_assoc] at *
  rw [if_pos ⟨by omega, h2, by omega, h4⟩]

/-- What is answered. -/
def RefEnd (s : ByteArray) (w : World) (e : Ending) (w' : World) : Prop :=
  (parseT s = none ∧ e = .returned (.tuple #[.slice none 0 0, .int .i64 4]) ∧ Ext w w') ∨
  (∃ es v, parseT s = some es ∧ e = .returned (.tuple #[v, .int .i64 0]) ∧ w'.ownsRow w.heap.size 30 3 v es.length (rowOf es) ∧ Ext w w')

/-- What is left is nought, up to j. -/
def restTo (s : ByteArray) (p j : Nat) : Prop := ∀ i, p ≤ i → i < j → byteAt s i = 0
theorem rest_blank (s : ByteArray) (p : Nat) (h : restTo s p s.size) : blankL (s.extract p s.size).data.toList = true := by
  unfold blankL
  rw [List.all_eq_true]
  intro x hx
  obtain ⟨i, hi⟩ := List.mem_iff_getElem?.1 hx
  rw [Lib.extract_to_end, List.getElem?_drop] at hi
  have hlt : p + i < s.size := by
    rcases Nat.lt_or_ge (p + i) s.size with h1 | h1
    · exact h1
    · rw [List.getElem?_eq_none (by rw [← Lib.size_eq]; exact h1)] at hi; simp at hi
  have := h (p + i) (by omega) hlt
  unfold byteAt at this
  rw [hi] at this
  simp only [Option.getD_some] at this
  simp only [beq_iff_eq]
  exact UInt8.toNat_inj.1 (by simpa using this)
theorem rest_not (s : ByteArray) (p j : Nat) (hp : p ≤ j) (hj : j < s.size) (h : ¬ byteAt s j = 0) : blankL (s.extract p s.size).data.toList = false := by
  unfold blankL
  rw [List.all_eq_false]
  have hg := get_toList s j hj
  refine ⟨s[j], ?_, ?_⟩
  · rw [Lib.extract_to_end]
    apply List.mem_of_getElem? (i := j - p)
    rw [List.getElem?_drop, show p + (j - p) = j by omega, hg]
  · intro h0
    apply h
    rw [byteAt_eq s j hj]
    have : s[j] = 0 := by simpa using h0
    rw [this]; rfl

end Go.Proofs.Ytpldeejagomfjaa
