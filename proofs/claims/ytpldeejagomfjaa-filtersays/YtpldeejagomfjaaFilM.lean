
/- Filters: bits of a number. -/
import Derived.Test.YtpldeejagomfjaaRows
import Derived.WalkKit
import Derived.Laws.BitsAllLaws
namespace Go.Proofs.Ytpldeejagomfjaa
open Go.RowKit
def spotA (l : List UInt8) : Nat := l.foldl (fun a c => (31 * a + c.toNat) % 10007) 7
def spotB (l : List UInt8) : Nat := l.foldl (fun b c => (17 * b + c.toNat + 5) % 7919) 3
theorem foldl_lt (f : Nat → UInt8 → Nat) (m : Nat) (hf : ∀ a c, f a c < m) (l : List UInt8) (a : Nat) (h : a < m) : l.foldl f a < m := by
  induction l generalizing a with
  | nil => exact h
  | cons x r ih => exact ih _ (hf _ _)
theorem spotA_lt (l : List UInt8) : spotA l < 10007 := foldl_lt _ _ (fun _ _ => Nat.mod_lt _ (by omega)) _ _ (by omega)
theorem spotB_lt (l : List UInt8) : spotB l < 7919 := foldl_lt _ _ (fun _ _ => Nat.mod_lt _ (by omega)) _ _ (by omega)
def maskN (l : List UInt8) : Nat := 2 ^ (spotA l % 64) ||| 2 ^ (spotB l % 64)
theorem maskN_lt (l : List UInt8) : maskN l < 2 ^ 64 :=
  Nat.or_lt_two_pow (Nat.pow_lt_pow_right (by omega) (Nat.mod_lt _ (by omega))) (Nat.pow_lt_pow_right (by omega) (Nat.mod_lt _ (by omega)))
def filterN (ks : List ByteArray) : Nat := ks.foldl (fun f k => f ||| maskN k.data.toList) 0
theorem filterN_snoc (ks : List ByteArray) (k : ByteArray) : filterN (ks ++ [k]) = filterN ks ||| maskN k.data.toList := by simp [filterN]
theorem filterN_lt (ks : List ByteArray) : filterN ks < 2 ^ 64 := by
  unfold filterN
  suffices ∀ f : Nat, f < 2 ^ 64 → ks.foldl (fun f k => f ||| maskN k.data.toList) f < 2 ^ 64 from this 0 (by omega)
  intro f hf
  induction ks generalizing f with
  | nil => exact hf
  | cons x r ih => exact ih _ (Nat.or_lt_two_pow hf (maskN_lt _))
def mayN (f : Nat) (l : List UInt8) : Bool := f.testBit (spotA l % 64) && f.testBit (spotB l % 64)
theorem mayN_mask (f : Nat) (l : List UInt8) : ((f &&& maskN l) == maskN l) = mayN f l := by
  rw [Bool.eq_iff_iff]
  unfold mayN maskN
  simp only [beq_iff_eq, Bool.and_eq_true]
  generalize spotA l % 64 = a
  generalize spotB l % 64 = b
  constructor
  · intro h
    have ha : (f &&& (2 ^ a ||| 2 ^ b)).testBit a = true := by rw [h]; simp [Nat.testBit_two_pow]
    have hb : (f &&& (2 ^ a ||| 2 ^ b)).testBit b = true := by rw [h]; simp [Nat.testBit_two_pow]
    simp at ha hb
    exact ⟨ha, hb⟩
  · rintro ⟨ha, hb⟩
    apply Nat.eq_of_testBit_eq
    intro i
    simp only [Nat.testBit_and, Nat.testBit_or, Nat.testBit_two_pow]
    by_cases h1 : a = i
    · subst h1; simp [ha]
    · by_cases h2 : b = i
      · subst h2; simp [hb]
      · simp [h1, h2]
theorem mayN_or (f g : Nat) (l : List UInt8) (h : mayN f l = true) : mayN (f ||| g) l = true := by
  unfold mayN at *; simp only [Bool.and_eq_true, Nat.testBit_or, Bool.or_eq_true] at *; exact ⟨.inl h.1, .inl h.2⟩
theorem mayN_or' (f g : Nat) (l : List UInt8) (h : mayN g l = true) : mayN (f ||| g) l = true := by rw [Nat.or_comm]; exact mayN_or g f l h
theorem mayN_self (l : List UInt8) : mayN (maskN l) l = true := by
  rw [← mayN_mask, Nat.and_self]; simp
theorem fold_or (ks : List ByteArray) (f : Nat) : ks.foldl (fun f k => f ||| maskN k.data.toList) f = f ||| filterN ks := by
  induction ks generalizing f with
  | nil => simp [filterN]
  | cons x r ih =>
    have e : filterN (x :: r) = maskN x.data.toList ||| filterN r := by unfold filterN; rw [List.foldl_cons, Nat.zero_or]; exact ih _
    rw [List.foldl_cons, ih, e, Nat.or_assoc]
theorem filterN_app (ks ms : List ByteArray) : filterN (ks ++ ms) = filterN ks ||| filterN ms := by
  unfold filterN; rw [List.foldl_append]; exact fold_or ms _
theorem mayN_mem (ks : List ByteArray) (k : ByteArray) (h : k ∈ ks) : mayN (filterN ks) k.data.toList = true := by
  obtain ⟨a, b, rfl⟩ := List.append_of_mem h
  rw [filterN_app]
  apply mayN_or'
  rw [show k :: b = [k] ++ b from rfl, filterN_app]
  apply mayN_or
  show mayN (0 ||| maskN _) _ = true
  rw [Nat.zero_or]; exact mayN_self _
theorem testBit_div (f a : Nat) : f.testBit a = decide (f / 2 ^ a % 2 = 1) := by
  rw [Nat.testBit_eq_decide_div_mod_eq]
end Go.Proofs.Ytpldeejagomfjaa
