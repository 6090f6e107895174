
/- Filters: closed facts. -/
import Derived.Test.YtpldeejagomfjaaFilA
import Derived.Deep.RegionHeld3
namespace Go.Proofs.Ytpldeejagomfjaa
open Go.RowKit

theorem txts_new (w : World) (t : ByteArray) : TxtsAt (w.alloc (.cells #[.string t] 9)) (some ⟨w.heap.size, 0, none⟩) [t] := by
  intro _
  refine ⟨_, _, rfl, fun i u hu => ?_⟩
  cases i with
  | zero => simp at hu; subst hu; rw [(Blk.new w #[.string t] 9).cell]; rfl
  | succ i => simp at hu
theorem TxtsAt.ext {w w' : World} {ao : Option Addr} {ts : List ByteArray} (h : TxtsAt w ao ts) (hx : Ext w w') : TxtsAt w' ao ts := by
  intro hne
  obtain ⟨b, off, rfl, hc⟩ := h hne
  exact ⟨b, off, rfl, fun i t ht => hx.cell (hc i t ht)⟩
def kK : ByteArray := ⟨#[107]⟩
theorem kK_le : kK.size ≤ 4611686018427387904 := by show (1 : Nat) ≤ _; omega
theorem may_k : mayN (filterN [kK]) kK.data.toList = true := mayN_mem _ _ (by simp)
theorem may_0 (l : List UInt8) : mayN 0 l = false := by simp [mayN]
theorem and_one (f a : Nat) (hf : f < 18446744073709551616) : bits .and .u64 ((f : Int) / 2 ^ a) 1 = ((f / 2 ^ a % 2 : Nat) : Int) := by
  have e : (f : Int) / 2 ^ a = ((f / 2 ^ a : Nat) : Int) := by simp
  have hlt : f / 2 ^ a < 18446744073709551616 := Nat.lt_of_le_of_lt (Nat.div_le_self _ _) hf
  rw [e]
  generalize f / 2 ^ a = g at *
  have := u64_and_nat g 1 hlt (by omega)
  rw [show ((1 : Nat) : Int) = 1 from rfl] at this
  rw [this, Nat.and_one_is_mod]
/-- A filter in which k may be. -/
structure FilK (F : Nat) : Prop where
  lt : F < 18446744073709551616
  may : mayN F kK.data.toList = true
theorem bit_eq (f a : Nat) : ((f : Int) / 2 ^ a % 2 == 1) = decide (f / 2 ^ a % 2 = 1) := by
  have e : (f : Int) / 2 ^ a = ((f / 2 ^ a : Nat) : Int) := by simp
  rw [e]
  generalize f / 2 ^ a = g at *
  rw [Bool.eq_iff_iff]; simp only [beq_iff_eq, decide_eq_true_eq]; omega
theorem of_one (w : World) : Calls Try.prog 58 #[.slice (some ⟨w.heap.size, 0, none⟩) 1 1] (w.alloc (.cells #[.string ⟨#[107]⟩] 9)) fun e w' => (∃ F : Nat, e = .returned (.int .u64 (F : Int)) ∧ FilK F) ∧ ∃ q, w' = (w.alloc (.cells #[.string ⟨#[107]⟩] 9)).drewN q := by
  refine (of_any _ 1 [kK] _ (by simp) (by intro t ht; simp at ht; subst ht; exact kK_le) (txts_new w kK)).mono ?_
  rintro e w' ⟨rfl, h⟩
  exact ⟨⟨_, rfl, ⟨filterN_lt _, may_k⟩⟩, h⟩
theorem may_of_k (F : Nat) (hF : FilK F) (w : World) : Calls Try.prog 57 #[.int .u64 (F : Int), .string ⟨#[107]⟩] w fun e w' => e = .returned (.bool true) ∧ ∃ q, w' = w.drewN q := by
  refine (may_any F kK w hF.lt kK_le).mono ?_
  rintro e w' ⟨rfl, h⟩
  exact ⟨by rw [hF.may], h⟩
theorem may_nought (w : World) : Calls Try.prog 57 #[.int .u64 0, .string ⟨#[107]⟩] w fun e w' => e = .returned (.bool false) ∧ ∃ q, w' = w.drewN q := by
  refine (may_any 0 kK w (by omega) kK_le).mono ?_
  rintro e w' ⟨rfl, h⟩
  exact ⟨by rw [may_0], h⟩

end Go.Proofs.Ytpldeejagomfjaa
