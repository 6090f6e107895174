/- FilM FilA. -/
import Derived.Test.YtjeinblcpejpnabGreatDoorRows
import Derived.WalkKit
import Derived.Laws.BitsAllLaws
import Derived.Test.YtjeinblcpejpnabGreatDoorEntLJ
import Derived.WalkSpells
import Derived.WalkLawsBesides
import Derived.Deep.QuietTactic
import Derived.BigQuiet

/- Filters: bits of a number. -/
namespace Go.Proofs.YtjeinblcpejpnabGreatDoor
open Go.RowKit
def spotA (l : List UInt8) : Nat := l.foldl (fun a c => (31 * a + c.toNat) % 10007) 7
def spotB (l : List UInt8) : Nat := l.foldl (fun b c => (17 * b + c.toNat + 5) % 7919) 3
theorem foldl_lt (f : Nat → UInt8 → Nat) (m : Nat) (hf : ∀ a c, f a c < m) (l : List UInt8) (a : Nat) (h : a < m) : l.foldl f a < m := by
  induction l generalizing a with
  | nil => exact h
  | cons x r ih => exact ih _ (hf _ _)
theorem spotA_lt (l : List UInt8) : spotA l < 10007 := foldl_lt _ _ (fun _ _ => Nat.mod_lt _ (by omega)) _ _ (by omega)
theorem spotB_lt (l : List UInt8) : spotB l < 7919 := foldl_lt _ _ (fun _ _ => Nat.mod_lt _ (by omega)) _ _ (by omega)
def maskN (l : List UInt8) : Nat := 2 ^ (spotA l % 64) ||| 2 ^ (spotB l % 64)
theorem maskN_lt (l : List UInt8) : maskN l < 2 ^ 64 :=
  Nat.or_lt_two_pow (Nat.pow_lt_pow_right (by omega) (Nat.mod_lt _ (by omega))) (Nat.pow_lt_pow_right (by omega) (Nat.mod_lt _ (by omega)))
def filterN (ks : List ByteArray) : Nat := ks.foldl (fun f k => f ||| maskN k.data.toList) 0
theorem filterN_snoc (ks : List ByteArray) (k : ByteArray) : filterN (ks ++ [k]) = filterN ks ||| maskN k.data.toList := by simp [filterN]
theorem filterN_lt (ks : List ByteArray) : filterN ks < 2 ^ 64 := by
  unfold filterN
  suffices ∀ f : Nat, f < 2 ^ 64 → ks.foldl (fun f k => f ||| maskN k.data.toList) f < 2 ^ 64 from this 0 (by omega)
  intro f hf
  induction ks generalizing f with
  | nil => exact hf
  | cons x r ih => exact ih _ (Nat.or_lt_two_pow hf (maskN_lt _))
def mayN (f : Nat) (l : List UInt8) : Bool := f.testBit (spotA l % 64) && f.testBit (spotB l % 64)
theorem mayN_mask (f : Nat) (l : List UInt8) : ((f &&& maskN l) == maskN l) = mayN f l := by
  rw [Bool.eq_iff_iff]
  unfold mayN maskN
  simp only [beq_iff_eq, Bool.and_eq_true]
  generalize spotA l % 64 = a
  generalize spotB l % 64 = b
  constructor
  · intro h
    have ha : (f &&& (2 ^ a ||| 2 ^ b)).testBit a = true := by rw [h]; simp [Nat.testBit_two_pow]
    have hb : (f &&& (2 ^ a ||| 2 ^ b)).testBit b = true := by rw [h]; simp [Nat.testBit_two_pow]
    simp at ha hb
    exact ⟨ha, hb⟩
  · rintro ⟨ha, hb⟩
    apply Nat.eq_of_testBit_eq
    intro i
    simp only [Nat.testBit_and, Nat.testBit_or, Nat.testBit_two_pow]
    by_cases h1 : a = i
    · subst h1; simp [ha]
    · by_cases h2 : b = i
      · subst h2; simp [hb]
      · simp [h1, h2]
theorem mayN_or (f g : Nat) (l : List UInt8) (h : mayN f l = true) : mayN (f ||| g) l = true := by
  unfold mayN at *; simp only [Bool.and_eq_true, Nat.testBit_or, Bool.or_eq_true] at *; exact ⟨.inl h.1, .inl h.2⟩
theorem mayN_or' (f g : Nat) (l : List UInt8) (h : mayN g l = true) : mayN (f ||| g) l = true := by rw [Nat.or_comm]; exact mayN_or g f l h
theorem mayN_self (l : List UInt8) : mayN (maskN l) l = true := by
  rw [← mayN_mask, Nat.and_self]; simp
theorem fold_or (ks : List ByteArray) (f : Nat) : ks.foldl (fun f k => f ||| maskN k.data.toList) f = f ||| filterN ks := by
  induction ks generalizing f with
  | nil => simp [filterN]
  | cons x r ih =>
    have e : filterN (x :: r) = maskN x.data.toList ||| filterN r := by unfold filterN; rw [List.foldl_cons, Nat.zero_or]; exact ih _
    rw [List.foldl_cons, ih, e, Nat.or_assoc]
theorem filterN_app (ks ms : List ByteArray) : filterN (ks ++ ms) = filterN ks ||| filterN ms := by
  unfold filterN; rw [List.foldl_append]; exact fold_or ms _
theorem mayN_mem (ks : List ByteArray) (k : ByteArray) (h : k ∈ ks) : mayN (filterN ks) k.data.toList = true := by
  obtain ⟨a, b, rfl⟩ := List.append_of_mem h
  rw [filterN_app]
  apply mayN_or'
  rw [show k :: b = [k] ++ b from rfl, filterN_app]
  apply mayN_or
  show mayN (0 ||| maskN _) _ = true
  rw [Nat.zero_or]; exact mayN_self _
theorem testBit_div (f a : Nat) : f.testBit a = decide (f / 2 ^ a % 2 = 1) := by
  rw [Nat.testBit_eq_decide_div_mod_eq]
end Go.Proofs.YtjeinblcpejpnabGreatDoor

/- Filters: what spots, May, Of, and the document's answers, say. -/
namespace Go.Proofs.YtjeinblcpejpnabGreatDoor
open Go.RowKit

theorem w64_in (n : Int) (h : -9223372036854775808 ≤ n ∧ n ≤ 9223372036854775807) : wrap64 n = n := by unfold wrap64; omega
theorem take_byte (s : ByteArray) (k : Nat) (h : k < s.size) : s.data.toList.take (k + 1) = s.data.toList.take k ++ [s[k]] := by
  rw [List.take_add_one, List.getElem?_eq_getElem (by simpa using h)]; rfl
theorem spotA_step (s : ByteArray) (k : Nat) (h : k < s.size) : (wrap64 (31 * (spotA (s.data.toList.take k) : Int) + wrap64 (s[k].toNat : Int))).tmod 10007 = (spotA (s.data.toList.take (k + 1)) : Int) := by
  have hA := spotA_lt (s.data.toList.take k)
  have hc := s[k].toNat_lt
  have e : spotA (s.data.toList.take (k + 1)) = (31 * spotA (s.data.toList.take k) + s[k].toNat) % 10007 := by rw [take_byte s k h]; simp [spotA]
  rw [e, w64_in (s[k].toNat : Int) (by omega), w64_in _ (by omega), Int.tmod_eq_emod_of_nonneg (by omega)]
  omega
theorem spotB_step (s : ByteArray) (k : Nat) (h : k < s.size) : (wrap64 (wrap64 (17 * (spotB (s.data.toList.take k) : Int) + wrap64 (s[k].toNat : Int)) + 5)).tmod 7919 = (spotB (s.data.toList.take (k + 1)) : Int) := by
  have hA := spotB_lt (s.data.toList.take k)
  have hc := s[k].toNat_lt
  have e : spotB (s.data.toList.take (k + 1)) = (17 * spotB (s.data.toList.take k) + s[k].toNat + 5) % 7919 := by rw [take_byte s k h]; simp [spotB]
  rw [e, w64_in (s[k].toNat : Int) (by omega), w64_in (17 * _ + _) (by omega), w64_in _ (by omega), Int.tmod_eq_emod_of_nonneg (by omega)]
  omega
theorem take_all (s : ByteArray) (k : Nat) (h : ¬ k < s.size) : s.data.toList.take k = s.data.toList := List.take_of_length_le (by simp; omega)
theorem wrap_pow (a : Nat) (h : a < 64) : IntKind.u64.wrap ((2 : Int) ^ a) = ((2 ^ a : Nat) : Int) := by
  have h1 : (2 : Int) ^ a = ((2 ^ a : Nat) : Int) := by simp
  have h2 : 2 ^ a < 2 ^ 64 := Nat.pow_lt_pow_right (by omega) h
  rw [h1]
  generalize 2 ^ a = P at *
  rw [IntKind.wrap_u64]; omega
theorem or_mask (l : List UInt8) : bits .or .u64 (2 ^ (spotA l % 64) : Nat) (2 ^ (spotB l % 64) : Nat) = (maskN l : Int) := by
  rw [u64_or_nat]
  · rfl
  · exact Nat.pow_lt_pow_right (n := 64) (by omega) (Nat.mod_lt _ (by omega))
  · exact Nat.pow_lt_pow_right (n := 64) (by omega) (Nat.mod_lt _ (by omega))

set_option maxHeartbeats 1000000 in
theorem spots_any (s : ByteArray) (w : World) (hs : s.size ≤ 4611686018427387904) :
    Calls Tryz.prog 119 #[.string s] w fun e w' => e = .returned (.int .u64 (maskN s.data.toList : Int)) ∧ ∃ q, w' = w.drewN q := by
  go_enter Tryz.func119, Tryz.ntmps119
  go_wp2
  go_loop [3, 4, 5, 6, 9] (fun a b _ _ i => ∃ k : Nat, k ≤ s.size ∧ i = .int .i64 k ∧ a = .int .i64 (spotA (s.data.toList.take k)) ∧ b = .int .i64 (spotB (s.data.toList.take k))) (fun _ _ _ _ i => s.size - (intOf i).toNat)
  case atStart => exact ⟨0, Nat.zero_le _, rfl, rfl, rfl⟩
  case round =>
    obtain ⟨k, hk, rfl, rfl, rfl⟩ := hrel
    by_cases hlt : k < s.size
    · have hA := spotA_lt (s.data.toList.take k)
      have hB := spotB_lt (s.data.toList.take k)
      go_wp2
      go_round
      case rel => exact ⟨k + 1, by omega, by go_num, by rw [spotA_step s k hlt], by rw [spotB_step s k hlt]⟩
      case measure => simp [intOf]; omega
    · rw [take_all s k hlt]
      have hA := spotA_lt s.data.toList
      have hB := spotB_lt s.data.toList
      have HM : Hid (bits .or .u64 (2 ^ (spotA s.data.toList % 64) : Nat) (2 ^ (spotB s.data.toList % 64) : Nat) = (maskN s.data.toList : Int)) := or_mask _
      generalize spotA s.data.toList = A at *
      generalize spotB s.data.toList = B at *
      have m1 : (A : Int).tmod 64 = ((A % 64 : Nat) : Int) := by rw [Int.tmod_eq_emod_of_nonneg (by omega)]; omega
      have m2 : (B : Int).tmod 64 = ((B % 64 : Nat) : Int) := by rw [Int.tmod_eq_emod_of_nonneg (by omega)]; omega
      go_wp2
      go_quiet (fail)
      go_wp2
      go_ret
      refine ⟨ret_of ?_, nq, rfl⟩
      rw [← HM.out, ← wrap_pow (A % 64) (Nat.mod_lt _ (by omega)), ← wrap_pow (B % 64) (Nat.mod_lt _ (by omega))]
      rfl

set_option maxHeartbeats 1000000 in
theorem may_any (f : Nat) (s : ByteArray) (w : World) (hf : f < 18446744073709551616) (hs : s.size ≤ 4611686018427387904) :
    Calls Tryz.prog 110 #[.int .u64 (f : Int), .string s] w fun e w' => e = .returned (.bool (mayN f s.data.toList)) ∧ ∃ q, w' = w.drewN q := by
  have hb := u64_and_nat f (maskN s.data.toList) hf (maskN_lt _)
  have HR : Hid (((f &&& maskN s.data.toList) == maskN s.data.toList) = mayN f s.data.toList) := mayN_mask _ _
  go_enter Tryz.func110, Tryz.ntmps110
  go_wp2_with (go_at_call 119; refine (spots_any s _ hs).mono ?_; rintro e w' ⟨rfl, q, rfl⟩)
  go_ret
  refine ⟨ret_of ?_, q, rfl⟩
  rw [← HR.out]
  refine congrArg Value.bool ?_
  rw [Bool.eq_iff_iff]; simp only [beq_iff_eq]; omega

/-- In world w the slice at 'ao' holds the texts 'ts'. -/
def TxtsAt (w : World) (ao : Option Addr) (ts : List ByteArray) : Prop :=
  ts ≠ [] → ∃ b off, ao = some ⟨b, off, none⟩ ∧ ∀ i t, ts[i]? = some t → w.cell? ⟨b, off + i, none⟩ = some (.string t)
theorem TxtsAt.get {w : World} {ao : Option Addr} {ts : List ByteArray} (h : TxtsAt w ao ts) {k : Nat} (hk : k < ts.length) :
    ∃ b off t, ao = some ⟨b, off, none⟩ ∧ ts[k]? = some t ∧ w.cell? ⟨b, off + k, none⟩ = some (.string t) := by
  obtain ⟨b, off, rfl, hc⟩ := h (by intro e; subst e; simp at hk)
  have he : ts[k]? = some ts[k] := List.getElem?_eq_getElem hk
  exact ⟨b, off, ts[k], rfl, he, hc k _ he⟩
def lightT (ts : List ByteArray) : Bool := decide (ts.length ≤ 60) && ts.all (fun t => decide (t.size ≤ 20))
theorem take_snocT {ts : List ByteArray} {k : Nat} {t : ByteArray} (h : ts[k]? = some t) : ts.take (k + 1) = ts.take k ++ [t] := by
  rw [List.take_add_one, h]; rfl
theorem lightT_mem {ts : List ByteArray} (h : lightT ts = true) {t : ByteArray} (ht : t ∈ ts) : t.size ≤ 20 := by
  unfold lightT at h; simp at h; exact h.2 t ht

theorem or_step (ts : List ByteArray) (k : Nat) (t : ByteArray) (h : ts[k]? = some t) : bits .or .u64 (filterN (ts.take k) : Int) (maskN t.data.toList : Int) = (filterN (ts.take (k + 1)) : Int) := by
  rw [u64_or_nat _ _ (filterN_lt _) (maskN_lt _), take_snocT h, filterN_snoc]

set_option maxHeartbeats 1000000 in
theorem of_any (ao : Option Addr) (cap : Nat) (ts : List ByteArray) (w : World) (hl : ts.length ≤ 9223372036854775807) (hs : ∀ t ∈ ts, t.size ≤ 4611686018427387904) (hts : TxtsAt w ao ts) :
    Calls Tryz.prog 118 #[.slice ao ts.length cap] w fun e w' => e = .returned (.int .u64 (filterN ts : Int)) ∧ ∃ q, w' = w.drewN q := by
  go_enter Tryz.func118, Tryz.ntmps118
  go_wp2
  go_loopw [3, 5, 8] (fun f _ i wr => ∃ (k q : Nat), k ≤ ts.length ∧ i = .int .i64 k ∧ f = .int .u64 (filterN (ts.take k) : Int) ∧ wr = w.drewN q) (fun _ _ i _ => ts.length - (intOf i).toNat)
  case atStart => exact ⟨0, 0, Nat.zero_le _, rfl, rfl, rfl⟩
  case round =>
    obtain ⟨k, q, hk, rfl, rfl, rfl⟩ := hrel
    by_cases hlt : k < ts.length
    · obtain ⟨b, off, t, rfl, he, h1⟩ := hts.get hlt
      have hss := hs t (List.mem_of_getElem? he)
      have ho := or_step ts k t he
      clear he hts hs
      go_wp2_with (go_at_call 119; refine (spots_any t _ hss).mono ?_; rintro e w' ⟨rfl, q2, rfl⟩)
      go_roundw
      case rel => exact ⟨k + 1, _, by omega, by go_num, rfl, rfl⟩
      case measure => simp [intOf]; omega
    · have hkn : ts.take k = ts := List.take_of_length_le (by omega)
      rw [hkn]
      clear hts hs hkn
      go_wp2
      go_ret
      exact ⟨rfl, _, rfl⟩
end Go.Proofs.YtjeinblcpejpnabGreatDoor
