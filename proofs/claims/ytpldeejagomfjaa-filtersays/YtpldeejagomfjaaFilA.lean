
/- Filters: what spots, May, Of, and the document's answers, say. -/
import Derived.Test.YtpldeejagomfjaaFilM
import Derived.Test.YtpldeejagomfjaaWld
import Derived.WalkSpells
import Derived.WalkLawsBesides
import Derived.Deep.QuietTactic
import Derived.BigQuiet
namespace Go.Proofs.Ytpldeejagomfjaa
open Go.RowKit

theorem w64_in (n : Int) (h : -9223372036854775808 ≤ n ∧ n ≤ 9223372036854775807) : wrap64 n = n := by unfold wrap64; omega
theorem take_byte (s : ByteArray) (k : Nat) (h : k < s.size) : s.data.toList.take (k + 1) = s.data.toList.take k ++ [s[k]] := by
  rw [List.take_add_one, List.getElem?_eq_getElem (by simpa using h)]; rfl
theorem spotA_step (s : ByteArray) (k : Nat) (h : k < s.size) : (wrap64 (31 * (spotA (s.data.toList.take k) : Int) + wrap64 (s[k].toNat : Int))).tmod 10007 = (spotA (s.data.toList.take (k + 1)) : Int) := by
  have hA := spotA_lt (s.data.toList.take k)
  have hc := s[k].toNat_lt
  have e : spotA (s.data.toList.take (k + 1)) = (31 * spotA (s.data.toList.take k) + s[k].toNat) % 10007 := by rw [take_byte s k h]; simp [spotA]
  rw [e, w64_in (s[k].toNat : Int) (by omega), w64_in _ (by omega), Int.tmod_eq_emod_of_nonneg (by omega)]
  omega
theorem spotB_step (s : ByteArray) (k : Nat) (h : k < s.size) : (wrap64 (wrap64 (17 * (spotB (s.data.toList.take k) : Int) + wrap64 (s[k].toNat : Int)) + 5)).tmod 7919 = (spotB (s.data.toList.take (k + 1)) : Int) := by
  have hA := spotB_lt (s.data.toList.take k)
  have hc := s[k].toNat_lt
  have e : spotB (s.data.toList.take (k + 1)) = (17 * spotB (s.data.toList.take k) + s[k].toNat + 5) % 7919 := by rw [take_byte s k h]; simp [spotB]
  rw [e, w64_in (s[k].toNat : Int) (by omega), w64_in (17 * _ + _) (by omega), w64_in _ (by omega), Int.tmod_eq_emod_of_nonneg (by omega)]
  omega
theorem take_all (s : ByteArray) (k : Nat) (h : ¬ k < s.size) : s.data.toList.take k = s.data.toList := List.take_of_length_le (by simp; omega)
theorem wrap_pow (a : Nat) (h : a < 64) : IntKind.u64.wrap ((2 : Int) ^ a) = ((2 ^ a : Nat) : Int) := by
  have h1 : (2 : Int) ^ a = ((2 ^ a : Nat) : Int) := by simp
  have h2 : 2 ^ a < 2 ^ 64 := Nat.pow_lt_pow_right (by omega) h
  rw [h1]
  generalize 2 ^ a = P at *
  rw [IntKind.wrap_u64]; omega
theorem or_mask (l : List UInt8) : bits .or .u64 (2 ^ (spotA l % 64) : Nat) (2 ^ (spotB l % 64) : Nat) = (maskN l : Int) := by
  rw [u64_or_nat]
  · rfl
  · exact Nat.pow_lt_pow_right (n := 64) (by omega) (Nat.mod_lt _ (by omega))
  · exact Nat.pow_lt_pow_right (n := 64) (by omega) (Nat.mod_lt _ (by omega))

set_option maxHeartbeats 1000000 in
theorem spots_any (s : ByteArray) (w : World) (hs : s.size ≤ 4611686018427387904) :
    Calls Try.prog 98 #[.string s] w fun e w' => e = .returned (.int .u64 (maskN s.data.toList : Int)) ∧ ∃ q, w' = w.drewN q := by
  go_enter Try.func98, Try.ntmps98
  go_wp2
  go_loop [3, 4, 5, 6, 9] (fun a b _ _ i => ∃ k : Nat, k ≤ s.size ∧ i = .int .i64 k ∧ a = .int .i64 (spotA (s.data.toList.take k)) ∧ b = .int .i64 (spotB (s.data.toList.take k))) (fun _ _ _ _ i => s.size - (intOf i).toNat)
  case atStart => exact ⟨0, Nat.zero_le _, rfl, rfl, rfl⟩
  case round =>
    obtain ⟨k, hk, rfl, rfl, rfl⟩ := hrel
    by_cases hlt : k < s.size
    · have hA := spotA_lt (s.data.toList.take k)
      have hB := spotB_lt (s.data.toList.take k)
      go_wp2
      go_round
      case rel => exact ⟨k + 1, by omega, by go_num, by rw [spotA_step s k hlt], by rw [spotB_step s k hlt]⟩
      case measure => simp [intOf]; omega
    · rw [take_all s k hlt]
      have hA := spotA_lt s.data.toList
      have hB := spotB_lt s.data.toList
      have HM : Hid (bits .or .u64 (2 ^ (spotA s.data.toList % 64) : Nat) (2 ^ (spotB s.data.toList % 64) : Nat) = (maskN s.data.toList : Int)) := or_mask _
      generalize spotA s.data.toList = A at *
      generalize spotB s.data.toList = B at *
      have m1 : (A : Int).tmod 64 = ((A % 64 : Nat) : Int) := by rw [Int.tmod_eq_emod_of_nonneg (by omega)]; omega
      have m2 : (B : Int).tmod 64 = ((B % 64 : Nat) : Int) := by rw [Int.tmod_eq_emod_of_nonneg (by omega)]; omega
      go_wp2
      go_quiet (fail)
      go_wp2
      go_ret
      refine ⟨ret_of ?_, nq, rfl⟩
      rw [← HM.out, ← wrap_pow (A % 64) (Nat.mod_lt _ (by omega)), ← wrap_pow (B % 64) (Nat.mod_lt _ (by omega))]
      rfl

set_option maxHeartbeats 1000000 in
theorem may_any (f : Nat) (s : ByteArray) (w : World) (hf : f < 18446744073709551616) (hs : s.size ≤ 4611686018427387904) :
    Calls Try.prog 57 #[.int .u64 (f : Int), .string s] w fun e w' => e = .returned (.bool (mayN f s.data.toList)) ∧ ∃ q, w' = w.drewN q := by
  have hb := u64_and_nat f (maskN s.data.toList) hf (maskN_lt _)
  have HR : Hid (((f &&& maskN s.data.toList) == maskN s.data.toList) = mayN f s.data.toList) := mayN_mask _ _
  go_enter Try.func57, Try.ntmps57
  go_wp2_with (go_at_call 98; refine (spots_any s _ hs).mono ?_; rintro e w' ⟨rfl, q, rfl⟩)
  go_ret
  refine ⟨ret_of ?_, q, rfl⟩
  rw [← HR.out]
  refine congrArg Value.bool ?_
  rw [Bool.eq_iff_iff]; simp only [beq_iff_eq]; omega

/-- In world w the slice at 'ao' holds the texts 'ts'. -/
def TxtsAt (w : World) (ao : Option Addr) (ts : List ByteArray) : Prop :=
  ts ≠ [] → ∃ b off, ao = some ⟨b, off, none⟩ ∧ ∀ i t, ts[i]? = some t → w.cell? ⟨b, off + i, none⟩ = some (.string t)
theorem TxtsAt.get {w : World} {ao : Option Addr} {ts : List ByteArray} (h : TxtsAt w ao ts) {k : Nat} (hk : k < ts.length) :
    ∃ b off t, ao = some ⟨b, off, none⟩ ∧ ts[k]? = some t ∧ w.cell? ⟨b, off + k, none⟩ = some (.string t) := by
  obtain ⟨b, off, rfl, hc⟩ := h (by intro e; subst e; simp at hk)
  have he : ts[k]? = some ts[k] := List.getElem?_eq_getElem hk
  exact ⟨b, off, ts[k], rfl, he, hc k _ he⟩
def lightT (ts : List ByteArray) : Bool := decide (ts.length ≤ 60) && ts.all (fun t => decide (t.size ≤ 20))
theorem take_snocT {ts : List ByteArray} {k : Nat} {t : ByteArray} (h : ts[k]? = some t) : ts.take (k + 1) = ts.take k ++ [t] := by
  rw [List.take_add_one, h]; rfl
theorem lightT_mem {ts : List ByteArray} (h : lightT ts = true) {t : ByteArray} (ht : t ∈ ts) : t.size ≤ 20 := by
  unfold lightT at h; simp at h; exact h.2 t ht

set_option maxHeartbeats 1000000 in
theorem lightT_any (ao : Option Addr) (cap : Nat) (ts : List ByteArray) (w : World) (hl : ts.length ≤ 9223372036854775807) (hts : TxtsAt w ao ts) :
    Calls Try.prog 59 #[.slice ao ts.length cap] w fun e w' => e = .returned (.bool (lightT ts)) ∧ w' = w := by
  by_cases hmost : ts.length ≤ 60
  · go_enter Try.func59, Try.ntmps59
    go_wp2
    go_loop [3] (fun i => ∃ k : Nat, k ≤ ts.length ∧ i = .int .i64 k ∧ (ts.take k).all (fun t => decide (t.size ≤ 20)) = true) (fun i => ts.length - (intOf i).toNat)
    case atStart => exact ⟨0, Nat.zero_le _, rfl, by simp⟩
    case round =>
      obtain ⟨k, hk, rfl, hall⟩ := hrel
      by_cases hlt : k < ts.length
      · obtain ⟨b, off, t, rfl, he, h1⟩ := hts.get hlt
        have HE : Hid (ts[k]? = some t) := he
        have HA : Hid ((ts.take k).all (fun t => decide (t.size ≤ 20)) = true) := hall
        clear he hall hts
        by_cases ha : t.size ≤ 20
        · go_wp2
          go_round
          case rel => exact ⟨k + 1, by omega, by go_num, by rw [take_snocT HE.out, List.all_append, HA.out]; simp [ha]⟩
          case measure => simp [intOf]; omega
        · go_wp2
          go_ret
          refine ⟨ret_of ?_, rfl⟩
          have : ts.all (fun t => decide (t.size ≤ 20)) = false := by
            rw [List.all_eq_false]; exact ⟨t, List.mem_of_getElem? HE.out, by simpa using ha⟩
          simp [lightT, this]
      · have HA : Hid ((ts.take k).all (fun t => decide (t.size ≤ 20)) = true) := hall
        clear hts hall
        go_wp2
        go_ret
        refine ⟨ret_of ?_, rfl⟩
        have := HA.out
        rw [List.take_of_length_le (by omega)] at this
        simp only [lightT, this, hmost]; rfl
  · clear hts
    go_enter Try.func59, Try.ntmps59
    go_wp2
    go_ret
    exact ⟨ret_of (by simp [lightT, hmost]), rfl⟩

theorem or_step (ts : List ByteArray) (k : Nat) (t : ByteArray) (h : ts[k]? = some t) : bits .or .u64 (filterN (ts.take k) : Int) (maskN t.data.toList : Int) = (filterN (ts.take (k + 1)) : Int) := by
  rw [u64_or_nat _ _ (filterN_lt _) (maskN_lt _), take_snocT h, filterN_snoc]

set_option maxHeartbeats 1000000 in
theorem of_any (ao : Option Addr) (cap : Nat) (ts : List ByteArray) (w : World) (hl : ts.length ≤ 9223372036854775807) (hs : ∀ t ∈ ts, t.size ≤ 4611686018427387904) (hts : TxtsAt w ao ts) :
    Calls Try.prog 58 #[.slice ao ts.length cap] w fun e w' => e = .returned (.int .u64 (filterN ts : Int)) ∧ ∃ q, w' = w.drewN q := by
  go_enter Try.func58, Try.ntmps58
  go_wp2
  go_loopw [3, 5, 8] (fun f _ i wr => ∃ (k q : Nat), k ≤ ts.length ∧ i = .int .i64 k ∧ f = .int .u64 (filterN (ts.take k) : Int) ∧ wr = w.drewN q) (fun _ _ i _ => ts.length - (intOf i).toNat)
  case atStart => exact ⟨0, 0, Nat.zero_le _, rfl, rfl, rfl⟩
  case round =>
    obtain ⟨k, q, hk, rfl, rfl, rfl⟩ := hrel
    by_cases hlt : k < ts.length
    · obtain ⟨b, off, t, rfl, he, h1⟩ := hts.get hlt
      have hss := hs t (List.mem_of_getElem? he)
      have ho := or_step ts k t he
      clear he hts hs
      go_wp2_with (go_at_call 98; refine (spots_any t _ hss).mono ?_; rintro e w' ⟨rfl, q2, rfl⟩)
      go_roundw
      case rel => exact ⟨k + 1, _, by omega, by go_num, rfl, rfl⟩
      case measure => simp [intOf]; omega
    · have hkn : ts.take k = ts := List.take_of_length_le (by omega)
      rw [hkn]
      clear hts hs hkn
      go_wp2
      go_ret
      exact ⟨rfl, _, rfl⟩
end Go.Proofs.Ytpldeejagomfjaa
