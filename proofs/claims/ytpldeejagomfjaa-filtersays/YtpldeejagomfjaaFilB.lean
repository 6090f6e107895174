
/- Filters: the document's answers, and FilterSays. -/
import Derived.Test.YtpldeejagomfjaaFilA
namespace Go.Proofs.Ytpldeejagomfjaa
open Go.RowKit

theorem spotA_step' (s : ByteArray) (k : Nat) (h : k < s.size) : (wrap64 ((spotA (s.data.toList.take k) : Int) * 31 + wrap64 (s[k].toNat : Int))).tmod 10007 = (spotA (s.data.toList.take (k + 1)) : Int) := by
  rw [← spotA_step s k h, Int.mul_comm]
theorem spotB_step' (s : ByteArray) (k : Nat) (h : k < s.size) : (wrap64 (wrap64 ((spotB (s.data.toList.take k) : Int) * 17 + wrap64 (s[k].toNat : Int)) + 5)).tmod 7919 = (spotB (s.data.toList.take (k + 1)) : Int) := by
  rw [← spotB_step s k h, Int.mul_comm]

set_option maxHeartbeats 1000000 in
theorem refSpots_any (s : ByteArray) (w : World) (hs : s.size ≤ 4611686018427387904) :
    Calls Try.prog 60 #[.string s] w fun e w' => e = .returned (.tuple #[.int .i64 ((spotA s.data.toList % 64 : Nat) : Int), .int .i64 ((spotB s.data.toList % 64 : Nat) : Int)]) ∧ w' = w := by
  go_enter Try.func60, Try.ntmps60
  go_wp2
  go_loop [4, 5, 6] (fun a b i => ∃ k : Nat, k ≤ s.size ∧ i = .int .i64 k ∧ a = .int .i64 (spotA (s.data.toList.take k)) ∧ b = .int .i64 (spotB (s.data.toList.take k))) (fun _ _ i => s.size - (intOf i).toNat)
  case atStart => exact ⟨0, Nat.zero_le _, rfl, rfl, rfl⟩
  case round =>
    obtain ⟨k, hk, rfl, rfl, rfl⟩ := hrel
    by_cases hlt : k < s.size
    · have hA := spotA_lt (s.data.toList.take k)
      have hB := spotB_lt (s.data.toList.take k)
      go_wp2
      go_round
      case rel => exact ⟨k + 1, by omega, by go_num, by rw [spotA_step' s k hlt], by rw [spotB_step' s k hlt]⟩
      case measure => simp [intOf]; omega
    · rw [take_all s k hlt]
      have hA := spotA_lt s.data.toList
      have hB := spotB_lt s.data.toList
      go_wp2
      go_ret2
      exact ⟨by simp, rfl⟩

theorem or_step2 (ts : List ByteArray) (k : Nat) (t : ByteArray) (h : ts[k]? = some t) :
    bits .or .u64 (bits .or .u64 (filterN (ts.take k) : Int) (IntKind.u64.wrap (2 ^ (spotA t.data.toList % 64)))) (IntKind.u64.wrap (2 ^ (spotB t.data.toList % 64))) = (filterN (ts.take (k + 1)) : Int) := by
  have h1 : 2 ^ (spotA t.data.toList % 64) < 2 ^ 64 := Nat.pow_lt_pow_right (by omega) (Nat.mod_lt _ (by omega))
  have h2 : 2 ^ (spotB t.data.toList % 64) < 2 ^ 64 := Nat.pow_lt_pow_right (by omega) (Nat.mod_lt _ (by omega))
  rw [wrap_pow _ (Nat.mod_lt _ (by omega)), wrap_pow _ (Nat.mod_lt _ (by omega)), u64_or_nat _ _ (filterN_lt _) h1, u64_or_nat _ _ (Nat.or_lt_two_pow (n := 64) (filterN_lt _) h1) h2, take_snocT h, filterN_snoc, Nat.or_assoc]
  rfl

set_option maxHeartbeats 1000000 in
theorem filterOf_any (ao : Option Addr) (cap : Nat) (ts : List ByteArray) (w : World) (hl : ts.length ≤ 9223372036854775807) (hs : ∀ t ∈ ts, t.size ≤ 4611686018427387904) (hts : TxtsAt w ao ts) :
    Calls Try.prog 61 #[.slice ao ts.length cap] w fun e w' => e = .returned (.int .u64 (filterN ts : Int)) ∧ w' = w := by
  go_enter Try.func61, Try.ntmps61
  go_wp2
  go_loop [3, 4, 5, 6] (fun f i _ _ => ∃ k : Nat, k ≤ ts.length ∧ i = .int .i64 k ∧ f = .int .u64 (filterN (ts.take k) : Int)) (fun _ i _ _ => ts.length - (intOf i).toNat)
  case atStart => exact ⟨0, Nat.zero_le _, rfl, rfl⟩
  case round =>
    obtain ⟨k, hk, rfl, rfl⟩ := hrel
    by_cases hlt : k < ts.length
    · obtain ⟨b, off, t, rfl, he, h1⟩ := hts.get hlt
      have hss := hs t (List.mem_of_getElem? he)
      have HO : Hid (bits .or .u64 (bits .or .u64 (filterN (ts.take k) : Int) (IntKind.u64.wrap (2 ^ (spotA t.data.toList % 64)))) (IntKind.u64.wrap (2 ^ (spotB t.data.toList % 64))) = (filterN (ts.take (k + 1)) : Int)) := or_step2 ts k t he
      have hA : spotA t.data.toList % 64 < 64 := Nat.mod_lt _ (by omega)
      have hB : spotB t.data.toList % 64 < 64 := Nat.mod_lt _ (by omega)
      have CS := refSpots_any t w hss
      generalize spotA t.data.toList % 64 = A at *
      generalize spotB t.data.toList % 64 = B at *
      clear he hts hs
      go_wp2_with (go_at_call 60; refine CS.mono ?_; rintro e w' ⟨rfl, rfl⟩)
      go_round
      case rel => exact ⟨k + 1, by omega, by go_num, by rw [← HO.out]⟩
      case measure => simp [intOf]; omega
    · have hkn : ts.take k = ts := List.take_of_length_le (by omega)
      rw [hkn]
      clear hts hs hkn
      go_wp2
      go_ret
      exact ⟨rfl, rfl⟩

end Go.Proofs.Ytpldeejagomfjaa
