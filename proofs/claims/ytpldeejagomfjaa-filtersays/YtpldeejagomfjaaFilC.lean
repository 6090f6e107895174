
/- FilterSays. -/
import Derived.Test.YtpldeejagomfjaaFilB
import Derived.Test.YtpldeejagomfjaaFilC0
namespace Go.Proofs.Ytpldeejagomfjaa
open Go.RowKit

set_option maxHeartbeats 1000000 in
theorem filterSays_any (ao : Option Addr) (cap : Nat) (ts : List ByteArray) (key : ByteArray) (f : Nat) (w : World) (hl : ts.length ≤ 9223372036854775807) (hk : key.size ≤ 9223372036854775807) (hf : f < 18446744073709551616) (hts : TxtsAt w ao ts) :
    Calls Try.prog 9 #[.slice ao ts.length cap, .string key, .int .u64 (f : Int)] w fun e w' => e = .returned (.bool true) ∧ Ext w w' := by
  cases hli : lightT ts with
  | false =>
    have HL : Hid (lightT ts = false) := hli
    clear hli
    go_enter Try.func9, Try.ntmps9
    go_wp2_with (first
      | (go_at_call 58; refine (of_one w).mono ?_; rintro e w' ⟨⟨F, rfl, hF⟩, q1, rfl⟩)
      | (go_at_call_of 57 (Value.int .u64 (F : Int)); refine (may_of_k F hF _).mono ?_; rintro e w' ⟨rfl, q3, rfl⟩)
      | (go_at_call_of 57 (Value.int .u64 0); refine (may_nought _).mono ?_; rintro e w' ⟨rfl, q2, rfl⟩)
      | (go_at_call 59; refine (lightT_any ao cap ts _ hl (hts.ext (by repeat (first | exact Ext.refl _ | refine Ext.drewN ?_ _ | refine Ext.alloc ?_ _)))).mono ?_; rw [HL.out]; rintro e w' ⟨rfl, rfl⟩))
    go_ret
    exact ⟨rfl, (by repeat (first | exact Ext.refl _ | refine Ext.drewN ?_ _ | refine Ext.alloc ?_ _))⟩
  | true =>
    have HL : Hid (lightT ts = true) := hli
    have HS : Hid (∀ t ∈ ts, t.size ≤ 4611686018427387904) := fun t ht => by have := lightT_mem hli ht; omega
    clear hli
    by_cases hks : key.size ≤ 20
    · have HM : Hid (mayN f key.data.toList = (decide (f / 2 ^ (spotA key.data.toList % 64) % 2 = 1) && decide (f / 2 ^ (spotB key.data.toList % 64) % 2 = 1))) := by unfold mayN Hid; rw [testBit_div, testBit_div]
      have hA : spotA key.data.toList % 64 < 64 := Nat.mod_lt _ (by omega)
      have hB : spotB key.data.toList % 64 < 64 := Nat.mod_lt _ (by omega)
      have o1 := and_one f (spotA key.data.toList % 64) hf
      have o2 := and_one f (spotB key.data.toList % 64) hf
      have CS : Hid (∀ W, Calls Try.prog 60 #[.string key] W fun e w' => e = .returned (.tuple #[.int .i64 ((spotA key.data.toList % 64 : Nat) : Int), .int .i64 ((spotB key.data.toList % 64 : Nat) : Int)]) ∧ w' = W) := fun W => refSpots_any key W (by omega)
      have CM : Hid (∀ W, Calls Try.prog 57 #[.int .u64 (f : Int), .string key] W fun e w' => e = .returned (.bool (mayN f key.data.toList)) ∧ ∃ q, w' = W.drewN q) := fun W => may_any f key W hf (by omega)
      have hFl := filterN_lt ts
      have CO : Hid (∀ W, TxtsAt W ao ts → Calls Try.prog 58 #[.slice ao ts.length cap] W fun e w' => e = .returned (.int .u64 (filterN ts : Int)) ∧ ∃ q, w' = W.drewN q) := fun W h => of_any ao cap ts W hl HS.out h
      have CF : Hid (∀ W, TxtsAt W ao ts → Calls Try.prog 61 #[.slice ao ts.length cap] W fun e w' => e = .returned (.int .u64 (filterN ts : Int)) ∧ w' = W) := fun W h => filterOf_any ao cap ts W hl HS.out h
      generalize spotA key.data.toList % 64 = A at *
      generalize spotB key.data.toList % 64 = B at *
      generalize mayN f key.data.toList = M at *
      generalize filterN ts = G at *
      have e1 := bit_eq f A
      have e2 := bit_eq f B
      have HM2 := HM.out
      clear HM
      generalize decide (f / 2 ^ A % 2 = 1) = x at *
      generalize decide (f / 2 ^ B % 2 = 1) = y at *
      subst HM2
      cases x <;> cases y <;> (simp only [Bool.and_true, Bool.and_false] at *)
      all_goals go_enter Try.func9, Try.ntmps9
      all_goals go_wp2_with (first
      | (go_at_call_of 58 (Value.slice ao ts.length cap); refine (CO.out _ (hts.ext (by repeat (first | exact Ext.refl _ | refine Ext.drewN ?_ _ | refine Ext.alloc ?_ _)))).mono ?_; rintro e w' ⟨rfl, q5, rfl⟩)
      | (go_at_call_of 57 (Value.int .u64 (f : Int)); refine (CM.out _).mono ?_; rintro e w' ⟨rfl, q6, rfl⟩)
      | (go_at_call 58; refine (of_one w).mono ?_; rintro e w' ⟨⟨F, rfl, hF⟩, q1, rfl⟩)
      | (go_at_call_of 57 (Value.int .u64 (F : Int)); refine (may_of_k F hF _).mono ?_; rintro e w' ⟨rfl, q3, rfl⟩)
      | (go_at_call_of 57 (Value.int .u64 0); refine (may_nought _).mono ?_; rintro e w' ⟨rfl, q2, rfl⟩)
      | (go_at_call 59; refine (lightT_any ao cap ts _ hl (hts.ext (by repeat (first | exact Ext.refl _ | refine Ext.drewN ?_ _ | refine Ext.alloc ?_ _)))).mono ?_; rw [HL.out]; rintro e w' ⟨rfl, rfl⟩)
      | (go_at_call 60; refine (CS.out _).mono ?_; rintro e w' ⟨rfl, rfl⟩)
      | (go_at_call 61; refine (CF.out _ (hts.ext (by repeat (first | exact Ext.refl _ | refine Ext.drewN ?_ _ | refine Ext.alloc ?_ _)))).mono ?_; rintro e w' ⟨rfl, rfl⟩))
      all_goals go_ret
      all_goals exact ⟨rfl, (by repeat (first | exact Ext.refl _ | refine Ext.drewN ?_ _ | refine Ext.alloc ?_ _))⟩
    · go_enter Try.func9, Try.ntmps9
      go_wp2_with (first
      | (go_at_call 58; refine (of_one w).mono ?_; rintro e w' ⟨⟨F, rfl, hF⟩, q1, rfl⟩)
      | (go_at_call_of 57 (Value.int .u64 (F : Int)); refine (may_of_k F hF _).mono ?_; rintro e w' ⟨rfl, q3, rfl⟩)
      | (go_at_call_of 57 (Value.int .u64 0); refine (may_nought _).mono ?_; rintro e w' ⟨rfl, q2, rfl⟩)
      | (go_at_call 59; refine (lightT_any ao cap ts _ hl (hts.ext (by repeat (first | exact Ext.refl _ | refine Ext.drewN ?_ _ | refine Ext.alloc ?_ _)))).mono ?_; rw [HL.out]; rintro e w' ⟨rfl, rfl⟩))
      go_ret
      exact ⟨rfl, (by repeat (first | exact Ext.refl _ | refine Ext.drewN ?_ _ | refine Ext.alloc ?_ _))⟩
end Go.Proofs.Ytpldeejagomfjaa
