/- TopO. -/
import Derived.Test.YthndopokabceiaaGreatDoorLawAJ

/- TopOpen, TopLaid. -/
namespace Go.Proofs.YthndopokabceiaaGreatDoor
open Go.RowKit Go.WideShapes

set_option maxRecDepth 20000 in
set_option maxHeartbeats 4000000 in
theorem topOpen_any (ao : Option Addr) (cap : Nat) (acs : List ActE) (w : World) (hg : GlobT w) (hl : acs.length ≤ 9223372036854775807) (has : ActsAt w ao acs) :
    Calls Tryz.prog 7 #[.slice ao acs.length cap] w fun e w' => e = .returned (.bool true) ∧ Ext w w' := by
  have HW := worksH w hg
  cases hf : fillB acs with
  | false =>
    have HF := filledN ao cap acs w hl has hf
    clear has hf hg
    go_enter Tryz.func7, Tryz.ntmps7
    go_wp2_with (first
      | (go_at_call 35; refine HW.out.mono ?_; rintro e w1 ⟨rfl, hx1⟩)
      | (go_at_call 36; refine (HF.out _ hx1).mono ?_; rintro e w2 ⟨rfl, rfl⟩))
    go_ret
    exact ⟨rfl, hx1⟩
  | true =>
    have HF := filledY ao cap acs w hg hl has hf
    generalize weakN acs = k at *
    generalize fillR acs = R at *
    have HR := rowsH w 800 k R
    have HO := openH w 800 k R
    have HM := manH w 800 k R
    have HSM := sameMH w
    have HSE : Hid (R.length ≤ 40 → ∀ W a1 a2 c1 c2, EntsAt W a1 R → EntsAt W a2 R → Ext w W → Calls Tryz.prog 34 #[.slice a1 R.length c1, .slice a2 R.length c2] W fun e w' => e = .returned (.bool true) ∧ Ext W w' ∧ Ext w w') := fun h => (sameEH w R (by omega)).out
    clear has hf hg
    go_enter Tryz.func7, Tryz.ntmps7
    go_wp2_with (first
      | (go_at_call 35; refine HW.out.mono ?_; rintro e w1 ⟨rfl, hx1⟩)
      | (go_at_call 36; refine (HF.out _ hx1).mono ?_; rintro e w2 ⟨cb, sb, S, m, rfl, hU2, hx2, hS2⟩)
      | (go_at_call 20; refine (HO.out _ _ _ _ _ hx2 hU2).mono ?_; rintro e w3 ⟨tb, T, rfl, hT3, hx3, hX3⟩; have hU3 := hU2.ext hx3)
      | (go_at_call 43; refine (HSM.out _ _ _ _ _ _ _ _ _ _ _ _ _ _ _ _ hT8 hM7' hM8 hX8).mono ?_; rintro e w9 ⟨rfl, hX9⟩)
      | (go_at_call 41; refine (HM.out _ _ _ _ _ hX7 hT7).mono ?_; rintro e w8 ⟨e1, f1, e2, f2, rfl, hM8, hx8, hX8⟩; have hT8 := hT7.ext hx8; have hM7' := (⟨hM7.1.ext hx8, hM7.2.ext hx8⟩ : _ ∧ _))
      | (go_at_call 41; refine (HM.out _ _ _ _ _ hX6 hU6).mono ?_; rintro e w7 ⟨a1, c1, a2, c2, rfl, hM7, hx7, hX7⟩; have hT7 := hT6.ext hx7)
      | (go_at_call 34; refine (HSE.out hU5.few _ _ _ _ _ hR4'.at_ hR5.at_ hX5).mono ?_; rintro e w6 ⟨rfl, hx6, hX6⟩; have hU6 := hU5.ext hx6; have hT6 := hT5.ext hx6)
      | (go_at_call 38; refine (HR.out _ _ _ _ _ hX4 hT4).mono ?_; rintro e w5 ⟨ro5, rc5, rfl, hR5, hx5, hX5⟩; have hT5 := hT4.ext hx5; have hU5 := hU4.ext hx5; have hR4' := hR4.ext hx5)
      | (go_at_call 38; refine (HR.out _ _ _ _ _ hX3 hU3).mono ?_; rintro e w4 ⟨ro4, rc4, rfl, hR4, hx4, hX4⟩; have hT4 := hT3.ext hx4; have hU4 := hU3.ext hx4))
    go_ret
    exact ⟨rfl, hX9⟩
set_option maxRecDepth 20000 in
set_option maxHeartbeats 4000000 in
theorem topLaid_any (ao : Option Addr) (cap : Nat) (acs : List ActE) (co : Bool) (w : World) (hg : GlobT w) (hl : acs.length ≤ 9223372036854775807) (has : ActsAt w ao acs) :
    Calls Tryz.prog 6 #[.slice ao acs.length cap, .bool co] w fun e w' => e = .returned (.bool true) ∧ Ext w w' := by
  have HW := worksH w hg
  cases hf : fillB acs with
  | false =>
    have HF := filledN ao cap acs w hl has hf
    clear has hf hg
    go_enter Tryz.func6, Tryz.ntmps6
    go_wp2_with (first
      | (go_at_call 35; refine HW.out.mono ?_; rintro e w1 ⟨rfl, hx1⟩)
      | (go_at_call 36; refine (HF.out _ hx1).mono ?_; rintro e w2 ⟨rfl, rfl⟩))
    go_ret
    exact ⟨rfl, hx1⟩
  | true =>
    have HF := filledY ao cap acs w hg hl has hf
    generalize weakN acs = k at *
    generalize fillR acs = R at *
    have HR := rowsH w 800 k R
    have HR2 := rowsH w 809 k R
    have HM := manH w 809 k R
    have HC := compactH w 800 k R (by omega)
    have HFL := flushH w 800 k R (by omega)
    have HSE : Hid (R.length ≤ 40 → ∀ W a1 a2 c1 c2, EntsAt W a1 R → EntsAt W a2 R → Ext w W → Calls Tryz.prog 34 #[.slice a1 R.length c1, .slice a2 R.length c2] W fun e w' => e = .returned (.bool true) ∧ Ext W w' ∧ Ext w w') := fun h => (sameEH w R (by omega)).out
    clear has hf hg
    have hf1 : ∀ (a b c d : Value) (w : World), (Instr.field 65 (.agg #[a, b, c, d]) 1).run Tryz.prog w = .ok b w := fun _ _ _ _ _ => by kernel_rfl
    have hf2 : ∀ (a b c d : Value) (w : World), (Instr.field 65 (.agg #[a, b, c, d]) 2).run Tryz.prog w = .ok c w := fun _ _ _ _ _ => by kernel_rfl
    cases co with
    | true =>
      go_enter Tryz.func6, Tryz.ntmps6
      go_wp2_with (first
        | (go_at_call 35; refine HW.out.mono ?_; rintro e w1 ⟨rfl, hx1⟩)
        | (go_at_call 36; refine (HF.out _ hx1).mono ?_; rintro e w2 ⟨cb, sb, S, m, rfl, hU2, hx2, hS2⟩)
        | (go_at_call 34; refine (HSE.out hU6.few _ _ _ _ _ hR6.at_ hR5'.at_ hX6).mono ?_; rintro e w7 ⟨rfl, hx7, hX7⟩)
        | (go_at_call 38; refine (HR2.out _ _ _ _ _ hX5 hU5).mono ?_; rintro e w6 ⟨ro6, rc6, rfl, hR6, hx6, hX6⟩; have hU6 := hU5.ext hx6; have hR5' := hR5.ext hx6)
        | (go_at_call 41; refine (HM.out _ _ _ _ _ hX4 hU4).mono ?_; rintro e w5 ⟨a1, c1, a2, c2, rfl, hM5, hx5, hX5⟩; have hU5 := hU4.ext hx5; have hR5 := hR4.ext hx5; rw [show m4.nw = [] from hP4])
        | (go_at_call 29; refine (HC.out _ _ _ _ _ hX3 hS2 hU3).mono ?_; rintro e w4 ⟨rfl, ⟨S4, m4, hU4, hX4, hS4, hP4, hA4⟩⟩; have hR4 := hA4 _ _ hR3)
        | (go_at_call 38; refine (HR.out _ _ _ _ _ hx2 hU2).mono ?_; rintro e w3 ⟨ro3, rc3, rfl, hR3, hx3, hX3⟩; have hU3 := hU2.ext hx3))
      go_ret
      exact ⟨rfl, hX7⟩
    | false =>
      go_enter Tryz.func6, Tryz.ntmps6
      go_wp2_with (first
        | (go_at_call 35; refine HW.out.mono ?_; rintro e w1 ⟨rfl, hx1⟩)
        | (go_at_call 36; refine (HF.out _ hx1).mono ?_; rintro e w2 ⟨cb, sb, S, m, rfl, hU2, hx2, hS2⟩)
        | (go_at_call 34; refine (HSE.out hU6.few _ _ _ _ _ hR6.at_ hR5'.at_ hX6).mono ?_; rintro e w7 ⟨rfl, hx7, hX7⟩)
        | (go_at_call 38; refine (HR2.out _ _ _ _ _ hX5 hU5).mono ?_; rintro e w6 ⟨ro6, rc6, rfl, hR6, hx6, hX6⟩; have hU6 := hU5.ext hx6; have hR5' := hR5.ext hx6)
        | (go_at_call 42; refine (hP4 _ hx5').mono ?_; rintro e w5' ⟨rfl, rfl⟩)
        | (go_at_call 41; refine (HM.out _ _ _ _ _ hX4 hU4).mono ?_; rintro e w5 ⟨a1, c1, a2, c2, rfl, hM5, hx5, hX5⟩; have hU5 := hU4.ext hx5; have hR5 := hR4.ext hx5; have hx5' := hx5)
        | (go_at_call 28; refine (HFL.out _ _ _ _ _ hX3 hS2 hU3).mono ?_; rintro e w4 ⟨rfl, ⟨S4, m4, hU4, hX4, hS4, hP4, hA4⟩⟩; have hR4 := hA4 _ _ hR3)
        | (go_at_call 38; refine (HR.out _ _ _ _ _ hx2 hU2).mono ?_; rintro e w3 ⟨ro3, rc3, rfl, hR3, hx3, hX3⟩; have hU3 := hU2.ext hx3))
      go_ret
      exact ⟨rfl, hX7⟩
end Go.Proofs.YthndopokabceiaaGreatDoor
