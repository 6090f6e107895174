
/- The chip: Wear, Bad, Weaken. -/
import Derived.Test.YtpldeejagomfjaaChpC
namespace Go.Proofs.Ytpldeejagomfjaa
open Go.RowKit

set_option maxHeartbeats 400000 in
theorem wear_any (cb b : Nat) (M : CM) (w : World) (hb : b < 24) (h : ChipAt w cb M) :
    Calls Try.prog 46 #[.pointer (some ⟨cb, 0, none⟩), .int .i64 (b : Int)] w fun e w' => e = .returned (.int .i64 (M.wr b : Int)) ∧ w' = w := by
  obtain ⟨_, c0, _, _⟩ := h.at hb
  have h1 : (0 : Int) ≤ b := by omega
  have h2 : (b : Int) < 24 := by omega
  clear h
  generalize (M.wr b : Int) = n at *
  go_enter Try.func46, Try.ntmps46
  go_wp2_with (go_at_call 94; refine (there_yes _ _ h1 h2).mono ?_; rintro e w' ⟨rfl, rfl⟩)
  go_ret
  exact ⟨rfl, rfl⟩
set_option maxHeartbeats 400000 in
theorem bad_any (cb b : Nat) (M : CM) (w : World) (hb : b < 24) (h : ChipAt w cb M) :
    Calls Try.prog 95 #[.pointer (some ⟨cb, 0, none⟩), .int .i64 (b : Int)] w fun e w' => e = .returned (.bool (M.bd b)) ∧ w' = w := by
  obtain ⟨_, _, _, c0⟩ := h.at hb
  have h1 : (0 : Int) ≤ b := by omega
  have h2 : (b : Int) < 24 := by omega
  clear h
  generalize M.bd b = n at *
  go_enter Try.func95, Try.ntmps95
  go_wp2_with (go_at_call 94; refine (there_yes _ _ h1 h2).mono ?_; rintro e w' ⟨rfl, rfl⟩)
  go_ret
  exact ⟨rfl, rfl⟩

set_option maxRecDepth 100000 in
set_option maxHeartbeats 1000000 in
theorem weaken_any (cb : Nat) (b : Int) (M : CM) (w : World) (h : ChipAt w cb M) :
    Calls Try.prog 35 #[.pointer (some ⟨cb, 0, none⟩), .int .i64 b] w fun e w' => e = .returned (errV (weakenE b)) ∧ ChipAt w' cb (weakenM M b) ∧ w.grownBy w' (some cb) := by
  by_cases hb : 2 ≤ b ∧ b < 24
  · obtain ⟨hb1, hb2⟩ := hb
    obtain ⟨b, rfl⟩ := Int.eq_ofNat_of_zero_le (show 0 ≤ b by omega)
    have hb3 : b < 24 := by omega
    obtain ⟨_, _, c0, _⟩ := h.at hb3
    obtain ⟨⟨cs, fv, h1, h2, h3⟩, hok⟩ := h
    have f0 := h1.free (b * 524 + 522)
    have h0 : ¬ (b : Int) < 2 := by omega
    have h0' : (0 : Int) ≤ (b : Int) := by omega
    have HM : Hid (weakenM M (b : Int) = { M with wk := upd M.wk b true }) := by unfold weakenM Hid; rw [if_pos ⟨hb1, hb2⟩]; rfl
    have HE : Hid (weakenE (b : Int) = 0) := by unfold weakenE Hid; rw [if_pos ⟨hb1, hb2⟩]
    generalize M.wk b = x at *
    go_enter Try.func35, Try.ntmps35
    go_wp2
    go_ret
    refine ⟨by rw [HE.out]; rfl, ?_, grow_set _ _ _ _⟩
    rw [HM.out]
    exact ⟨⟨_, fv, h1.set _ _, h2.setWk hb3 true, h3.grown (grow_set _ _ _ _)⟩, hok⟩
  · have HM : Hid (weakenM M b = M) := by unfold weakenM Hid; rw [if_neg hb]
    have HE : Hid (weakenE b = 1) := by unfold weakenE Hid; rw [if_neg hb]
    by_cases h2 : b < 2
    · clear hb
      go_enter Try.func35, Try.ntmps35
      go_wp2
      go_ret
      exact ⟨by rw [HE.out]; rfl, by rw [HM.out]; exact h, grow_refl _ _⟩
    · have h24 : 24 ≤ b := by omega
      clear hb
      go_enter Try.func35, Try.ntmps35
      go_wp2
      go_ret
      exact ⟨by rw [HE.out]; rfl, by rw [HM.out]; exact h, grow_refl _ _⟩

end Go.Proofs.Ytpldeejagomfjaa
