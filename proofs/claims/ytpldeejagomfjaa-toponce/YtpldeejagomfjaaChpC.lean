
/- The chip's methods that change a cell: Arm, Weaken, gives; and ready. -/
import Derived.Test.YtpldeejagomfjaaChpB
namespace Go.Proofs.Ytpldeejagomfjaa
open Go.RowKit

set_option maxRecDepth 100000 in
set_option maxHeartbeats 1000000 in
theorem arm_any (cb : Nat) (n : Int) (M : CM) (w : World) (h : ChipAt w cb M) :
    Calls Try.prog 37 #[.pointer (some ⟨cb, 0, none⟩), .int .i64 n] w fun e w' => e = .returned (.tuple #[]) ∧ ChipAt w' cb { M with left := n } ∧ w.grownBy w' (some cb) := by
  obtain ⟨⟨cs, fv, h1, h2, h3⟩, hok⟩ := h
  have c0 := h1.cell 12576
  rw [h2.left] at c0
  have f0 := h1.free 12576
  go_enter Try.func37, Try.ntmps37
  go_wp2
  go_end0
  exact ⟨rfl, ⟨⟨_, fv, h1.set _ _, h2.setLeft n, h3.grown (grow_set _ _ _ _)⟩, hok⟩, grow_set _ _ _ _⟩

/-- What Weaken answers. -/
def weakenE (b : Int) : Int := if 2 ≤ b ∧ b < 24 then 0 else 1
def weakenM (M : CM) (b : Int) : CM := if 2 ≤ b ∧ b < 24 then { M with wk := upd M.wk b.toNat true } else M
theorem upd_id {α : Type} (f : Nat → α) (b : Nat) : upd f b (f b) = f := by
  funext c; unfold upd; split
  · rename_i h; rw [h]
  · rfl
theorem Rep.setWk {cs : Array Value} {M : CM} {fv : Value} (h : Rep cs M fv) {b : Nat} (hb : b < 24) (x : Bool) : Rep (cs.setIfInBounds (b * 524 + 522) (.bool x)) { M with wk := upd M.wk b x } fv := by
  have := h.block (cs' := cs.setIfInBounds (b * 524 + 522) (.bool x)) hb (by simp) (fun i hi => by rw [Array.getElem?_setIfInBounds_ne (by omega)]) ((h.blk b hb).setWk (by have := h.size; omega) x)
  simpa only [upd_id] using this
theorem Rep.setBd {cs : Array Value} {M : CM} {fv : Value} (h : Rep cs M fv) {b : Nat} (hb : b < 24) (x : Bool) : Rep (cs.setIfInBounds (b * 524 + 523) (.bool x)) { M with bd := upd M.bd b x } fv := by
  have := h.block (cs' := cs.setIfInBounds (b * 524 + 523) (.bool x)) hb (by simp) (fun i hi => by rw [Array.getElem?_setIfInBounds_ne (by omega)]) ((h.blk b hb).setBd (by have := h.size; omega) x)
  simpa only [upd_id] using this

/-- What speaks against a step. -/
def readyE (M : CM) (b : Int) : Int := if downB M then 9 else if 0 ≤ b ∧ b < 24 then (if M.bd b.toNat then 7 else 0) else 1

set_option maxRecDepth 100000 in
set_option maxHeartbeats 1000000 in
theorem ready_any (cb : Nat) (b : Int) (M : CM) (w : World) (h : ChipAt w cb M) :
    Calls Try.prog 83 #[.pointer (some ⟨cb, 0, none⟩), .int .i64 b] w fun e w' => e = .returned (errV (readyE M b)) ∧ w' = w := by
  cases hd : downB M with
  | true =>
    have HR : Hid (readyE M b = 9) := by unfold readyE Hid; rw [hd]; rfl
    go_enter Try.func83, Try.ntmps83
    go_wp2_with (go_at_call 48; refine (down_any cb M _ h).mono ?_; rw [hd]; rintro e w' ⟨rfl, rfl⟩)
    go_ret
    exact ⟨by rw [HR.out]; rfl, rfl⟩
  | false =>
    by_cases hb : 0 ≤ b ∧ b < 24
    · obtain ⟨hb1, hb2⟩ := hb
      obtain ⟨b, rfl⟩ := Int.eq_ofNat_of_zero_le hb1
      have hb3 : b < 24 := by omega
      obtain ⟨_, _, _, c0⟩ := h.at hb3
      cases hx : M.bd b with
      | true =>
        have HR : Hid (readyE M (b : Int) = 7) := by unfold readyE Hid; rw [hd, if_neg (by simp), if_pos ⟨hb1, hb2⟩, Int.toNat_natCast, hx]; rfl
        rw [hx] at c0
        clear hx
        go_enter Try.func83, Try.ntmps83
        go_wp2_with (first
          | (go_at_call 48; refine (down_any cb M _ h).mono ?_; rw [hd]; rintro e w' ⟨rfl, rfl⟩)
          | (go_at_call 94; refine (there_yes _ _ hb1 hb2).mono ?_; rintro e w' ⟨rfl, rfl⟩))
        go_ret
        exact ⟨by rw [HR.out]; rfl, rfl⟩
      | false =>
        have HR : Hid (readyE M (b : Int) = 0) := by unfold readyE Hid; rw [hd, if_neg (by simp), if_pos ⟨hb1, hb2⟩, Int.toNat_natCast, hx]; rfl
        rw [hx] at c0
        clear hx
        go_enter Try.func83, Try.ntmps83
        go_wp2_with (first
          | (go_at_call 48; refine (down_any cb M _ h).mono ?_; rw [hd]; rintro e w' ⟨rfl, rfl⟩)
          | (go_at_call 94; refine (there_yes _ _ hb1 hb2).mono ?_; rintro e w' ⟨rfl, rfl⟩))
        go_ret
        exact ⟨by rw [HR.out]; rfl, rfl⟩
    · have HR : Hid (readyE M b = 1) := by unfold readyE Hid; rw [hd, if_neg (by simp), if_neg hb]
      have hb' : b < 0 ∨ 24 ≤ b := by omega
      clear hb
      go_enter Try.func83, Try.ntmps83
      go_wp2_with (first
        | (go_at_call 48; refine (down_any cb M _ h).mono ?_; rw [hd]; rintro e w' ⟨rfl, rfl⟩)
        | (go_at_call 94; refine (there_no _ _ hb').mono ?_; rintro e w' ⟨rfl, rfl⟩))
      go_ret
      exact ⟨by rw [HR.out]; rfl, rfl⟩

/-- A weakened block gives way. -/
def givesM (M : CM) (b : Nat) : CM := if M.wk b then { M with bd := upd M.bd b true } else M
set_option maxRecDepth 100000 in
set_option maxHeartbeats 1000000 in
theorem gives_any (cb b : Nat) (M : CM) (w : World) (hb : b < 24) (h : ChipAt w cb M) :
    Calls Try.prog 84 #[.pointer (some ⟨cb, b * 524, none⟩)] w fun e w' => e = .returned (.bool (M.wk b)) ∧ ChipAt w' cb (givesM M b) ∧ w.grownBy w' (some cb) ∧ (M.wk b = false → w' = w) := by
  obtain ⟨_, _, c0, c1⟩ := h.at hb
  obtain ⟨⟨cs, fv, h1, h2, h3⟩, hok⟩ := h
  have f1 := h1.free (b * 524 + 523)
  cases hx : M.wk b with
  | true =>
    have HM : Hid (givesM M b = { M with bd := upd M.bd b true }) := by unfold givesM Hid; rw [hx]; rfl
    rw [hx] at c0
    clear hx
    generalize M.bd b = y at *
    go_enter Try.func84, Try.ntmps84
    go_wp2
    go_ret
    refine ⟨rfl, ?_, grow_set _ _ _ _, by simp⟩
    rw [HM.out]
    exact ⟨⟨_, fv, h1.set _ _, h2.setBd hb true, h3.grown (grow_set _ _ _ _)⟩, hok⟩
  | false =>
    have HM : Hid (givesM M b = M) := by unfold givesM Hid; rw [hx]; rfl
    rw [hx] at c0
    clear hx
    go_enter Try.func84, Try.ntmps84
    go_wp2
    go_ret
    refine ⟨rfl, ?_, grow_refl _ _, fun _ => rfl⟩
    rw [HM.out]
    exact ⟨⟨_, fv, h1, h2, h3⟩, hok⟩

end Go.Proofs.Ytpldeejagomfjaa
