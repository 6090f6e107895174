
/- The document's chip: Write whole, Erase. -/
import Derived.Test.YtpldeejagomfjaaRefD
import Derived.BigRegion
namespace Go.Proofs.Ytpldeejagomfjaa
open Go.RowKit Go.WideShapes

theorem rwrite_any (rb : Nat) (b : Int) (s : ByteArray) (M : CM) (w : World) (h : RefAt w rb M) (hm : MOk M) (hub : M.left ≤ 9223372036854775807) (hs : s.size ≤ 9223372036854775807) :
    Calls Try.prog 32 #[.pointer (some ⟨rb, 0, none⟩), .int .i64 b, .string s] w fun e w' => e = .returned (.int .i64 (writeE M b s)) ∧ RefAt w' rb (writeM M b s) ∧ w.grownBy w' (some rb) := by
  by_cases hr : readyE M b = 0
  · obtain ⟨hpn, hb1, hb2⟩ := ready_zero hr
    obtain ⟨b, rfl⟩ := Int.eq_ofNat_of_zero_le hb1
    have hb : b < 24 := by omega
    by_cases h64 : s.size ≤ 64
    · by_cases hfull : (M.pg b).length = 8
      · exact rwrite_mid rb b s M w h hs hr hb (.inr ⟨h64, .inl hfull⟩)
      · cases hwk : M.wk b with
        | true => exact rwrite_mid rb b s M w h hs hr hb (.inr ⟨h64, .inr ⟨hfull, .inl hwk⟩⟩)
        | false =>
          by_cases hl0 : M.left = 0
          · exact rwrite_mid rb b s M w h hs hr hb (.inr ⟨h64, .inr ⟨hfull, .inr ⟨hwk, hl0⟩⟩⟩)
          · by_cases hn : (M.pg b).length = 0
            · exact rwrite_go0 rb b s M w h hub hr hb h64 hwk hl0 hn
            · exact rwrite_go1 rb b s M w h hub hr hb h64 hwk hl0 hn (by have := hm.len b hb; omega)
    · exact rwrite_mid rb b s M w h hs hr hb (.inl (by omega))
  · exact rwrite_no rb b s M w h hr

theorem RefAt.wipe {w : World} {rb : Nat} {M : CM} (h : RefAt w rb M) {b : Nat} (hb : b < 24) (n : Nat) :
    RefAt ((w.setCell ⟨rb, b, none⟩ (.slice none 0 0)).setCell ⟨rb, 24 + b, none⟩ (.int .i64 (n : Int))) rb { M with pg := upd M.pg b [], wr := upd M.wr b n } := by
  obtain ⟨rc, data, h1, h2, h3⟩ := h.cells
  have k1 := h1.set b (.slice none 0 0)
  have r1 := (h2.setPg (l := []) hb (grow_refl w none) (.slice none 0 0) ⟨rfl, .inl ⟨rfl, rfl⟩⟩ (fun _ => rfl) (fun _ _ _ _ _ _ _ e => by cases e) (fun _ _ _ _ _ _ _ e => by cases e)).stays h1 (by decide) (grow_set w rb b (.slice none 0 0))
  have r2 := (r1.setWr hb n).stays k1 (by decide) (grow_set _ rb (24 + b) (.int .i64 (n : Int)))
  exact ⟨_, data, k1.set _ _, r2, h3⟩

set_option maxRecDepth 100000 in
set_option maxHeartbeats 4000000 in
theorem rerase_any (rb : Nat) (b : Int) (M : CM) (w : World) (h : RefAt w rb M) (hub : M.left ≤ 9223372036854775807) (hwr : WrOk M) :
    Calls Try.prog 34 #[.pointer (some ⟨rb, 0, none⟩), .int .i64 b] w fun e w' => e = .returned (.int .i64 (eraseE M b)) ∧ RefAt w' rb (eraseM M b) ∧ w.grownBy w' (some rb) := by
  by_cases hr : readyE M b = 0
  · obtain ⟨hpn, hb1, hb2⟩ := ready_zero hr
    obtain ⟨b, rfl⟩ := Int.eq_ofNat_of_zero_le hb1
    have hb : b < 24 := by omega
    have HR : Hid (readyE M (b : Int) = 0) := hr
    clear hr
    obtain ⟨c1, c2, c3, f0, hlt⟩ := h.at hb
    cases hwk : M.wk b with
    | true =>
      have HE : Hid (eraseE M (b : Int) = 7) := by unfold eraseE Hid; rw [Int.toNat_natCast, if_neg (by simp [HR.out]), hwk]; rfl
      have HM : Hid (eraseM M (b : Int) = { M with bd := upd M.bd b true }) := by unfold eraseM Hid; rw [Int.toNat_natCast, if_neg (by simp [HR.out]), hwk]; rfl
      rw [hwk] at c1
      have f2 := f0 (72 + b)
      have HF := h.setBd hb
      generalize M.bd b = y at *
      clear hwk
      go_enter Try.func34, Try.ntmps34
      go_wp2_with (go_at_call 89; refine (rready_ok rb b M _ h HR.out).mono ?_; rintro e w' ⟨rfl, rfl⟩)
      go_ret
      exact ⟨by rw [HE.out]; rfl, by rw [HM.out]; exact HF, grow_set _ _ _ _⟩
    | false =>
      rw [hwk] at c1
      by_cases hl0 : M.left = 0
      · have HE : Hid (eraseE M (b : Int) = 9) := by unfold eraseE Hid; rw [Int.toNat_natCast, if_neg (by simp [HR.out]), hwk]; simp [hl0]
        have HM : Hid (eraseM M (b : Int) = { M with pend := some (.erase b) }) := by unfold eraseM Hid; rw [Int.toNat_natCast, if_neg (by simp [HR.out]), hwk]; simp [hl0]
        have HF := h.fallenE b
        obtain ⟨rc, data, q1, q2, q3⟩ := h.cells
        have c96 := q2.cleft
        rw [hl0] at c96
        have r98 := q1.cell 98
        rw [q2.chalf] at r98
        have f98 := q1.free 98
        have HC : Hid (rc[96]? = some (.int .i64 0)) := c96
        have HD : Hid (rc[97]? = some (.bool (downB M))) := q2.cdown
        generalize tornN M.pend = tn at *
        clear c96 hwk
        go_enter Try.func34, Try.ntmps34
        go_wp2_with (first
          | (go_at_call 89; refine (rready_ok rb b M _ h HR.out).mono ?_; rintro e w' ⟨rfl, rfl⟩)
          | (go_at_call 90; refine (rfalls_yes rb rc _ q1 HC.out _ HD.out).mono ?_; rintro e w' ⟨rfl, rfl⟩))
        go_ret
        exact ⟨by rw [HE.out]; rfl, by rw [HM.out]; exact HF, grow_trans (grow_set _ _ _ _) (grow_set _ _ _ _)⟩
      · have HE : Hid (eraseE M (b : Int) = 0) := by unfold eraseE Hid; rw [Int.toNat_natCast, if_neg (by simp [HR.out]), hwk]; simp [hl0]
        have HM : Hid (eraseM M (b : Int) = wipeM (tickM M) b []) := by unfold eraseM Hid; rw [Int.toNat_natCast, if_neg (by simp [HR.out]), hwk]; simp [hl0]
        clear hwk
        go_enter Try.func34, Try.ntmps34
        go_wp2_with (first
          | (go_at_call 89; refine (rready_ok rb b M _ h HR.out).mono ?_; rintro e w' ⟨rfl, rfl⟩)
          | (go_at_call 90; refine (rfalls_go rb M _ h hl0 hub).mono ?_; rintro e w1 ⟨rfl, h3, hg3⟩
             have HF := h3.wipe hb ((tickM M).wr b + 1)
             obtain ⟨so, cap, k0, _⟩ := h3.row hb
             obtain ⟨_, _, k3, f1, hlt1⟩ := h3.at hb
             have f2 := f1 b
             have f3 := f1 (24 + b)
             have hwb : (tickM M).wr b ≤ 1000000000 := by rw [tick_wr]; exact hwr b hb
             clear f1))
        generalize hnr : (tickM M).wr b = nr at *
        have hne : ¬ (24 + b = b) := by omega
        have hne2 : ¬ (b = 24 + b) := by omega
        go_big_region
        all_goals go_wp2
        all_goals go_ret
        all_goals subst hnr
        all_goals exact ⟨by rw [HE.out]; rfl, by rw [HM.out]; exact HF.ext ((Ext.refl _).drew), grow_trans hg3 (grow_trans (grow_trans (grow_set _ _ _ _) (grow_set _ _ _ _)) (grow_ext ((Ext.refl _).drew) _))⟩
  · have HE : Hid (eraseE M b = readyE M b) := by unfold eraseE Hid; rw [if_pos hr]
    have HM : Hid (eraseM M b = M) := by unfold eraseM Hid; rw [if_pos hr]
    have HN : Hid (¬ readyE M b = 0) := hr
    clear hr
    go_enter Try.func34, Try.ntmps34
    go_wp2_with (go_at_call 89; refine (rready_no rb b M _ h HN.out).mono ?_; rintro e w' ⟨⟨n, rfl, hn, hpos⟩, rfl⟩; have HN2 : Hid (n = readyE M b) := hn; clear hn)
    go_ret
    exact ⟨by rw [HE.out, ← HN2.out]; rfl, by rw [HM.out]; exact h, grow_refl _ _⟩
end Go.Proofs.Ytpldeejagomfjaa
