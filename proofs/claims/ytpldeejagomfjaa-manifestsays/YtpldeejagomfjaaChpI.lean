
/- Erase, Read, New. -/
import Derived.Test.YtpldeejagomfjaaChpH
namespace Go.Proofs.Ytpldeejagomfjaa
open Go.RowKit Go.WideShapes

def eraseE (M : CM) (b : Int) : Int := if ¬ readyE M b = 0 then readyE M b else if M.wk b.toNat then 7 else if M.left = 0 then 9 else 0
def eraseM (M : CM) (b : Int) : CM :=
  if ¬ readyE M b = 0 then M else if M.wk b.toNat then { M with bd := upd M.bd b.toNat true }
  else if M.left = 0 then { M with pend := some (.erase b.toNat) } else wipeM (tickM M) b.toNat []

set_option maxRecDepth 100000 in
set_option maxHeartbeats 2000000 in
/-- The last statement of Erase. -/
theorem erase_step (cb b kb : Nat) (M : CM) (w : World) (hb : b < 24) (h : ChipAt w cb M) (hub : M.left ≤ 9223372036854775807) (hpn : M.pend = none) (hwr : WrOk M)
    (hk : Blk w kb #[.pointer (some ⟨cb, b * 524, none⟩)] 139) (hkc : ¬ kb = cb) :
    Calls Try.prog 85 #[.pointer (some ⟨cb, 0, none⟩), .func (.func 91) #[] #[.pointer (some ⟨kb, 0, none⟩)], .func (.func 93) #[] #[.pointer (some ⟨kb, 0, none⟩)]] w fun e w' =>
      e = .returned (errV (if M.left = 0 then 9 else 0)) ∧ ChipAt w' cb (if M.left = 0 then { M with pend := some (.erase b) } else wipeM (tickM M) b []) ∧ w.grownBy w' (some cb) := by
  have hcl : CellsAt w cb M := h.cells
  by_cases h0 : M.left = 0
  · rw [if_pos h0, if_pos h0]
    refine (step_fall cb 91 93 _ _ M w hcl h0).mono ?_
    rintro e w' ⟨rfl, rfl⟩
    have hlt := hcl.lt
    have hx : Ext (w.setCell ⟨cb, 12577, none⟩ (fellV w.heap.size (w.heap.size + 1))) (((w.setCell ⟨cb, 12577, none⟩ (fellV w.heap.size (w.heap.size + 1))).alloc (.cells #[.func (.func 91) #[] #[.pointer (some ⟨kb, 0, none⟩)]] 1)).alloc (.cells #[.func (.func 93) #[] #[.pointer (some ⟨kb, 0, none⟩)]] 1)) := ((Ext.refl _).alloc _).alloc _
    have hsz : (w.setCell ⟨cb, 12577, none⟩ (fellV w.heap.size (w.heap.size + 1))).heap.size = w.heap.size := by simp [World.setCell]
    obtain ⟨cs, fv, k1, k2, k3⟩ := hcl
    refine ⟨rfl, ⟨⟨_, _, (k1.set 12577 _).ext hx, k2.setFell _ _, ?_⟩, ?_⟩, grow_trans (grow_set _ _ _ _) (grow_ext hx _)⟩
    · refine ⟨w.heap.size, w.heap.size + 1, kb, rfl, by omega, by omega, hkc, hb, ?_, ?_, (hk.other hkc _).ext hx⟩
      · exact (Blk.new' _ _ _ hsz.symm).alloc _
      · exact Blk.new' _ _ _ (by simp [hsz])
    · intro b' d' he
      cases he
  · rw [if_neg h0, if_neg h0]
    refine (step_go51 cb 93 _ _ M (wipeM (tickM M) b []) w hcl h0 hub (fun W hg hc => ?_)).mono ?_
    · exact erase1_any cb b kb (tickM M) W hb (by rw [tick_wr]; exact hwr b hb) hc (hk.grown hg hkc)
    · rintro e w' ⟨rfl, hc, hg⟩
      refine ⟨rfl, ⟨hc, fun b' d' he => ?_⟩, hg⟩
      simp only [wipeM, tick_pend, hpn] at he
      cases he

set_option maxRecDepth 100000 in
set_option maxHeartbeats 2000000 in
theorem erase_any (cb : Nat) (b : Int) (M : CM) (w : World) (h : ChipAt w cb M) (hub : M.left ≤ 9223372036854775807) (hwr : WrOk M) :
    Calls Try.prog 33 #[.pointer (some ⟨cb, 0, none⟩), .int .i64 b] w fun e w' => e = .returned (errV (eraseE M b)) ∧ ChipAt w' cb (eraseM M b) ∧ w.grownBy w' (some cb) := by
  by_cases hr : readyE M b = 0
  · obtain ⟨hpn, hb1, hb2⟩ := ready_zero hr
    obtain ⟨b, rfl⟩ := Int.eq_ofNat_of_zero_le hb1
    have hb3 : b < 24 := by omega
    have HR : Hid (readyE M (b : Int) = 0) := hr
    clear hr
    have hx : Ext w (w.alloc (.cells #[.pointer (some ⟨cb, b * 524, none⟩)] 139)) := (Ext.refl w).alloc _
    have h2 := h.ext hx
    cases hwk : M.wk b with
    | true =>
      have HE : Hid (eraseE M (b : Int) = 7) := by unfold eraseE Hid; rw [Int.toNat_natCast, if_neg (by simp [HR.out]), hwk]; rfl
      have HM : Hid (eraseM M (b : Int) = givesM M b) := by unfold eraseM givesM Hid; rw [Int.toNat_natCast, if_neg (by simp [HR.out]), hwk]; rfl
      clear hx hub hwr hpn
      go_enter Try.func33, Try.ntmps33
      go_wp2_with (first
        | (go_at_call 83; refine (ready_ok cb b M _ h HR.out).mono ?_; rintro e w' ⟨rfl, rfl⟩)
        | (go_at_call 84; refine (gives_any cb b M _ hb3 h2).mono ?_; rw [hwk]; rintro e w2 ⟨rfl, hg1, hg2, _⟩))
      go_ret
      refine ⟨by rw [HE.out]; rfl, by rw [HM.out]; exact hg1, grow_trans (grow_alloc _ _ _) hg2⟩
    | false =>
      have hlt := CellsAt.lt (w := w) (cb := cb) (M := M) h.cells
      have HE : Hid (eraseE M (b : Int) = (if M.left = 0 then 9 else 0) ∧ eraseM M (b : Int) = (if M.left = 0 then { M with pend := some (.erase b) } else wipeM (tickM M) b [])) := by
        constructor
        · unfold eraseE; rw [Int.toNat_natCast, if_neg (by simp [HR.out]), hwk]; simp
        · unfold eraseM; rw [Int.toNat_natCast, if_neg (by simp [HR.out]), hwk]; simp
      have HS : Hid (Calls Try.prog 85 #[.pointer (some ⟨cb, 0, none⟩), .func (.func 91) #[] #[.pointer (some ⟨w.heap.size, 0, none⟩)], .func (.func 93) #[] #[.pointer (some ⟨w.heap.size, 0, none⟩)]] (w.alloc (.cells #[.pointer (some ⟨cb, b * 524, none⟩)] 139)) fun e w' =>
        e = .returned (errV (if M.left = 0 then 9 else 0)) ∧ ChipAt w' cb (if M.left = 0 then { M with pend := some (.erase b) } else wipeM (tickM M) b []) ∧ World.grownBy (w.alloc (.cells #[.pointer (some ⟨cb, b * 524, none⟩)] 139)) w' (some cb)) :=
        erase_step cb b w.heap.size M _ hb3 h2 hub hpn hwr (Blk.new _ _ _) (by omega)
      generalize (if M.left = 0 then (9 : Int) else 0) = E at *
      generalize (if M.left = 0 then { M with pend := some (.erase b) } else wipeM (tickM M) b []) = M2 at *
      clear hx hub hwr hpn
      go_enter Try.func33, Try.ntmps33
      go_wp2_with (first
        | (go_at_call 83; refine (ready_ok cb b M _ h HR.out).mono ?_; rintro e w' ⟨rfl, rfl⟩)
        | (go_at_call 84; refine (gives_any cb b M _ hb3 h2).mono ?_; rw [hwk]; rintro e w2 ⟨rfl, _, _, hw2⟩; obtain rfl := hw2 rfl)
        | (go_at_call 85; refine HS.out.mono ?_; rintro e w4 ⟨rfl, hc4, hg4⟩))
      go_ret
      refine ⟨by rw [HE.out.1]; rfl, by rw [HE.out.2]; exact hc4, grow_trans (grow_alloc _ _ _) hg4⟩
  · have HR : Hid (¬ readyE M b = 0) := hr
    have HE : Hid (eraseE M b = readyE M b) := by unfold eraseE Hid; rw [if_pos hr]
    have HM : Hid (eraseM M b = M) := by unfold eraseM Hid; rw [if_pos hr]
    clear hr
    go_enter Try.func33, Try.ntmps33
    go_wp2_with (go_at_call 83; refine (ready_no cb b M _ h HR.out).mono ?_; rintro e w' ⟨⟨n, rfl, hn⟩, rfl⟩; have HN : Hid (n = readyE M b) := hn; clear hn)
    go_ret
    refine ⟨?_, by rw [HM.out]; exact h, grow_refl _ _⟩
    rw [HE.out, HN.out]; unfold errV; rw [if_neg HR.out]; rfl

/-- What Read answers. -/
def readR (M : CM) (b p : Int) : List UInt8 × Int :=
  if downB M then ([], 9) else if 0 ≤ b ∧ b < 24 ∧ 0 ≤ p ∧ p < 8 then
    (match (M.pg b.toNat)[p.toNat]? with
      | none => ([], 5)
      | some (.whole d) => (d, 0)
      | some .torn => ([], 4))
  else ([], 1)
def txtL (l : List UInt8) : ByteArray := ⟨l.toArray⟩

set_option maxRecDepth 100000 in
set_option maxHeartbeats 2000000 in
theorem read_any (cb : Nat) (b p : Int) (M : CM) (w : World) (h : ChipAt w cb M) :
    Calls Try.prog 40 #[.pointer (some ⟨cb, 0, none⟩), .int .i64 b, .int .i64 p] w fun e w' => e = .returned (.tuple #[.string (txtL (readR M b p).1), errV (readR M b p).2]) ∧ w' = w := by
  cases hd : downB M with
  | true =>
    have HR : Hid (readR M b p = ([], 9)) := by unfold readR Hid; rw [hd]; rfl
    go_enter Try.func40, Try.ntmps40
    go_wp2_with (go_at_call 48; refine (down_any cb M _ h).mono ?_; rw [hd]; rintro e w' ⟨rfl, rfl⟩)
    go_ret2
    exact ⟨by rw [HR.out]; rfl, rfl⟩
  | false =>
    by_cases hb : 0 ≤ b ∧ b < 24
    · obtain ⟨hb1, hb2⟩ := hb
      by_cases hp : 0 ≤ p ∧ p < 8
      · obtain ⟨hp1, hp2⟩ := hp
        obtain ⟨b, rfl⟩ := Int.eq_ofNat_of_zero_le hb1
        obtain ⟨p, rfl⟩ := Int.eq_ofNat_of_zero_le hp1
        have hb3 : b < 24 := by omega
        have hp3 : p < 8 := by omega
        obtain ⟨⟨cs, fv, k1, k2, k3⟩, hok⟩ := id h
        have hst := (k2.blk b hb3).st p hp3
        have c0 := k1.cell (b * 524 + p * 65)
        rw [hst] at c0
        have hR0 : readR M (b : Int) (p : Int) = (match (M.pg b)[p]? with | none => ([], 5) | some (.whole d) => (d, 0) | some .torn => ([], 4)) := by
          unfold readR; rw [hd, if_neg (by simp), if_pos ⟨hb1, hb2, hp1, hp2⟩, Int.toNat_natCast, Int.toNat_natCast]
        unfold stOf at c0
        cases hpg : (M.pg b)[p]? with
        | none =>
          have HR : Hid (readR M (b : Int) (p : Int) = ([], 5)) := by unfold Hid; rw [hR0, hpg]
          rw [hpg] at c0
          simp only [stPg] at c0
          clear hR0 hpg hst k1 k2 k3 hok
          go_enter Try.func40, Try.ntmps40
          go_wp2_with (first
            | (go_at_call 48; refine (down_any cb M _ h).mono ?_; rw [hd]; rintro e w' ⟨rfl, rfl⟩)
            | (go_at_call 94; refine (there_yes _ _ hb1 hb2).mono ?_; rintro e w' ⟨rfl, rfl⟩))
          go_ret2
          exact ⟨by rw [HR.out]; rfl, rfl⟩
        | some q =>
          rw [hpg] at c0
          cases q with
          | torn =>
            have HR : Hid (readR M (b : Int) (p : Int) = ([], 4)) := by unfold Hid; rw [hR0, hpg]
            simp only [stPg] at c0
            clear hR0 hpg hst k1 k2 k3 hok
            go_enter Try.func40, Try.ntmps40
            go_wp2_with (first
              | (go_at_call 48; refine (down_any cb M _ h).mono ?_; rw [hd]; rintro e w' ⟨rfl, rfl⟩)
              | (go_at_call 94; refine (there_yes _ _ hb1 hb2).mono ?_; rintro e w' ⟨rfl, rfl⟩))
            go_ret2
            exact ⟨by rw [HR.out]; rfl, rfl⟩
          | whole d =>
            have HR : Hid (readR M (b : Int) (p : Int) = (d, 0)) := by unfold Hid; rw [hR0, hpg]
            have hd64 := (k2.blk b hb3).d64 p d hpg
            have hcv := run_convert_bytes_back (P := Try.prog) w 125 9 5 ⟨cb, b * 524 + p * 65 + 1, none⟩ 64 d Try.underlying125 Try.underlying5 Try.underlying9 (fun j hj => by
              rw [add_plain, k1.cell]
              exact (k2.blk b hb3).dat p d hp3 hpg j d[j] (by simp [hj]))
            rw [hd64] at hcv
            simp only [stPg] at c0
            clear hR0 hpg hst k1 k2 k3 hok
            go_enter Try.func40, Try.ntmps40
            go_wp2_with (first
              | (go_at_call 48; refine (down_any cb M _ h).mono ?_; rw [hd]; rintro e w' ⟨rfl, rfl⟩)
              | (go_at_call 94; refine (there_yes _ _ hb1 hb2).mono ?_; rintro e w' ⟨rfl, rfl⟩))
            go_ret2
            exact ⟨by rw [HR.out]; rfl, rfl⟩
      · have HR : Hid (readR M b p = ([], 1)) := by unfold readR Hid; rw [hd, if_neg (by simp), if_neg (by omega)]
        by_cases hp0 : p < 0
        · clear hp
          go_enter Try.func40, Try.ntmps40
          go_wp2_with (first
            | (go_at_call 48; refine (down_any cb M _ h).mono ?_; rw [hd]; rintro e w' ⟨rfl, rfl⟩)
            | (go_at_call 94; refine (there_yes _ _ hb1 hb2).mono ?_; rintro e w' ⟨rfl, rfl⟩))
          go_ret2
          exact ⟨by rw [HR.out]; rfl, rfl⟩
        · have hp8 : 8 ≤ p := by omega
          clear hp
          go_enter Try.func40, Try.ntmps40
          go_wp2_with (first
            | (go_at_call 48; refine (down_any cb M _ h).mono ?_; rw [hd]; rintro e w' ⟨rfl, rfl⟩)
            | (go_at_call 94; refine (there_yes _ _ hb1 hb2).mono ?_; rintro e w' ⟨rfl, rfl⟩))
          go_ret2
          exact ⟨by rw [HR.out]; rfl, rfl⟩
    · have HR : Hid (readR M b p = ([], 1)) := by unfold readR Hid; rw [hd, if_neg (by simp), if_neg (by omega)]
      have hb' : b < 0 ∨ 24 ≤ b := by omega
      clear hb
      go_enter Try.func40, Try.ntmps40
      go_wp2_with (first
        | (go_at_call 48; refine (down_any cb M _ h).mono ?_; rw [hd]; rintro e w' ⟨rfl, rfl⟩)
        | (go_at_call 94; refine (there_no _ _ hb').mono ?_; rintro e w' ⟨rfl, rfl⟩))
      go_ret2
      exact ⟨by rw [HR.out]; rfl, rfl⟩

end Go.Proofs.Ytpldeejagomfjaa
