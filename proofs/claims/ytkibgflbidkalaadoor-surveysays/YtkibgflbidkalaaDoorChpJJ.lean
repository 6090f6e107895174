/- ChpI ChpJ. -/
import Derived.Test.YtkibgflbidkalaaDoorChpHJ

/- Erase, Read, New. -/
namespace Go.Proofs.YtkibgflbidkalaaDoor
open Go.RowKit Go.WideShapes

def eraseE (M : CM) (b : Int) : Int := if ¬ readyE M b = 0 then readyE M b else if M.wk b.toNat then 7 else if M.left = 0 then 9 else 0
def eraseM (M : CM) (b : Int) : CM :=
  if ¬ readyE M b = 0 then M else if M.wk b.toNat then { M with bd := upd M.bd b.toNat true }
  else if M.left = 0 then { M with pend := some (.erase b.toNat) } else wipeM (tickM M) b.toNat []

set_option maxRecDepth 100000 in
set_option maxHeartbeats 2000000 in
/-- The last statement of Erase. -/
theorem erase_step (cb b kb : Nat) (M : CM) (w : World) (hb : b < 24) (h : ChipAt w cb M) (hub : M.left ≤ 9223372036854775807) (hpn : M.pend = none) (hwr : WrOk M)
    (hk : Blk w kb #[.pointer (some ⟨cb, b * 524, none⟩)] 102) (hkc : ¬ kb = cb) :
    Calls Tryd.prog 50 #[.pointer (some ⟨cb, 0, none⟩), .func (.func 66) #[] #[.pointer (some ⟨kb, 0, none⟩)], .func (.func 68) #[] #[.pointer (some ⟨kb, 0, none⟩)]] w fun e w' =>
      e = .returned (errV (if M.left = 0 then 9 else 0)) ∧ ChipAt w' cb (if M.left = 0 then { M with pend := some (.erase b) } else wipeM (tickM M) b []) ∧ w.grownBy w' (some cb) := by
  have hcl : CellsAt w cb M := h.cells
  by_cases h0 : M.left = 0
  · rw [if_pos h0, if_pos h0]
    refine (step_fall cb 66 68 _ _ M w hcl h0).mono ?_
    rintro e w' ⟨rfl, rfl⟩
    have hlt := hcl.lt
    have hx : Ext (w.setCell ⟨cb, 12577, none⟩ (fellV w.heap.size (w.heap.size + 1))) (((w.setCell ⟨cb, 12577, none⟩ (fellV w.heap.size (w.heap.size + 1))).alloc (.cells #[.func (.func 66) #[] #[.pointer (some ⟨kb, 0, none⟩)]] 1)).alloc (.cells #[.func (.func 68) #[] #[.pointer (some ⟨kb, 0, none⟩)]] 1)) := ((Ext.refl _).alloc _).alloc _
    have hsz : (w.setCell ⟨cb, 12577, none⟩ (fellV w.heap.size (w.heap.size + 1))).heap.size = w.heap.size := by simp [World.setCell]
    obtain ⟨cs, fv, k1, k2, k3⟩ := hcl
    refine ⟨rfl, ⟨⟨_, _, (k1.set 12577 _).ext hx, k2.setFell _ _, ?_⟩, ?_⟩, grow_trans (grow_set _ _ _ _) (grow_ext hx _)⟩
    · refine ⟨w.heap.size, w.heap.size + 1, kb, rfl, by omega, by omega, hkc, hb, ?_, ?_, (hk.other hkc _).ext hx⟩
      · exact (Blk.new' _ _ _ hsz.symm).alloc _
      · exact Blk.new' _ _ _ (by simp [hsz])
    · intro b' d' he
      cases he
  · rw [if_neg h0, if_neg h0]
    refine (step_go51 cb 68 _ _ M (wipeM (tickM M) b []) w hcl h0 hub (fun W hg hc => ?_)).mono ?_
    · exact erase1_any cb b kb (tickM M) W hb (by rw [tick_wr]; exact hwr b hb) hc (hk.grown hg hkc)
    · rintro e w' ⟨rfl, hc, hg⟩
      refine ⟨rfl, ⟨hc, fun b' d' he => ?_⟩, hg⟩
      simp only [wipeM, tick_pend, hpn] at he
      cases he

set_option maxRecDepth 100000 in
set_option maxHeartbeats 2000000 in
theorem erase_any (cb : Nat) (b : Int) (M : CM) (w : World) (h : ChipAt w cb M) (hub : M.left ≤ 9223372036854775807) (hwr : WrOk M) :
    Calls Tryd.prog 39 #[.pointer (some ⟨cb, 0, none⟩), .int .i64 b] w fun e w' => e = .returned (errV (eraseE M b)) ∧ ChipAt w' cb (eraseM M b) ∧ w.grownBy w' (some cb) := by
  by_cases hr : readyE M b = 0
  · obtain ⟨hpn, hb1, hb2⟩ := ready_zero hr
    obtain ⟨b, rfl⟩ := Int.eq_ofNat_of_zero_le hb1
    have hb3 : b < 24 := by omega
    have HR : Hid (readyE M (b : Int) = 0) := hr
    clear hr
    have hx : Ext w (w.alloc (.cells #[.pointer (some ⟨cb, b * 524, none⟩)] 102)) := (Ext.refl w).alloc _
    have h2 := h.ext hx
    cases hwk : M.wk b with
    | true =>
      have HE : Hid (eraseE M (b : Int) = 7) := by unfold eraseE Hid; rw [Int.toNat_natCast, if_neg (by simp [HR.out]), hwk]; rfl
      have HM : Hid (eraseM M (b : Int) = givesM M b) := by unfold eraseM givesM Hid; rw [Int.toNat_natCast, if_neg (by simp [HR.out]), hwk]; rfl
      clear hx hub hwr hpn
      go_enter Tryd.func39, Tryd.ntmps39
      go_wp2_with (first
        | (go_at_call 48; refine (ready_ok cb b M _ h HR.out).mono ?_; rintro e w' ⟨rfl, rfl⟩)
        | (go_at_call 49; refine (gives_any cb b M _ hb3 h2).mono ?_; rw [hwk]; rintro e w2 ⟨rfl, hg1, hg2, _⟩))
      go_ret
      refine ⟨by rw [HE.out]; rfl, by rw [HM.out]; exact hg1, grow_trans (grow_alloc _ _ _) hg2⟩
    | false =>
      have hlt := CellsAt.lt (w := w) (cb := cb) (M := M) h.cells
      have HE : Hid (eraseE M (b : Int) = (if M.left = 0 then 9 else 0) ∧ eraseM M (b : Int) = (if M.left = 0 then { M with pend := some (.erase b) } else wipeM (tickM M) b [])) := by
        constructor
        · unfold eraseE; rw [Int.toNat_natCast, if_neg (by simp [HR.out]), hwk]; simp
        · unfold eraseM; rw [Int.toNat_natCast, if_neg (by simp [HR.out]), hwk]; simp
      have HS : Hid (Calls Tryd.prog 50 #[.pointer (some ⟨cb, 0, none⟩), .func (.func 66) #[] #[.pointer (some ⟨w.heap.size, 0, none⟩)], .func (.func 68) #[] #[.pointer (some ⟨w.heap.size, 0, none⟩)]] (w.alloc (.cells #[.pointer (some ⟨cb, b * 524, none⟩)] 102)) fun e w' =>
        e = .returned (errV (if M.left = 0 then 9 else 0)) ∧ ChipAt w' cb (if M.left = 0 then { M with pend := some (.erase b) } else wipeM (tickM M) b []) ∧ World.grownBy (w.alloc (.cells #[.pointer (some ⟨cb, b * 524, none⟩)] 102)) w' (some cb)) :=
        erase_step cb b w.heap.size M _ hb3 h2 hub hpn hwr (Blk.new _ _ _) (by omega)
      generalize (if M.left = 0 then (9 : Int) else 0) = E at *
      generalize (if M.left = 0 then { M with pend := some (.erase b) } else wipeM (tickM M) b []) = M2 at *
      clear hx hub hwr hpn
      go_enter Tryd.func39, Tryd.ntmps39
      go_wp2_with (first
        | (go_at_call 48; refine (ready_ok cb b M _ h HR.out).mono ?_; rintro e w' ⟨rfl, rfl⟩)
        | (go_at_call 49; refine (gives_any cb b M _ hb3 h2).mono ?_; rw [hwk]; rintro e w2 ⟨rfl, _, _, hw2⟩; obtain rfl := hw2 rfl)
        | (go_at_call 50; refine HS.out.mono ?_; rintro e w4 ⟨rfl, hc4, hg4⟩))
      go_ret
      refine ⟨by rw [HE.out.1]; rfl, by rw [HE.out.2]; exact hc4, grow_trans (grow_alloc _ _ _) hg4⟩
  · have HR : Hid (¬ readyE M b = 0) := hr
    have HE : Hid (eraseE M b = readyE M b) := by unfold eraseE Hid; rw [if_pos hr]
    have HM : Hid (eraseM M b = M) := by unfold eraseM Hid; rw [if_pos hr]
    clear hr
    go_enter Tryd.func39, Tryd.ntmps39
    go_wp2_with (go_at_call 48; refine (ready_no cb b M _ h HR.out).mono ?_; rintro e w' ⟨⟨n, rfl, hn⟩, rfl⟩; have HN : Hid (n = readyE M b) := hn; clear hn)
    go_ret
    refine ⟨?_, by rw [HM.out]; exact h, grow_refl _ _⟩
    rw [HE.out, HN.out]; unfold errV; rw [if_neg HR.out]; rfl

/-- What Read answers. -/
def readR (M : CM) (b p : Int) : List UInt8 × Int :=
  if downB M then ([], 9) else if 0 ≤ b ∧ b < 24 ∧ 0 ≤ p ∧ p < 8 then
    (match (M.pg b.toNat)[p.toNat]? with
      | none => ([], 5)
      | some (.whole d) => (d, 0)
      | some .torn => ([], 4))
  else ([], 1)
def txtL (l : List UInt8) : ByteArray := ⟨l.toArray⟩

set_option maxRecDepth 100000 in
set_option maxHeartbeats 2000000 in
theorem read_any (cb : Nat) (b p : Int) (M : CM) (w : World) (h : ChipAt w cb M) :
    Calls Tryd.prog 69 #[.pointer (some ⟨cb, 0, none⟩), .int .i64 b, .int .i64 p] w fun e w' => e = .returned (.tuple #[.string (txtL (readR M b p).1), errV (readR M b p).2]) ∧ w' = w := by
  cases hd : downB M with
  | true =>
    have HR : Hid (readR M b p = ([], 9)) := by unfold readR Hid; rw [hd]; rfl
    go_enter Tryd.func69, Tryd.ntmps69
    go_wp2_with (go_at_call 28; refine (down_any cb M _ h).mono ?_; rw [hd]; rintro e w' ⟨rfl, rfl⟩)
    go_ret2
    exact ⟨by rw [HR.out]; rfl, rfl⟩
  | false =>
    by_cases hb : 0 ≤ b ∧ b < 24
    · obtain ⟨hb1, hb2⟩ := hb
      by_cases hp : 0 ≤ p ∧ p < 8
      · obtain ⟨hp1, hp2⟩ := hp
        obtain ⟨b, rfl⟩ := Int.eq_ofNat_of_zero_le hb1
        obtain ⟨p, rfl⟩ := Int.eq_ofNat_of_zero_le hp1
        have hb3 : b < 24 := by omega
        have hp3 : p < 8 := by omega
        obtain ⟨⟨cs, fv, k1, k2, k3⟩, hok⟩ := id h
        have hst := (k2.blk b hb3).st p hp3
        have c0 := k1.cell (b * 524 + p * 65)
        rw [hst] at c0
        have hR0 : readR M (b : Int) (p : Int) = (match (M.pg b)[p]? with | none => ([], 5) | some (.whole d) => (d, 0) | some .torn => ([], 4)) := by
          unfold readR; rw [hd, if_neg (by simp), if_pos ⟨hb1, hb2, hp1, hp2⟩, Int.toNat_natCast, Int.toNat_natCast]
        unfold stOf at c0
        cases hpg : (M.pg b)[p]? with
        | none =>
          have HR : Hid (readR M (b : Int) (p : Int) = ([], 5)) := by unfold Hid; rw [hR0, hpg]
          rw [hpg] at c0
          simp only [stPg] at c0
          clear hR0 hpg hst k1 k2 k3 hok
          go_enter Tryd.func69, Tryd.ntmps69
          go_wp2_with (first
            | (go_at_call 28; refine (down_any cb M _ h).mono ?_; rw [hd]; rintro e w' ⟨rfl, rfl⟩)
            | (go_at_call 36; refine (there_yes _ _ hb1 hb2).mono ?_; rintro e w' ⟨rfl, rfl⟩))
          go_ret2
          exact ⟨by rw [HR.out]; rfl, rfl⟩
        | some q =>
          rw [hpg] at c0
          cases q with
          | torn =>
            have HR : Hid (readR M (b : Int) (p : Int) = ([], 4)) := by unfold Hid; rw [hR0, hpg]
            simp only [stPg] at c0
            clear hR0 hpg hst k1 k2 k3 hok
            go_enter Tryd.func69, Tryd.ntmps69
            go_wp2_with (first
              | (go_at_call 28; refine (down_any cb M _ h).mono ?_; rw [hd]; rintro e w' ⟨rfl, rfl⟩)
              | (go_at_call 36; refine (there_yes _ _ hb1 hb2).mono ?_; rintro e w' ⟨rfl, rfl⟩))
            go_ret2
            exact ⟨by rw [HR.out]; rfl, rfl⟩
          | whole d =>
            have HR : Hid (readR M (b : Int) (p : Int) = (d, 0)) := by unfold Hid; rw [hR0, hpg]
            have hd64 := (k2.blk b hb3).d64 p d hpg
            have hcv := run_convert_bytes_back (P := Tryd.prog) w 100 9 5 ⟨cb, b * 524 + p * 65 + 1, none⟩ 64 d Tryd.underlying100 Tryd.underlying5 Tryd.underlying9 (fun j hj => by
              rw [add_plain, k1.cell]
              exact (k2.blk b hb3).dat p d hp3 hpg j d[j] (by simp [hj]))
            rw [hd64] at hcv
            simp only [stPg] at c0
            clear hR0 hpg hst k1 k2 k3 hok
            go_enter Tryd.func69, Tryd.ntmps69
            go_wp2_with (first
              | (go_at_call 28; refine (down_any cb M _ h).mono ?_; rw [hd]; rintro e w' ⟨rfl, rfl⟩)
              | (go_at_call 36; refine (there_yes _ _ hb1 hb2).mono ?_; rintro e w' ⟨rfl, rfl⟩))
            go_ret2
            exact ⟨by rw [HR.out]; rfl, rfl⟩
      · have HR : Hid (readR M b p = ([], 1)) := by unfold readR Hid; rw [hd, if_neg (by simp), if_neg (by omega)]
        by_cases hp0 : p < 0
        · clear hp
          go_enter Tryd.func69, Tryd.ntmps69
          go_wp2_with (first
            | (go_at_call 28; refine (down_any cb M _ h).mono ?_; rw [hd]; rintro e w' ⟨rfl, rfl⟩)
            | (go_at_call 36; refine (there_yes _ _ hb1 hb2).mono ?_; rintro e w' ⟨rfl, rfl⟩))
          go_ret2
          exact ⟨by rw [HR.out]; rfl, rfl⟩
        · have hp8 : 8 ≤ p := by omega
          clear hp
          go_enter Tryd.func69, Tryd.ntmps69
          go_wp2_with (first
            | (go_at_call 28; refine (down_any cb M _ h).mono ?_; rw [hd]; rintro e w' ⟨rfl, rfl⟩)
            | (go_at_call 36; refine (there_yes _ _ hb1 hb2).mono ?_; rintro e w' ⟨rfl, rfl⟩))
          go_ret2
          exact ⟨by rw [HR.out]; rfl, rfl⟩
    · have HR : Hid (readR M b p = ([], 1)) := by unfold readR Hid; rw [hd, if_neg (by simp), if_neg (by omega)]
      have hb' : b < 0 ∨ 24 ≤ b := by omega
      clear hb
      go_enter Tryd.func69, Tryd.ntmps69
      go_wp2_with (first
        | (go_at_call 28; refine (down_any cb M _ h).mono ?_; rw [hd]; rintro e w' ⟨rfl, rfl⟩)
        | (go_at_call 36; refine (there_no _ _ hb').mono ?_; rintro e w' ⟨rfl, rfl⟩))
      go_ret2
      exact ⟨by rw [HR.out]; rfl, rfl⟩

end Go.Proofs.YtkibgflbidkalaaDoor

/- A new chip. -/
namespace Go.Proofs.YtkibgflbidkalaaDoor
open Go.RowKit

def zPage : List Value := .int .i64 0 :: List.replicate 64 (.int .u8 0)
def zBlock : List Value := (List.replicate 8 zPage).flatten ++ [.int .i64 0, .int .i64 0, .bool false, .bool false]
def zChip : List Value := (List.replicate 24 zBlock).flatten ++ [.int .i64 0, .nilFunc]
def Z89 : Array Value := zChip.toArray
def N89 : Array Value := Z89.setIfInBounds 12576 (.int .i64 (-1))
set_option maxRecDepth 1000000 in
theorem zero89 (w : World) : (zeroValue 84).run Tryd.prog w = .ok (.agg Z89) w := by kernel_rfl

theorem flat_len (n : Nat) (l : List Value) : (List.replicate n l).flatten.length = n * l.length := by simp
theorem flat_get (l : List Value) : ∀ (n b r : Nat), b < n → r < l.length → (List.replicate n l).flatten[b * l.length + r]? = l[r]?
  | 0, b, r, h, _ => absurd h (Nat.not_lt_zero _)
  | n + 1, 0, r, _, hr => by
    rw [List.replicate_succ, List.flatten_cons, Nat.zero_mul, Nat.zero_add, List.getElem?_append_left hr]
  | n + 1, b + 1, r, h, hr => by
    rw [List.replicate_succ, List.flatten_cons, List.getElem?_append_right (by rw [Nat.succ_mul]; omega), show (b + 1) * l.length + r - l.length = b * l.length + r by rw [Nat.succ_mul]; omega]
    exact flat_get l n b r (by omega) hr
theorem zPage_len : zPage.length = 65 := by simp [zPage]
theorem zBlock_len : zBlock.length = 524 := by
  unfold zBlock; rw [List.length_append, flat_len, zPage_len]; rfl
theorem zChip_len : zChip.length = 12578 := by
  unfold zChip; rw [List.length_append, flat_len, zBlock_len]; rfl
theorem zChip_get (b r : Nat) (hb : b < 24) (hr : r < 524) : zChip[b * 524 + r]? = zBlock[r]? := by
  unfold zChip
  rw [List.getElem?_append_left (by rw [flat_len, zBlock_len]; omega)]
  have := flat_get zBlock 24 b r hb (by rw [zBlock_len]; exact hr)
  rwa [zBlock_len] at this
theorem zBlock_page (p j : Nat) (hp : p < 8) (hj : j < 65) : zBlock[p * 65 + j]? = zPage[j]? := by
  unfold zBlock
  rw [List.getElem?_append_left (by rw [flat_len, zPage_len]; omega)]
  have := flat_get zPage 8 p j hp (by rw [zPage_len]; exact hj)
  rwa [zPage_len] at this
theorem zBlock_tail (j : Nat) : zBlock[520 + j]? = [Value.int .i64 0, .int .i64 0, .bool false, .bool false][j]? := by
  unfold zBlock
  rw [List.getElem?_append_right (by rw [flat_len, zPage_len]; omega), flat_len, zPage_len, show 520 + j - 8 * 65 = j by omega]
theorem zChip_tail (j : Nat) : zChip[12576 + j]? = [Value.int .i64 0, .nilFunc][j]? := by
  unfold zChip
  rw [List.getElem?_append_right (by rw [flat_len, zBlock_len]; omega), flat_len, zBlock_len, show 12576 + j - 24 * 524 = j by omega]

def newM : CM := { pg := fun _ => [], wr := fun _ => 0, wk := fun _ => false, bd := fun _ => false, left := -1, pend := none }
theorem N89_get (i : Nat) (h : ¬ i = 12576) : N89[i]? = zChip[i]? := by
  unfold N89 Z89
  rw [Array.getElem?_setIfInBounds_ne (by omega)]; simp
theorem N89_size : N89.size = 12578 := by unfold N89 Z89; rw [Array.size_setIfInBounds, List.size_toArray, zChip_len]
set_option maxRecDepth 10000 in
theorem newRep : Rep N89 newM .nilFunc := by
  refine ⟨N89_size, fun b hb => ?_, ?_, ?_⟩
  · refine ⟨fun p hp => ?_, fun p d _ hd => ?_, ?_, ?_, ?_, ?_, by simp [newM], fun p d hd => ?_⟩
    · rw [N89_get _ (by omega), zChip_get b (p * 65) hb (by omega)]
      have := zBlock_page p 0 hp (by omega)
      rw [Nat.add_zero] at this
      rw [this]; rfl
    · simp [newM] at hd
    · rw [N89_get _ (by omega), zChip_get b 520 hb (by omega)]; exact zBlock_tail 0
    · rw [N89_get _ (by omega), zChip_get b 521 hb (by omega)]; exact zBlock_tail 1
    · rw [N89_get _ (by omega), zChip_get b 522 hb (by omega)]; exact zBlock_tail 2
    · rw [N89_get _ (by omega), zChip_get b 523 hb (by omega)]; exact zBlock_tail 3
    · simp [newM] at hd
  · have hz : Z89.size = 12578 := by unfold Z89; rw [List.size_toArray, zChip_len]
    unfold N89
    rw [Array.getElem?_setIfInBounds_self_of_lt (by omega)]; rfl
  · rw [N89_get _ (by omega)]; exact zChip_tail 1

theorem Z89_ne : (Z89 = #[]) = False := by
  simp only [eq_iff_iff, iff_false]
  intro h
  have : Z89.size = 12578 := by unfold Z89; rw [List.size_toArray, zChip_len]
  rw [h] at this; simp at this
theorem Z89_set : Z89.setIfInBounds 12576 (.int .i64 (-1)) = N89 := rfl

set_option maxRecDepth 100000 in
set_option maxHeartbeats 1000000 in
theorem new_any (w : World) : Calls Tryd.prog 17 #[] w fun e w' => e = .returned (.pointer (some ⟨w.heap.size, 0, none⟩)) ∧ ChipAt w' w.heap.size newM ∧ Ext w w' ∧ w'.heap.size = w.heap.size + 1 := by
  have z0 := zero89
  have z1 := Z89_ne
  have z2 := Z89_set
  go_enter Tryd.func17, Tryd.ntmps17
  go_wp2
  go_ret
  refine ⟨rfl, ⟨⟨N89, .nilFunc, Blk.new _ _ _, newRep, rfl⟩, fun b d e => by cases e⟩, (Ext.refl _).alloc _, by simp⟩

end Go.Proofs.YtkibgflbidkalaaDoor
