/- TabS TabU. -/
import Derived.Test.YtjeinblcpejpnaaTabP
import Derived.Test.YtjeinblcpejpnaaRefL
/- TableSays. -/
namespace Go.Proofs.Ytjeinblcpejpnaa
open Go.RowKit Go.WideShapes
attribute [local go_sem ↓] Go.wp_at_zero Go.wp_at_succ

theorem goA_len (M : CM) (b : Int) : ∀ (r : Nat) (acc : List Ent), (goA M b acc r).1.length ≤ acc.length + 255 * r
  | 0, acc => by unfold goA; split <;> simp
  | r + 1, acc => by
    rw [goA_succ]
    split
    · have := goA_len M b r acc; omega
    · split
      · simp
      · have := goA_len M b r (acc ++ (pageE M b ((8 - (r + 1) : Nat) : Int)).1)
        have := pageE_len M b ((8 - (r + 1) : Nat) : Int)
        simp at *; omega
theorem allR_len (M : CM) (b : Int) : (allR M b).1.length ≤ 2000 := by
  unfold allR
  split
  · simp
  · have := goA_len M b 7 []; simp at this; omega
theorem pageE_nn (M : CM) (b p : Int) : 0 ≤ (pageE M b p).2 := by
  rcases pageE_cases M b p with ⟨_, h⟩ | ⟨_, h⟩
  · rw [h]; exact readR_nn M b p
  · rw [h]; rcases entsT_err (txtL (readR M b p).1) with h | h <;> omega
theorem goA_nn (M : CM) (b : Int) : ∀ (r : Nat) (acc : List Ent), 0 ≤ (goA M b acc r).2
  | 0, acc => by unfold goA; split <;> simp
  | r + 1, acc => by
    rw [goA_succ]
    split
    · exact goA_nn M b r acc
    · split
      · exact pageE_nn M b _
      · exact goA_nn M b r _
theorem allR_nn (M : CM) (b : Int) : 0 ≤ (allR M b).2 := by
  unfold allR
  split
  · unfold headR
    split
    · exact readR_nn M b 0
    · split <;> simp
  · exact goA_nn M b 7 []
/-- What Write answers on a chip without a fall. -/
theorem writeT_err {M : CM} {b : Nat} {es : List Ent} {k : Nat} (h : Bnd M k) (hb : b < 24) : (writeT M (b : Int) es).2 = if ¬ tabF es = 0 then tabF es else if M.bd b = true ∨ M.wk b = true then 7 else 0 := by
  by_cases hz : tabF es = 0
  · rw [if_neg (by simp [hz])]
    cases hbd : M.bd b with
    | true =>
      have : eraseE M (b : Int) = 7 := by
        unfold eraseE readyE downB
        simp [h.pend, hbd]; omega
      unfold writeT
      rw [if_neg (by simp [hz]), if_pos (by rw [this]; decide), this, if_pos (by simp)]
    | false =>
      cases hwk : M.wk b with
      | true =>
        have : eraseE M (b : Int) = 7 := by
          have hr : readyE M (b : Int) = 0 := by
            unfold readyE downB
            rw [h.pend, if_neg (by simp), if_pos ⟨by omega, by omega⟩]
            simp [hbd]
          unfold eraseE
          simp [hr, hwk]
        unfold writeT
        rw [if_neg (by simp [hz]), if_pos (by rw [this]; decide), this, if_pos (by simp)]
      | false =>
        rw [if_neg (by simp)]
        exact (writeT_fine ⟨h.pend, hbd, hwk, h.left⟩ hb hz).1
  · rw [if_pos hz]
    unfold writeT
    rw [if_pos hz]
end Go.Proofs.Ytjeinblcpejpnaa
/- TableSays: the walk. -/
namespace Go.Proofs.Ytjeinblcpejpnaa
open Go.RowKit Go.WideShapes
attribute [local go_sem ↓] Go.wp_at_zero Go.wp_at_succ

theorem ents_far {w : World} {ao : Option Addr} {es : List Ent} (h : EntsAt w ao es) (hne : es ≠ []) {cb : Nat} (hc : w.heap.size ≤ cb) : ∀ a, ao = some a → ¬ a.block = cb := fun a ha e => by
  obtain ⟨b, off, rfl, hh⟩ := h hne
  cases ha
  obtain ⟨x, xs, rfl⟩ := List.exists_cons_of_ne_nil hne
  have h1 := (hh 0 x rfl).1
  have : b < w.heap.size := by
    rcases Nat.lt_or_ge b w.heap.size with h' | h'
    · exact h'
    · simp [World.cell?, Array.getElem?_eq_none h'] at h1
  have e' : b = cb := e
  omega
theorem RefAt.wk {w : World} {rb : Nat} {M : CM} (h : RefAt w rb M) {b : Nat} (hb : b < 24) : w.cell? ⟨rb, 48 + b, none⟩ = some (.bool (M.wk b)) := by
  obtain ⟨rc, data, h1, h2, h3⟩ := h.cells
  rw [h1.cell, h2.cwk b hb]
set_option maxRecDepth 100000 in
set_option maxHeartbeats 8000000 in
theorem tableSays_any (ao so : Option Addr) (cap sc : Nat) (es : List Ent) (acs : List ActE) (b : Int) (key : ByteArray) (w : World) (hl : es.length ≤ 9223372036854775807) (hcap : es.length ≤ cap) (hla : acs.length ≤ 9223372036854775807) (hks : key.size ≤ 9223372036854775807)
    (hes : EntsAt w ao es) (has : ActsAt w so acs) :
    Calls Try.prog 10 #[.slice ao es.length cap, .slice so acs.length sc, .int .i64 b, .string key] w fun e w' => e = .returned (.bool true) ∧ Ext w w' := by
  have HLE : Hid (∀ W, Ext w W → Calls Try.prog 15 #[.slice ao es.length cap, .int .i64 20] W fun e w' => e = .returned (.bool (light es 20)) ∧ Ext W w') := fun W hx => (light_any ao cap es 20 W (by decide) hl (hes.ext hx)).mono fun e w' ⟨h1, h2⟩ => ⟨h1, by rw [h2]; exact Ext.refl _⟩
  have HLA : Hid (∀ W, Ext w W → Calls Try.prog 25 #[.slice so acs.length sc, .int .i64 40] W fun e w' => e = .returned (.bool (lightActs acs 40)) ∧ Ext W w') := fun W hx => (lightActs_any so sc acs 40 W (by decide) hla (has.ext hx)).mono fun e w' ⟨h1, h2⟩ => ⟨h1, by rw [h2]; exact Ext.refl _⟩
  have early : ∀ (p q : Bool), light es 20 = p → lightActs acs 40 = q → (p = false ∨ q = false ∨ b < 0 ∨ 23 < b ∨ 20 < key.size) → Calls Try.prog 10 #[.slice ao es.length cap, .slice so acs.length sc, .int .i64 b, .string key] w fun e w' => e = .returned (.bool true) ∧ Ext w w' := by
    intro p q hp hq hor
    rw [hp] at HLE
    rw [hq] at HLA
    clear hp hq hes has
    cases p with
    | false =>
      go_enter Try.func10, Try.ntmps10
      go_wp2_with (first
        | (go_at_call 59; refine (tables_any _).mono ?_; rintro e w1 ⟨rfl, hx1⟩)
        | (go_at_call 15; refine (HLE.out _ hx1).mono ?_; rintro e w2 ⟨rfl, hx2⟩))
      go_ret
      exact ⟨rfl, hx1.trans hx2⟩
    | true =>
      cases q with
      | false =>
        go_enter Try.func10, Try.ntmps10
        go_wp2_with (first
          | (go_at_call 59; refine (tables_any _).mono ?_; rintro e w1 ⟨rfl, hx1⟩)
          | (go_at_call 15; refine (HLE.out _ hx1).mono ?_; rintro e w2 ⟨rfl, hx2⟩)
          | (go_at_call 25; refine (HLA.out _ (hx1.trans hx2)).mono ?_; rintro e w3 ⟨rfl, hx3⟩))
        go_ret
        exact ⟨rfl, (hx1.trans hx2).trans hx3⟩
      | true =>
        have hor' : b < 0 ∨ (0 ≤ b ∧ 23 < b) ∨ (0 ≤ b ∧ b ≤ 23 ∧ 20 < key.size) := by
          rcases hor with h | h | h
          · cases h
          · cases h
          · omega
        clear hor
        rcases hor' with h1 | ⟨h1, h2⟩ | ⟨h1, h2, h3⟩
        all_goals
          go_enter Try.func10, Try.ntmps10
          go_wp2_with (first
            | (go_at_call 59; refine (tables_any _).mono ?_; rintro e w1 ⟨rfl, hx1⟩)
            | (go_at_call 15; refine (HLE.out _ hx1).mono ?_; rintro e w2 ⟨rfl, hx2⟩)
            | (go_at_call 25; refine (HLA.out _ (hx1.trans hx2)).mono ?_; rintro e w3 ⟨rfl, hx3⟩))
          go_ret
          exact ⟨rfl, (hx1.trans hx2).trans hx3⟩
  cases hp : light es 20 with
  | false => exact early _ _ hp rfl (.inl rfl)
  | true =>
    cases hq : lightActs acs 40 with
    | false => exact early _ _ hp hq (.inr (.inl rfl))
    | true =>
      by_cases hor : b < 0 ∨ 23 < b ∨ 20 < key.size
      · exact early _ _ hp hq (.inr (.inr hor))
      · clear early
        rw [hp] at HLE
        rw [hq] at HLA
        have hb0 : 0 ≤ b := by omega
        have hb23 : b ≤ 23 := by omega
        have hk20 : key.size ≤ 20 := by omega
        obtain ⟨b, rfl⟩ := Int.eq_ofNat_of_zero_le hb0
        have hb24 : b < 24 := by omega
        have hl20 : es.length ≤ 20 := by unfold light at hp; simp at hp; exact hp.1
        have hl40 : acs.length ≤ 40 := by unfold lightActs at hq; simp at hq; exact hq.1
        have HWR : Hid (∀ W, Ext w W → Calls Try.prog 60 #[.slice so acs.length sc] W fun e w' => ∃ cb rb M, e = .returned (.tuple #[.pointer (some ⟨cb, 0, none⟩), .pointer (some ⟨rb, 0, none⟩)]) ∧ ChipAt w' cb M ∧ RefAt w' rb M ∧ Bnd M 1000 ∧ Ext W w' ∧ W.heap.size ≤ cb ∧ W.heap.size ≤ rb) := fun W hx => written_any so sc acs W (by omega) (has.ext hx)
        clear hp hq hor
        go_enter Try.func10, Try.ntmps10
        go_wp2_with (first
          | (go_at_call 59; refine (tables_any _).mono ?_; rintro e w1 ⟨rfl, hx1⟩)
          | (go_at_call 15; refine (HLE.out _ hx1).mono ?_; rintro e w2 ⟨rfl, hx2⟩)
          | (go_at_call 25; refine (HLA.out _ (hx1.trans hx2)).mono ?_; rintro e w3 ⟨rfl, hx3⟩)
          | (go_at_call 60; refine (HWR.out _ ((hx1.trans hx2).trans hx3)).mono ?_; rintro e w4 ⟨cb, rb, M, rfl, hc4, hr4, hbd, hx4, hcb, hrb⟩))
        have hxw3 : Ext w w3 := (hx1.trans hx2).trans hx3
        have hxw4 : Ext w w4 := hxw3.trans hx4
        have hcw : w.heap.size ≤ cb := Nat.le_trans hxw3.size hcb
        have hrw : w.heap.size ≤ rb := Nat.le_trans hxw3.size hrb
        clear hx1 hx2 hx3 hx4 hcb hrb HLE HLA HWR hxw3 has
        have HAL : Hid (Calls Try.prog 61 #[.pointer (some ⟨cb, 0, none⟩), .int .i64 (b : Int)] w4 fun e w' => ∃ oo c, e = .returned (.tuple #[.slice oo (allR M (b : Int)).1.length c, errV (allR M (b : Int)).2]) ∧ EntsAt w' oo (allR M (b : Int)).1 ∧ Ext w4 w') := tabAll_any cb (b : Int) M w4 hc4
        have HIN : Hid (∀ W, Ext w4 W → Calls Try.prog 62 #[.pointer (some ⟨rb, 0, none⟩), .int .i64 (b : Int)] W fun e w' => ∃ oo c, e = .returned (.tuple #[.slice oo (allR M (b : Int)).1.length c, .int .i64 (allR M (b : Int)).2]) ∧ EntsAt w' oo (allR M (b : Int)).1 ∧ Ext W w') := fun W hx => refIn_any rb cb (b : Int) M W (hr4.ext hx) (hc4.ext hx)
        have hal := allR_len M (b : Int)
        have han := allR_nn M (b : Int)
        have HSE : Hid (∀ W, Calls Try.prog 16 #[errV (allR M (b : Int)).2, .int .i64 (allR M (b : Int)).2] W fun e w' => e = .returned (.bool true) ∧ w' = W) := fun W => same_errV _ W han
        have HTF : Hid (∀ W, Ext w W → Calls Try.prog 63 #[.slice ao es.length cap] W fun e w' => e = .returned (.int .i64 (tabF es)) ∧ Ext W w') := fun W hx => refTab_any ao cap es W hl (hes.ext hx)
        have HTC : Hid (∀ W, Ext w W → Calls Try.prog 64 #[.slice ao es.length cap] W fun e w' => e = .returned (errV (tabF es)) ∧ Ext W w') := fun W hx => tabCheck_any ao cap es W hl (hes.ext hx)
        have htn : 0 ≤ tabF es := by
          by_cases h : tabF es = 0
          · omega
          · have := tabF_pos h; omega
        have HSF : Hid (∀ W, Calls Try.prog 16 #[errV (tabF es), .int .i64 (tabF es)] W fun e w' => e = .returned (.bool true) ∧ w' = W) := fun W => same_errV _ W htn
        have HSM : Hid (∀ W x y xc yc, EntsAt W x (allR M (b : Int)).1 → EntsAt W y (allR M (b : Int)).1 → Calls Try.prog 23 #[.slice x (allR M (b : Int)).1.length xc, .slice y (allR M (b : Int)).1.length yc] W fun e w' => e = .returned (.bool true) ∧ Ext W w') := fun W x y xc yc h1 h2 => same_ret' W x y xc yc _ (by omega) h1 h2
        generalize errV (allR M (b : Int)).2 = ev at *
        generalize (allR M (b : Int)).2 = fv at *
        generalize hLL : (allR M (b : Int)).1 = L at *
        obtain ⟨tv, htv⟩ : ∃ tv, errV (tabF es) = tv := ⟨_, rfl⟩
        rw [htv] at HTC HSF
        clear hLL hal han
        have t1 : True := trivial
        have t2 : True := trivial
        go_upto_region 12 with (first
          | (go_at_call 61; have _t := t1; refine HAL.out.mono ?_; rintro e w5 ⟨oo, c5, rfl, hE5, hx5⟩; clear t1)
          | (go_at_call 62; refine (HIN.out _ hx5).mono ?_; rintro e w6 ⟨oi, c6, rfl, hE6, hx6⟩)
          | (go_at_call 23; refine (HSM.out _ oo oi c5 c6 (hE5.ext hx6) hE6).mono ?_; rintro e w7 ⟨rfl, hx7⟩)
          | (go_at_call 16; have _t := t2; refine (HSE.out _).mono ?_; rintro e w8 ⟨rfl, rfl⟩; clear t2)
          | (go_at_call 63; refine (HTF.out _ (((hxw4.trans hx5).trans hx6).trans hx7)).mono ?_; rintro e w9 ⟨rfl, hx9⟩)
          | (go_at_call 64; refine (HTC.out _ ((((hxw4.trans hx5).trans hx6).trans hx7).trans hx9)).mono ?_; rintro e w10 ⟨rfl, hx10⟩)
          | (go_at_call 16; refine (HSF.out _).mono ?_; rintro e w11 ⟨rfl, rfl⟩))
        have hxw10 : Ext w w11 := ((((hxw4.trans hx5).trans hx6).trans hx7).trans hx9).trans hx10
        have hx410 : Ext w4 w11 := (((hx5.trans hx6).trans hx7).trans hx9).trans hx10
        have hc10 := hc4.ext hx410
        have hr10 := hr4.ext hx410
        have cbd := (hr10.cells4 hb24).1
        have cwk := hr10.wk hb24
        clear HAL HIN HSE HTF HTC HSF HSM hE5 hE6 hx5 hx6 hx7 hx9 hx10 hx410 hc4 hr4 htv
        have hWE := writeT_err (es := es) hbd hb24
        obtain ⟨hub, hwr⟩ := hbd.ok (by omega)
        have HWT := tabWrite_any cb (b : Int) ao cap es M w11 hc10 hub hwr (by omega) hcap (hes.ext hxw10) (fun hz => ents_far hes (by intro e; subst e; simp [tabF] at hz) hcw)
        unfold WrEnd at HWT
        by_cases hz : tabF es = 0
        · cases hB : M.bd b with
          | true =>
            rw [hB] at cbd
            rw [if_neg (by simp [hz]), if_pos (.inl hB)] at hWE
            rw [hWE] at HWT
            have HW7 : Hid (Calls Try.prog 65 #[.pointer (some ⟨cb, 0, none⟩), .int .i64 (b : Int), .slice ao es.length cap] w11 fun e w' => e = .returned (.iface 128 (.int .i64 7)) ∧ w11.grownBy w' (some cb)) := HWT.mono fun e w' ⟨h1, _, h3⟩ => ⟨h1, h3⟩
            rw [hz]
            clear HWT hWE hB hz hes hc10 hr10
            go_wp2_with (first
              | (go_at_call 65; refine HW7.out.mono ?_; rintro e w12 ⟨rfl, hg12⟩)
              | (go_at_call 16; refine (same_no 7 _ (by decide)).mono ?_; rintro e w13 ⟨rfl, rfl⟩))
            go_ret
            exact ⟨rfl, hxw10.grownC hg12 hcw⟩
          | false =>
            rw [hB] at cbd
            cases hK : M.wk b with
            | true =>
              rw [hK] at cwk
              rw [if_neg (by simp [hz]), if_pos (.inr hK)] at hWE
              rw [hWE] at HWT
              have HW7 : Hid (Calls Try.prog 65 #[.pointer (some ⟨cb, 0, none⟩), .int .i64 (b : Int), .slice ao es.length cap] w11 fun e w' => e = .returned (.iface 128 (.int .i64 7)) ∧ w11.grownBy w' (some cb)) := HWT.mono fun e w' ⟨h1, _, h3⟩ => ⟨h1, h3⟩
              rw [hz]
              clear HWT hWE hB hK hz hes hc10 hr10
              go_wp2_with (first
                | (go_at_call 65; refine HW7.out.mono ?_; rintro e w12 ⟨rfl, hg12⟩)
                | (go_at_call 16; refine (same_no 7 _ (by decide)).mono ?_; rintro e w13 ⟨rfl, rfl⟩))
              go_ret
              exact ⟨rfl, hxw10.grownC hg12 hcw⟩
            | false =>
              rw [hK] at cwk
              obtain ⟨e1, hT, hF, -⟩ := writeT_fine (M := M) (b := b) (es := es) ⟨hbd.pend, hB, hK, hbd.left⟩ hb24 hz
              rw [e1] at HWT
              have hpn := hF.pend
              generalize (writeT M (b : Int) es).1 = M2 at *
              have HW0 : Hid (Calls Try.prog 65 #[.pointer (some ⟨cb, 0, none⟩), .int .i64 (b : Int), .slice ao es.length cap] w11 fun e w' => e = .returned .nilIface ∧ ChipAt w' cb M2 ∧ w11.grownBy w' (some cb)) := HWT
              have HA2 : Hid (∀ W, ChipAt W cb M2 → Calls Try.prog 61 #[.pointer (some ⟨cb, 0, none⟩), .int .i64 (b : Int)] W fun e w' => ∃ oo c, e = .returned (.tuple #[.slice oo es.length c, .nilIface]) ∧ EntsAt w' oo es ∧ Ext W w') := fun W hc => by
                have := tabAll_any cb b M2 W hc
                unfold AllEnd at this
                rw [hT.all hpn] at this
                exact this
              have HS2 : Hid (∀ W o2 c2, Ext w W → EntsAt W o2 es → Calls Try.prog 23 #[.slice o2 es.length c2, .slice ao es.length cap] W fun e w' => e = .returned (.bool true) ∧ Ext W w') := fun W o2 c2 hx ho => same_ret' W o2 ao c2 cap es hl ho (hes.ext hx)
              rw [hz]
              cases hgk : getE es key with
              | none =>
                have HG9 : Hid (∀ W, ChipAt W cb M2 → Calls Try.prog 66 #[.pointer (some ⟨cb, 0, none⟩), .int .i64 (b : Int), .string key] W fun e w' => e = .returned (.tuple #[.agg #[.string ⟨#[]⟩, .string ⟨#[]⟩, .bool false], .bool false, .nilIface]) ∧ Ext W w') := fun W hc => by
                  have := tabGet_any cb b es key M2 W hc hpn hT (by omega)
                  rw [hgk] at this
                  exact this
                have HR9 : Hid (∀ W, Ext w W → Calls Try.prog 51 #[.slice ao es.length cap, .string key] W fun e w' => e = .returned (.tuple #[.agg #[.string ⟨#[]⟩, .string ⟨#[]⟩, .bool false], .bool false]) ∧ Ext W w') := fun W hx => by
                  have := refGet_any ao cap es key W hl (hes.ext hx)
                  rw [hgk] at this
                  exact this
                clear HWT hWE hB hK hz hes hc10 hr10 hgk hT hF hpn e1
                go_wp2_with (first
                  | (go_at_call 65; refine HW0.out.mono ?_; rintro e w12 ⟨rfl, hc12, hg12⟩; have hxw12 : Ext w w12 := hxw10.grownC hg12 hcw)
                  | (go_at_call 61; refine (HA2.out _ hc12).mono ?_; rintro e w14 ⟨o2, c2, rfl, hE14, hx14⟩)
                  | (go_at_call 66; refine (HG9.out _ (hc12.ext hx14)).mono ?_; rintro e w15 ⟨rfl, hx15⟩)
                  | (go_at_call 51; refine (HR9.out _ (((hxw12.trans hx14).trans hx15).alloc _)).mono ?_; rintro e w16 ⟨rfl, hx16⟩; have D17 := (Blk.new w15 #[.string ⟨#[]⟩, .string ⟨#[]⟩, .bool false] 30).ext hx16; have hE16 := ((hE14.ext hx15).ext ((Ext.refl w15).alloc (.cells #[.string ⟨#[]⟩, .string ⟨#[]⟩, .bool false] 30))).ext hx16; have hxw16 := (((hxw12.trans hx14).trans hx15).alloc (.cells #[.string ⟨#[]⟩, .string ⟨#[]⟩, .bool false] 30)).trans hx16)
                  | (go_at_call 23; refine (HS2.out _ o2 c2 (hxw16.alloc _) (hE16.ext ((Ext.refl w16).alloc _))).mono ?_; rintro e w17 ⟨rfl, hx17⟩; have D19 := (D17.alloc (.cells #[.string ⟨#[]⟩, .string ⟨#[]⟩, .bool false] 30)).ext hx17; have D22 := (Blk.new w16 #[.string ⟨#[]⟩, .string ⟨#[]⟩, .bool false] 30).ext hx17; have d0 : w17.cell? ⟨w15.heap.size, 0, none⟩ = some (.string ⟨#[]⟩) := D19.cell 0; have d1 : w17.cell? ⟨w15.heap.size, 1, none⟩ = some (.string ⟨#[]⟩) := D19.cell 1; have d2 : w17.cell? ⟨w15.heap.size, 2, none⟩ = some (.bool false) := D19.cell 2; have d3 : w17.cell? ⟨w16.heap.size, 0, none⟩ = some (.string ⟨#[]⟩) := D22.cell 0; have d4 : w17.cell? ⟨w16.heap.size, 1, none⟩ = some (.string ⟨#[]⟩) := D22.cell 1; have d5 : w17.cell? ⟨w16.heap.size, 2, none⟩ = some (.bool false) := D22.cell 2)
                  | (go_at_call 16; refine (same_zero _).mono ?_; rintro e w13 ⟨rfl, rfl⟩))
                go_ret
                exact ⟨rfl, (hxw16.alloc _).trans hx17⟩
              | some e0 =>
                obtain ⟨ek, ev', eg⟩ := e0
                have HG9 : Hid (∀ W, ChipAt W cb M2 → Calls Try.prog 66 #[.pointer (some ⟨cb, 0, none⟩), .int .i64 (b : Int), .string key] W fun e w' => e = .returned (.tuple #[.agg #[.string ek, .string ev', .bool eg], .bool true, .nilIface]) ∧ Ext W w') := fun W hc => by
                  have := tabGet_any cb b es key M2 W hc hpn hT (by omega)
                  rw [hgk] at this
                  exact this
                have HR9 : Hid (∀ W, Ext w W → Calls Try.prog 51 #[.slice ao es.length cap, .string key] W fun e w' => e = .returned (.tuple #[.agg #[.string ek, .string ev', .bool eg], .bool true]) ∧ Ext W w') := fun W hx => by
                  have := refGet_any ao cap es key W hl (hes.ext hx)
                  rw [hgk] at this
                  exact this
                clear HWT hWE hB hK hz hes hc10 hr10 hgk hT hF hpn e1
                go_wp2_with (first
                  | (go_at_call 65; refine HW0.out.mono ?_; rintro e w12 ⟨rfl, hc12, hg12⟩; have hxw12 : Ext w w12 := hxw10.grownC hg12 hcw)
                  | (go_at_call 61; refine (HA2.out _ hc12).mono ?_; rintro e w14 ⟨o2, c2, rfl, hE14, hx14⟩)
                  | (go_at_call 66; refine (HG9.out _ (hc12.ext hx14)).mono ?_; rintro e w15 ⟨rfl, hx15⟩)
                  | (go_at_call 51; refine (HR9.out _ (((hxw12.trans hx14).trans hx15).alloc _)).mono ?_; rintro e w16 ⟨rfl, hx16⟩; have D17 := (Blk.new w15 #[.string ek, .string ev', .bool eg] 30).ext hx16; have hE16 := ((hE14.ext hx15).ext ((Ext.refl w15).alloc (.cells #[.string ek, .string ev', .bool eg] 30))).ext hx16; have hxw16 := (((hxw12.trans hx14).trans hx15).alloc (.cells #[.string ek, .string ev', .bool eg] 30)).trans hx16)
                  | (go_at_call 23; refine (HS2.out _ o2 c2 (hxw16.alloc _) (hE16.ext ((Ext.refl w16).alloc _))).mono ?_; rintro e w17 ⟨rfl, hx17⟩; have D19 := (D17.alloc (.cells #[.string ek, .string ev', .bool eg] 30)).ext hx17; have D22 := (Blk.new w16 #[.string ek, .string ev', .bool eg] 30).ext hx17; have d0 : w17.cell? ⟨w15.heap.size, 0, none⟩ = some (.string ek) := D19.cell 0; have d1 : w17.cell? ⟨w15.heap.size, 1, none⟩ = some (.string ev') := D19.cell 1; have d2 : w17.cell? ⟨w15.heap.size, 2, none⟩ = some (.bool eg) := D19.cell 2; have d3 : w17.cell? ⟨w16.heap.size, 0, none⟩ = some (.string ek) := D22.cell 0; have d4 : w17.cell? ⟨w16.heap.size, 1, none⟩ = some (.string ev') := D22.cell 1; have d5 : w17.cell? ⟨w16.heap.size, 2, none⟩ = some (.bool eg) := D22.cell 2)
                  | (go_at_call 16; refine (same_zero _).mono ?_; rintro e w13 ⟨rfl, rfl⟩))
                go_ret
                exact ⟨rfl, (hxw16.alloc _).trans hx17⟩
        · have htp := tabF_pos hz
          rw [if_pos hz] at hWE
          rw [hWE] at HWT
          have HWF : Hid (Calls Try.prog 65 #[.pointer (some ⟨cb, 0, none⟩), .int .i64 (b : Int), .slice ao es.length cap] w11 fun e w' => e = .returned (.iface 128 (.int .i64 (tabF es))) ∧ w11.grownBy w' (some cb)) := HWT.mono fun e w' ⟨h1, _, h3⟩ => ⟨by unfold errV at h1; rw [if_neg hz] at h1; exact h1, h3⟩
          have hz0 : (tabF es == 0) = false := beq_eq_false_iff_ne.2 hz
          clear HWT hWE hz hes hc10 hr10
          generalize tabF es = f at *
          go_wp2_with (first
            | (go_at_call 65; refine HWF.out.mono ?_; rintro e w12 ⟨rfl, hg12⟩)
            | (go_at_call 16; refine (same_no f _ htp).mono ?_; rintro e w13 ⟨rfl, rfl⟩))
          go_ret
          exact ⟨rfl, hxw10.grownC hg12 hcw⟩
end Go.Proofs.Ytjeinblcpejpnaa
