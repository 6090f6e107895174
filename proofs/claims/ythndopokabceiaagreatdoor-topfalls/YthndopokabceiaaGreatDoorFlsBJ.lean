/- FlsB. -/
import Derived.Test.YthndopokabceiaaGreatDoorFlsAJ

/- TopFalls. -/
namespace Go.Proofs.YthndopokabceiaaGreatDoor
open Go.RowKit Go.WideShapes

set_option maxRecDepth 20000 in
set_option maxHeartbeats 16000000 in
theorem topFalls_any (ao : Option Addr) (cap : Nat) (acs : List ActE) (w : World) (hg : GlobT w) (hl : acs.length ≤ 9223372036854775807) (has : ActsAt w ao acs) :
    Calls Tryz.prog 9 #[.slice ao acs.length cap] w fun e w' => e = .returned (.bool true) ∧ Ext w w' := by
  have HW := worksH w hg
  have HL : Hid (∀ W, Ext w W → Calls Tryz.prog 18 #[.slice ao acs.length cap, .int .i64 60] W fun e w' => e = .returned (.bool (lightActs acs 60)) ∧ W = w') := fun W hx => (lightActs_any ao cap acs 60 W (by omega) hl (has.ext hx)).mono fun _ _ h => ⟨h.1, h.2.symm⟩
  cases hli : lightActs acs 60 with
  | false =>
    rw [hli] at HL
    clear has hg hli
    go_enter Tryz.func9, Tryz.ntmps9
    go_wp2_with (first
      | (go_at_call 35; refine HW.out.mono ?_; rintro e w1 ⟨rfl, hx1⟩)
      | (go_at_call 18; refine (HL.out _ hx1).mono ?_; rintro e w3 ⟨rfl, rfl⟩))
    go_ret
    exact ⟨rfl, hx1⟩
  | true =>
    have h60 : acs.length ≤ 60 := by unfold lightActs at hli; simp at hli; exact hli.1
    have HWK : Hid (∀ W, Ext w W → Calls Tryz.prog 19 #[.slice ao acs.length cap] W fun e w' => e = .returned (.int .i64 (weakN acs : Int)) ∧ W = w') := fun W hx => (weak_any ao cap acs W (by omega) (has.ext hx)).mono fun _ _ h => ⟨h.1, h.2.symm⟩
    rw [hli] at HL
    by_cases hw6 : (6 : Int) < (weakN acs : Int)
    · clear has hg hli
      generalize weakN acs = q at *
      go_enter Tryz.func9, Tryz.ntmps9
      go_wp2_with (first
        | (go_at_call 35; refine HW.out.mono ?_; rintro e w1 ⟨rfl, hx1⟩)
        | (go_at_call 18; refine (HL.out _ hx1).mono ?_; rintro e w3 ⟨rfl, rfl⟩)
        | (go_at_call 19; refine (HWK.out _ hx1).mono ?_; rintro e w3 ⟨rfl, rfl⟩))
      go_ret
      exact ⟨rfl, hx1⟩
    · obtain ⟨KO, hKO⟩ : ∃ KO : Nat → Nat, ∀ i, weakN (acs.take i) = KO i := ⟨_, fun _ => rfl⟩
      have HKS : Hid (∀ i e, acs[i]? = some e → KO (i + 1) = KO i + wk1 e) := fun i e he => by rw [← hKO, ← hKO, weakN_take he]
      have HK6 : Hid (∀ i, KO i ≤ 6) := fun i => by rw [← hKO]; have := weakN_mono acs i; omega
      have HK0 : Hid (KO 0 = 0) := by unfold Hid; rw [← hKO]; rfl
      have HST : Hid (∀ W, Ext w W → Calls Tryz.prog 23 #[] W fun e w' => ∃ cb sb, e = .returned (.tuple #[.pointer (some ⟨cb, 0, none⟩), .pointer (some ⟨sb, 0, none⟩), .bool true]) ∧ FlsAt w w' sb cb (4 + 9 * 0) (KO 0)) := fun W hx => (stored_any W (hg.ext hx)).mono fun _ w' h => by
        obtain ⟨cb, sb, S, h1, h2, h3, h4⟩ := h.up
        obtain ⟨M, a, x, N, O, q1, q2, q3, q4, q5, _⟩ := h2.ex
        have hz := hx.size
        rw [HK0.out]
        exact ⟨cb, sb, h1, ⟨S, [], ⟨M, fm, a, x, N, O, q1, q2, q3, q4, by omega, q5⟩, hx.trans h3, fun b hb => Nat.le_trans hz (h4 b hb)⟩⟩
      have HSE : Hid (∀ W a1 a2 c1 c2 (X : List Ent), X.length ≤ 1000 → EntsAt W a1 X → EntsAt W a2 X → Calls Tryz.prog 34 #[.slice a1 X.length c1, .slice a2 X.length c2] W fun r w' => r = .returned (.bool true) ∧ Ext W w') := fun W a1 a2 c1 c2 X hx h1 h2 => (sameEntries_eq a1 a2 c1 c2 X W (by omega) h1 h2).mono fun _ _ h => by
        obtain ⟨h1, q, rfl⟩ := h
        exact ⟨h1, (Ext.refl _).drewN q⟩
      have HAS : Hid (ActsAt w ao acs) := has
      have HGL : Hid (GlobT w) := hg
      clear hKO has hg hli
      generalize weakN acs = q at *
      go_enter Tryz.func9, Tryz.ntmps9
      go_wp2_with (first
        | (go_at_call 35; refine HW.out.mono ?_; rintro e w1 ⟨rfl, hx1⟩)
        | (go_at_call 18; refine (HL.out _ hx1).mono ?_; rintro e w3 ⟨rfl, rfl⟩)
        | (go_at_call 19; refine (HWK.out _ hx1).mono ?_; rintro e w3 ⟨rfl, rfl⟩)
        | (go_at_call 23; refine (HST.out _ hx1).mono ?_; rintro e w2 ⟨cb, sb, rfl, hF2⟩))
      clear HW HL HWK HST hw6 HK0 hx1
      go_loopw [5, 6] (fun s i wr => ∃ j tb : Nat, j ≤ acs.length ∧ i = .int .i64 j ∧ s = .pointer (some ⟨tb, 0, none⟩) ∧ FlsAt w wr tb cb (4 + 9 * j) (KO j)) (fun _ i _ => acs.length - (intOf i).toNat)
      case atStart => exact ⟨0, sb, Nat.zero_le _, rfl, rfl, hF2⟩
      case round =>
        clear hF2
        obtain ⟨j, tb, hj, rfl, rfl, hF⟩ := hrel
        by_cases hlt : j < acs.length
        · obtain ⟨b, off, e, rfl, he, c0, c1, c2, c3, c4, c5⟩ := HAS.out.get hlt
          obtain ⟨S, R, hU, hx, hS⟩ := hF.ex
          have HAC : Hid (∀ W, Ext w W → W.cell? ⟨b, off + j * 5, none⟩ = some (.string e.kind) ∧ W.cell? ⟨b, off + j * 5 + 1, none⟩ = some (.string e.s) ∧ W.cell? ⟨b, off + j * 5 + 2, none⟩ = some (.int .i64 e.a) ∧ W.cell? ⟨b, off + j * 5 + 3, none⟩ = some (.int .i64 e.b) ∧ W.cell? ⟨b, off + j * 5 + 4, none⟩ = some (.slice e.ao e.es.length e.cap)) := fun W hx => ⟨hx.cell c0, hx.cell c1, hx.cell c2, hx.cell c3, hx.cell c4⟩
          have HEN : Hid (EntsAt w e.ao e.es ∧ e.es.length ≤ 9223372036854775807) := ⟨c5.ents, c5.len⟩
          have HKJ : Hid (KO (j + 1) = KO j + wk1 e ∧ KO j + wk1 e ≤ 6) := ⟨HKS.out j e he, by rw [← HKS.out j e he]; exact HK6.out (j + 1)⟩
          have HNX : Hid (∀ W ub, FlsAt w W ub cb (4 + 9 * j + 9) (KO j + wk1 e) → ∀ {W'}, Ext W W' → FlsAt w W' ub cb (4 + 9 * (j + 1)) (KO (j + 1))) := fun W ub hL W' hx' => by
            obtain ⟨S', R', r1, r2, r3⟩ := hL.ex
            rw [HKJ.out.1]
            exact ⟨S', R', r1.ext hx', r2.trans hx', r3⟩
          have HRO : Hid (Calls Tryz.prog 38 #[.pointer (some ⟨tb, 0, none⟩)] wr fun e w' => ∃ ro rc, e = .returned (.slice ro R.length rc) ∧ Aside2 w' S ro R ∧ Ext wr w') := hU.rows
          have h31 : bits .and .i64 e.b 31 ≤ 1000 := by rw [i64_and31']; omega
          clear c0 c1 c2 c3 c4 c5 he hF HKS HK6 HAS
          go_upto_region 14 with (go_at_call 38; refine HRO.out.mono ?_; rintro r w4 ⟨ro, rc, rfl, hR4, hx4⟩)
          obtain ⟨w5, hw5⟩ : ∃ w5, w5 = w4.alloc (.cells #[.slice ro R.length rc] 39) := ⟨_, rfl⟩
          have hx45 : Ext w4 w5 := by rw [hw5]; exact (Ext.refl _).alloc _
          have hX4 := hx.trans hx4
          have hU5 := (hU.ext hx4).ext hx45
          have hrb : w.heap.size ≤ w4.heap.size := hX4.size
          have hro : ∀ p, ro = some p → ¬ p.block = w4.heap.size := fun p hp => by have := hR4.lt p hp; omega
          have hH5 : Held w w5 S cb w4.heap.size ro R R := ⟨by rw [hw5]; exact RefSt.new w4 S (hU.ext hx4).few.2.2.1 (HGL.out.ext hX4).lt ro rc R hR4, hR4.ext hx45, hX4.trans hx45, hS, hU5.few.2.2.2, HGL.out, hU5.few.1, hU5.few.1⟩
          have HAR : Hid (∀ W z Q, z ≤ 1000 → UpG (4 + 9 * j) W S tb cb (KO j) (-1) R → Held w W S cb w4.heap.size ro R Q → Calls Tryz.prog 44 #[.pointer (some ⟨cb, 0, none⟩), .int .i64 z] W fun r w' => r = .returned (.tuple #[]) ∧ UpG (4 + 9 * j) w' S tb cb (KO j) z R ∧ Held w w' S cb w4.heap.size ro R Q) := fun W z Q hz hU hH => hU.arm hH z hz
          have HDO : Hid (∀ W z, UpG (4 + 9 * j) W S tb cb (KO j) z R → Held w W S cb w4.heap.size ro R (doR R e) → Calls Tryz.prog 37 #[.pointer (some ⟨cb, 0, none⟩), .pointer (some ⟨tb, 0, none⟩), .agg #[.string e.kind, .string e.s, .int .i64 e.a, .int .i64 e.b, .slice e.ao e.es.length e.cap]] W fun r w' => ∃ v, r = .returned v ∧ FlT (4 + 9 * j + 9) w w' S cb (KO j + wk1 e) w4.heap.size ro R (doR R e) v) := fun W z hF hH => hF.act (by omega) HKJ.out.2 hH HEN.out.1
          rw [← hw5]
          clear hw5 HRO hU hR4 hx45 hX4 hx4 HKJ
          obtain ⟨n0, n1, n2, n3, n4⟩ := HAC.out _ hH5.x
          by_cases hkw : (e.kind.toList == [119, 114, 105, 116, 101]) = true
          · have hd : doR R e = wrR R e.es := by unfold doR isWr; rw [if_pos hkw]
            have HRW : Hid (Calls Tryz.prog 27 #[.pointer (some ⟨w4.heap.size, 0, none⟩), .slice e.ao e.es.length e.cap] w5 fun r w' => (∃ v, r = .returned v) ∧ Held w w' S cb w4.heap.size ro R (doR R e) ∧ UpG (4 + 9 * j) w' S tb cb (KO j) (-1) R) := by
              rw [Hid, hd]
              exact hH5.rwG hU5 hro hrb HEN.out.2 HEN.out.1
            clear hd hU5 hH5 HEN
            go_upto_region 16 with (go_at_call 27; refine HRW.out.mono ?_; rintro r w5b ⟨⟨vb, rfl⟩, hHb, hUb⟩; obtain ⟨n0, n1, n2, n3, n4⟩ := HAC.out _ hHb.x)
            clear hkw
            by_cases hb1 : bits .and .i64 e.b 1 = 0
            · go_upto_region 19 with (first
                | (go_at_call 44; refine (HAR.out _ _ _ h31 hUb hHb).mono ?_; rintro r w6 ⟨rfl, hUc, hHc⟩; obtain ⟨n0, n1, n2, n3, n4⟩ := HAC.out _ hHc.x)
                | (go_at_call 37; refine (HDO.out _ _ hUc hHc).mono ?_; rintro r w7 ⟨v, rfl, hT7⟩))
              clear hb1
              clear HDO HAR hUc hHc
              obtain ⟨⟨M', hc7, hw7, hk7, hv⟩, hH7⟩ := hT7
              obtain ⟨n0, n1, n2, n3, n4⟩ := HAC.out _ hH7.x
              generalize doR R e = Q at *
              rcases hv with ⟨rfl, hP⟩ | ⟨f, rfl, hP⟩
              · go_upto_region 25 with (first
                  | (go_at_call 45; refine (fl_restart _ hc7 hw7 hk7 hP hH7).mono ?_; rintro r w8 ⟨rfl, hU8⟩)
                  | (go_at_call 20; refine hU8.open.mono ?_; rintro r w9 ⟨ub, rfl, hV9⟩)
                  | (go_at_call 38; refine hV9.rows.mono ?_; rintro r w10 ⟨X, xo, xc, rfl, hX, hE10, hH10, hL10⟩))
                obtain rfl : X = Q := hX
                obtain ⟨qo, qc, q1, q2⟩ := hH10.cells
                have hra := hH10.was.at_
                have hxl : X.length ≤ 1000 := by have := hH10.lq.2; omega
                have HQ : Hid (∀ W, Ext w10 W → W.cell? ⟨w4.heap.size, 0, none⟩ = some (.slice qo X.length qc)) := fun W hx => hx.cell q1
                have HSQ : Hid (∀ W, Ext w10 W → Calls Tryz.prog 34 #[.slice xo X.length xc, .slice qo X.length qc] W fun r w' => r = .returned (.bool true) ∧ Ext w10 w') := fun W hx => (HSE.out W xo qo xc qc X hxl (hE10.ext2 hx) (q2.ext2 hx)).mono fun _ _ h => ⟨h.1, hx.trans h.2⟩
                have HSR : Hid (∀ W, Ext w10 W → Calls Tryz.prog 34 #[.slice xo X.length xc, .slice ro R.length rc] W fun r w' => ∃ b, r = .returned (.bool b) ∧ Ext w10 w') := fun W hx => (sameE_some xo ro xc rc X R W hxl (hE10.ext2 hx) (hra.ext2 hx)).mono fun _ _ h => by obtain ⟨b, h1, h2⟩ := h; exact ⟨b, h1, hx.trans h2⟩
                have hx10 := Ext.refl w10
                clear hV9 hU8 hP hc7 hw7 hk7 hH7 hra q2 hE10 n0 n1 n2 n3 n4 HAC
                go_wp2_with (first
                  | (go_at_call_of 34 (Value.slice qo X.length qc); refine (HSQ.out _ (by assumption)).mono ?_; rintro r w11 ⟨rfl, hx11⟩; have q1 := HQ.out _ hx11)
                  | (go_at_call_of 34 (Value.slice ro R.length rc); refine (HSR.out _ (by assumption)).mono ?_; rintro r w12 ⟨(_ | _), rfl, hx12⟩ <;> have q1 := HQ.out _ hx12))
                · go_roundw
                  case rel => exact ⟨j + 1, ub, by omega, by go_num, rfl, HNX.out _ _ hL10 (by assumption)⟩
                  case measure => simp [intOf]; omega
                · go_roundw
                  case rel => exact ⟨j + 1, ub, by omega, by go_num, rfl, HNX.out _ _ hL10 (by assumption)⟩
                  case measure => simp [intOf]; omega
              · go_upto_region 25 with (first
                  | (go_at_call 45; refine (fl_restart _ hc7 hw7 hk7 hP hH7).mono ?_; rintro r w8 ⟨rfl, hU8⟩)
                  | (go_at_call 20; refine hU8.open.mono ?_; rintro r w9 ⟨ub, rfl, hV9⟩)
                  | (go_at_call 38; refine hV9.rows.mono ?_; rintro r w10 ⟨X, xo, xc, rfl, hX, hE10, hH10, hL10⟩))
                obtain ⟨qo, qc, q1, q2⟩ := hH10.cells
                have hra := hH10.was.at_
                have hx10 := Ext.refl w10
                clear hV9 hU8 hP hc7 hw7 hk7 hH7 n0 n1 n2 n3 n4 HAC
                rcases hX with rfl | rfl
                · have hxl : X.length ≤ 1000 := by have := hH10.lq.1; omega
                  have HS1 : Hid (Calls Tryz.prog 34 #[.slice xo X.length xc, .slice ro X.length rc] w10 fun r w' => r = .returned (.bool true) ∧ Ext w10 w') := HSE.out w10 xo ro xc rc X hxl hE10 hra
                  clear hra q1 q2 hE10
                  go_wp2_with (go_at_call 34; refine HS1.out.mono ?_; rintro r w11 ⟨rfl, hx11⟩)
                  go_roundw
                  case rel => exact ⟨j + 1, ub, by omega, by go_num, rfl, HNX.out _ _ hL10 (by assumption)⟩
                  case measure => simp [intOf]; omega
                · have hxl : X.length ≤ 1000 := by have := hH10.lq.2; omega
                  have HQ : Hid (∀ W, Ext w10 W → W.cell? ⟨w4.heap.size, 0, none⟩ = some (.slice qo X.length qc)) := fun W hx => hx.cell q1
                  have HSQ : Hid (∀ W, Ext w10 W → Calls Tryz.prog 34 #[.slice xo X.length xc, .slice qo X.length qc] W fun r w' => r = .returned (.bool true) ∧ Ext w10 w') := fun W hx => (HSE.out W xo qo xc qc X hxl (hE10.ext2 hx) (q2.ext2 hx)).mono fun _ _ h => ⟨h.1, hx.trans h.2⟩
                  have HSR : Hid (∀ W, Ext w10 W → Calls Tryz.prog 34 #[.slice xo X.length xc, .slice ro R.length rc] W fun r w' => ∃ b, r = .returned (.bool b) ∧ Ext w10 w') := fun W hx => (sameE_some xo ro xc rc X R W hxl (hE10.ext2 hx) (hra.ext2 hx)).mono fun _ _ h => by obtain ⟨b, h1, h2⟩ := h; exact ⟨b, h1, hx.trans h2⟩
                  clear hra q1 q2 hE10
                  go_wp2_with (first
                    | (go_at_call_of 34 (Value.slice qo X.length qc); refine (HSQ.out _ (by assumption)).mono ?_; rintro r w11 ⟨rfl, hx11⟩)
                    | (go_at_call_of 34 (Value.slice ro R.length rc); refine (HSR.out _ (by assumption)).mono ?_; rintro r w12 ⟨(_ | _), rfl, hx12⟩ <;> have q1 := HQ.out _ hx12))
                  · go_roundw
                    case rel => exact ⟨j + 1, ub, by omega, by go_num, rfl, HNX.out _ _ hL10 (by assumption)⟩
                    case measure => simp [intOf]; omega
                  · go_roundw
                    case rel => exact ⟨j + 1, ub, by omega, by go_num, rfl, HNX.out _ _ hL10 (by assumption)⟩
                    case measure => simp [intOf]; omega
            · have hUc := hUb
              have hHc := hHb
              go_upto_region 19 with (go_at_call 37; refine (HDO.out _ _ hUc hHc).mono ?_; rintro r w7 ⟨v, rfl, hT7⟩)
              clear hb1
              clear HDO HAR hUc hHc
              obtain ⟨⟨M', hc7, hw7, hk7, hv⟩, hH7⟩ := hT7
              obtain ⟨n0, n1, n2, n3, n4⟩ := HAC.out _ hH7.x
              generalize doR R e = Q at *
              rcases hv with ⟨rfl, hP⟩ | ⟨f, rfl, hP⟩
              · go_upto_region 25 with (first
                  | (go_at_call 45; refine (fl_restart _ hc7 hw7 hk7 hP hH7).mono ?_; rintro r w8 ⟨rfl, hU8⟩)
                  | (go_at_call 20; refine hU8.open.mono ?_; rintro r w9 ⟨ub, rfl, hV9⟩)
                  | (go_at_call 38; refine hV9.rows.mono ?_; rintro r w10 ⟨X, xo, xc, rfl, hX, hE10, hH10, hL10⟩))
                obtain rfl : X = Q := hX
                obtain ⟨qo, qc, q1, q2⟩ := hH10.cells
                have hra := hH10.was.at_
                have hxl : X.length ≤ 1000 := by have := hH10.lq.2; omega
                have HQ : Hid (∀ W, Ext w10 W → W.cell? ⟨w4.heap.size, 0, none⟩ = some (.slice qo X.length qc)) := fun W hx => hx.cell q1
                have HSQ : Hid (∀ W, Ext w10 W → Calls Tryz.prog 34 #[.slice xo X.length xc, .slice qo X.length qc] W fun r w' => r = .returned (.bool true) ∧ Ext w10 w') := fun W hx => (HSE.out W xo qo xc qc X hxl (hE10.ext2 hx) (q2.ext2 hx)).mono fun _ _ h => ⟨h.1, hx.trans h.2⟩
                have HSR : Hid (∀ W, Ext w10 W → Calls Tryz.prog 34 #[.slice xo X.length xc, .slice ro R.length rc] W fun r w' => ∃ b, r = .returned (.bool b) ∧ Ext w10 w') := fun W hx => (sameE_some xo ro xc rc X R W hxl (hE10.ext2 hx) (hra.ext2 hx)).mono fun _ _ h => by obtain ⟨b, h1, h2⟩ := h; exact ⟨b, h1, hx.trans h2⟩
                have hx10 := Ext.refl w10
                clear hV9 hU8 hP hc7 hw7 hk7 hH7 hra q2 hE10 n0 n1 n2 n3 n4 HAC
                go_wp2_with (first
                  | (go_at_call_of 34 (Value.slice qo X.length qc); refine (HSQ.out _ (by assumption)).mono ?_; rintro r w11 ⟨rfl, hx11⟩; have q1 := HQ.out _ hx11)
                  | (go_at_call_of 34 (Value.slice ro R.length rc); refine (HSR.out _ (by assumption)).mono ?_; rintro r w12 ⟨(_ | _), rfl, hx12⟩ <;> have q1 := HQ.out _ hx12))
                · go_roundw
                  case rel => exact ⟨j + 1, ub, by omega, by go_num, rfl, HNX.out _ _ hL10 (by assumption)⟩
                  case measure => simp [intOf]; omega
                · go_roundw
                  case rel => exact ⟨j + 1, ub, by omega, by go_num, rfl, HNX.out _ _ hL10 (by assumption)⟩
                  case measure => simp [intOf]; omega
              · go_upto_region 25 with (first
                  | (go_at_call 45; refine (fl_restart _ hc7 hw7 hk7 hP hH7).mono ?_; rintro r w8 ⟨rfl, hU8⟩)
                  | (go_at_call 20; refine hU8.open.mono ?_; rintro r w9 ⟨ub, rfl, hV9⟩)
                  | (go_at_call 38; refine hV9.rows.mono ?_; rintro r w10 ⟨X, xo, xc, rfl, hX, hE10, hH10, hL10⟩))
                obtain ⟨qo, qc, q1, q2⟩ := hH10.cells
                have hra := hH10.was.at_
                have hx10 := Ext.refl w10
                clear hV9 hU8 hP hc7 hw7 hk7 hH7 n0 n1 n2 n3 n4 HAC
                rcases hX with rfl | rfl
                · have hxl : X.length ≤ 1000 := by have := hH10.lq.1; omega
                  have HS1 : Hid (Calls Tryz.prog 34 #[.slice xo X.length xc, .slice ro X.length rc] w10 fun r w' => r = .returned (.bool true) ∧ Ext w10 w') := HSE.out w10 xo ro xc rc X hxl hE10 hra
                  clear hra q1 q2 hE10
                  go_wp2_with (go_at_call 34; refine HS1.out.mono ?_; rintro r w11 ⟨rfl, hx11⟩)
                  go_roundw
                  case rel => exact ⟨j + 1, ub, by omega, by go_num, rfl, HNX.out _ _ hL10 (by assumption)⟩
                  case measure => simp [intOf]; omega
                · have hxl : X.length ≤ 1000 := by have := hH10.lq.2; omega
                  have HQ : Hid (∀ W, Ext w10 W → W.cell? ⟨w4.heap.size, 0, none⟩ = some (.slice qo X.length qc)) := fun W hx => hx.cell q1
                  have HSQ : Hid (∀ W, Ext w10 W → Calls Tryz.prog 34 #[.slice xo X.length xc, .slice qo X.length qc] W fun r w' => r = .returned (.bool true) ∧ Ext w10 w') := fun W hx => (HSE.out W xo qo xc qc X hxl (hE10.ext2 hx) (q2.ext2 hx)).mono fun _ _ h => ⟨h.1, hx.trans h.2⟩
                  have HSR : Hid (∀ W, Ext w10 W → Calls Tryz.prog 34 #[.slice xo X.length xc, .slice ro R.length rc] W fun r w' => ∃ b, r = .returned (.bool b) ∧ Ext w10 w') := fun W hx => (sameE_some xo ro xc rc X R W hxl (hE10.ext2 hx) (hra.ext2 hx)).mono fun _ _ h => by obtain ⟨b, h1, h2⟩ := h; exact ⟨b, h1, hx.trans h2⟩
                  clear hra q1 q2 hE10
                  go_wp2_with (first
                    | (go_at_call_of 34 (Value.slice qo X.length qc); refine (HSQ.out _ (by assumption)).mono ?_; rintro r w11 ⟨rfl, hx11⟩)
                    | (go_at_call_of 34 (Value.slice ro R.length rc); refine (HSR.out _ (by assumption)).mono ?_; rintro r w12 ⟨(_ | _), rfl, hx12⟩ <;> have q1 := HQ.out _ hx12))
                  · go_roundw
                    case rel => exact ⟨j + 1, ub, by omega, by go_num, rfl, HNX.out _ _ hL10 (by assumption)⟩
                    case measure => simp [intOf]; omega
                  · go_roundw
                    case rel => exact ⟨j + 1, ub, by omega, by go_num, rfl, HNX.out _ _ hL10 (by assumption)⟩
                    case measure => simp [intOf]; omega
          · have hkw' : (e.kind.toList == [119, 114, 105, 116, 101]) = false := by simpa using hkw
            have hd : doR R e = R := by unfold doR isWr; rw [if_neg hkw]
            have hHb : Held w w5 S cb w4.heap.size ro R (doR R e) := by rw [hd]; exact hH5
            have hUb := hU5
            clear hd hU5 hH5 HEN hkw
            go_upto_region 16 with fail
            clear hkw'
            by_cases hb1 : bits .and .i64 e.b 1 = 0
            · go_upto_region 19 with (first
                | (go_at_call 44; refine (HAR.out _ _ _ h31 hUb hHb).mono ?_; rintro r w6 ⟨rfl, hUc, hHc⟩; obtain ⟨n0, n1, n2, n3, n4⟩ := HAC.out _ hHc.x)
                | (go_at_call 37; refine (HDO.out _ _ hUc hHc).mono ?_; rintro r w7 ⟨v, rfl, hT7⟩))
              clear hb1
              clear HDO HAR hUc hHc
              obtain ⟨⟨M', hc7, hw7, hk7, hv⟩, hH7⟩ := hT7
              obtain ⟨n0, n1, n2, n3, n4⟩ := HAC.out _ hH7.x
              generalize doR R e = Q at *
              rcases hv with ⟨rfl, hP⟩ | ⟨f, rfl, hP⟩
              · go_upto_region 25 with (first
                  | (go_at_call 45; refine (fl_restart _ hc7 hw7 hk7 hP hH7).mono ?_; rintro r w8 ⟨rfl, hU8⟩)
                  | (go_at_call 20; refine hU8.open.mono ?_; rintro r w9 ⟨ub, rfl, hV9⟩)
                  | (go_at_call 38; refine hV9.rows.mono ?_; rintro r w10 ⟨X, xo, xc, rfl, hX, hE10, hH10, hL10⟩))
                obtain rfl : X = Q := hX
                obtain ⟨qo, qc, q1, q2⟩ := hH10.cells
                have hra := hH10.was.at_
                have hxl : X.length ≤ 1000 := by have := hH10.lq.2; omega
                have HQ : Hid (∀ W, Ext w10 W → W.cell? ⟨w4.heap.size, 0, none⟩ = some (.slice qo X.length qc)) := fun W hx => hx.cell q1
                have HSQ : Hid (∀ W, Ext w10 W → Calls Tryz.prog 34 #[.slice xo X.length xc, .slice qo X.length qc] W fun r w' => r = .returned (.bool true) ∧ Ext w10 w') := fun W hx => (HSE.out W xo qo xc qc X hxl (hE10.ext2 hx) (q2.ext2 hx)).mono fun _ _ h => ⟨h.1, hx.trans h.2⟩
                have HSR : Hid (∀ W, Ext w10 W → Calls Tryz.prog 34 #[.slice xo X.length xc, .slice ro R.length rc] W fun r w' => ∃ b, r = .returned (.bool b) ∧ Ext w10 w') := fun W hx => (sameE_some xo ro xc rc X R W hxl (hE10.ext2 hx) (hra.ext2 hx)).mono fun _ _ h => by obtain ⟨b, h1, h2⟩ := h; exact ⟨b, h1, hx.trans h2⟩
                have hx10 := Ext.refl w10
                clear hV9 hU8 hP hc7 hw7 hk7 hH7 hra q2 hE10 n0 n1 n2 n3 n4 HAC
                go_wp2_with (first
                  | (go_at_call_of 34 (Value.slice qo X.length qc); refine (HSQ.out _ (by assumption)).mono ?_; rintro r w11 ⟨rfl, hx11⟩; have q1 := HQ.out _ hx11)
                  | (go_at_call_of 34 (Value.slice ro R.length rc); refine (HSR.out _ (by assumption)).mono ?_; rintro r w12 ⟨(_ | _), rfl, hx12⟩ <;> have q1 := HQ.out _ hx12))
                · go_roundw
                  case rel => exact ⟨j + 1, ub, by omega, by go_num, rfl, HNX.out _ _ hL10 (by assumption)⟩
                  case measure => simp [intOf]; omega
                · go_roundw
                  case rel => exact ⟨j + 1, ub, by omega, by go_num, rfl, HNX.out _ _ hL10 (by assumption)⟩
                  case measure => simp [intOf]; omega
              · go_upto_region 25 with (first
                  | (go_at_call 45; refine (fl_restart _ hc7 hw7 hk7 hP hH7).mono ?_; rintro r w8 ⟨rfl, hU8⟩)
                  | (go_at_call 20; refine hU8.open.mono ?_; rintro r w9 ⟨ub, rfl, hV9⟩)
                  | (go_at_call 38; refine hV9.rows.mono ?_; rintro r w10 ⟨X, xo, xc, rfl, hX, hE10, hH10, hL10⟩))
                obtain ⟨qo, qc, q1, q2⟩ := hH10.cells
                have hra := hH10.was.at_
                have hx10 := Ext.refl w10
                clear hV9 hU8 hP hc7 hw7 hk7 hH7 n0 n1 n2 n3 n4 HAC
                rcases hX with rfl | rfl
                · have hxl : X.length ≤ 1000 := by have := hH10.lq.1; omega
                  have HS1 : Hid (Calls Tryz.prog 34 #[.slice xo X.length xc, .slice ro X.length rc] w10 fun r w' => r = .returned (.bool true) ∧ Ext w10 w') := HSE.out w10 xo ro xc rc X hxl hE10 hra
                  clear hra q1 q2 hE10
                  go_wp2_with (go_at_call 34; refine HS1.out.mono ?_; rintro r w11 ⟨rfl, hx11⟩)
                  go_roundw
                  case rel => exact ⟨j + 1, ub, by omega, by go_num, rfl, HNX.out _ _ hL10 (by assumption)⟩
                  case measure => simp [intOf]; omega
                · have hxl : X.length ≤ 1000 := by have := hH10.lq.2; omega
                  have HQ : Hid (∀ W, Ext w10 W → W.cell? ⟨w4.heap.size, 0, none⟩ = some (.slice qo X.length qc)) := fun W hx => hx.cell q1
                  have HSQ : Hid (∀ W, Ext w10 W → Calls Tryz.prog 34 #[.slice xo X.length xc, .slice qo X.length qc] W fun r w' => r = .returned (.bool true) ∧ Ext w10 w') := fun W hx => (HSE.out W xo qo xc qc X hxl (hE10.ext2 hx) (q2.ext2 hx)).mono fun _ _ h => ⟨h.1, hx.trans h.2⟩
                  have HSR : Hid (∀ W, Ext w10 W → Calls Tryz.prog 34 #[.slice xo X.length xc, .slice ro R.length rc] W fun r w' => ∃ b, r = .returned (.bool b) ∧ Ext w10 w') := fun W hx => (sameE_some xo ro xc rc X R W hxl (hE10.ext2 hx) (hra.ext2 hx)).mono fun _ _ h => by obtain ⟨b, h1, h2⟩ := h; exact ⟨b, h1, hx.trans h2⟩
                  clear hra q1 q2 hE10
                  go_wp2_with (first
                    | (go_at_call_of 34 (Value.slice qo X.length qc); refine (HSQ.out _ (by assumption)).mono ?_; rintro r w11 ⟨rfl, hx11⟩)
                    | (go_at_call_of 34 (Value.slice ro R.length rc); refine (HSR.out _ (by assumption)).mono ?_; rintro r w12 ⟨(_ | _), rfl, hx12⟩ <;> have q1 := HQ.out _ hx12))
                  · go_roundw
                    case rel => exact ⟨j + 1, ub, by omega, by go_num, rfl, HNX.out _ _ hL10 (by assumption)⟩
                    case measure => simp [intOf]; omega
                  · go_roundw
                    case rel => exact ⟨j + 1, ub, by omega, by go_num, rfl, HNX.out _ _ hL10 (by assumption)⟩
                    case measure => simp [intOf]; omega
            · have hUc := hUb
              have hHc := hHb
              go_upto_region 19 with (go_at_call 37; refine (HDO.out _ _ hUc hHc).mono ?_; rintro r w7 ⟨v, rfl, hT7⟩)
              clear hb1
              clear HDO HAR hUc hHc
              obtain ⟨⟨M', hc7, hw7, hk7, hv⟩, hH7⟩ := hT7
              obtain ⟨n0, n1, n2, n3, n4⟩ := HAC.out _ hH7.x
              generalize doR R e = Q at *
              rcases hv with ⟨rfl, hP⟩ | ⟨f, rfl, hP⟩
              · go_upto_region 25 with (first
                  | (go_at_call 45; refine (fl_restart _ hc7 hw7 hk7 hP hH7).mono ?_; rintro r w8 ⟨rfl, hU8⟩)
                  | (go_at_call 20; refine hU8.open.mono ?_; rintro r w9 ⟨ub, rfl, hV9⟩)
                  | (go_at_call 38; refine hV9.rows.mono ?_; rintro r w10 ⟨X, xo, xc, rfl, hX, hE10, hH10, hL10⟩))
                obtain rfl : X = Q := hX
                obtain ⟨qo, qc, q1, q2⟩ := hH10.cells
                have hra := hH10.was.at_
                have hxl : X.length ≤ 1000 := by have := hH10.lq.2; omega
                have HQ : Hid (∀ W, Ext w10 W → W.cell? ⟨w4.heap.size, 0, none⟩ = some (.slice qo X.length qc)) := fun W hx => hx.cell q1
                have HSQ : Hid (∀ W, Ext w10 W → Calls Tryz.prog 34 #[.slice xo X.length xc, .slice qo X.length qc] W fun r w' => r = .returned (.bool true) ∧ Ext w10 w') := fun W hx => (HSE.out W xo qo xc qc X hxl (hE10.ext2 hx) (q2.ext2 hx)).mono fun _ _ h => ⟨h.1, hx.trans h.2⟩
                have HSR : Hid (∀ W, Ext w10 W → Calls Tryz.prog 34 #[.slice xo X.length xc, .slice ro R.length rc] W fun r w' => ∃ b, r = .returned (.bool b) ∧ Ext w10 w') := fun W hx => (sameE_some xo ro xc rc X R W hxl (hE10.ext2 hx) (hra.ext2 hx)).mono fun _ _ h => by obtain ⟨b, h1, h2⟩ := h; exact ⟨b, h1, hx.trans h2⟩
                have hx10 := Ext.refl w10
                clear hV9 hU8 hP hc7 hw7 hk7 hH7 hra q2 hE10 n0 n1 n2 n3 n4 HAC
                go_wp2_with (first
                  | (go_at_call_of 34 (Value.slice qo X.length qc); refine (HSQ.out _ (by assumption)).mono ?_; rintro r w11 ⟨rfl, hx11⟩; have q1 := HQ.out _ hx11)
                  | (go_at_call_of 34 (Value.slice ro R.length rc); refine (HSR.out _ (by assumption)).mono ?_; rintro r w12 ⟨(_ | _), rfl, hx12⟩ <;> have q1 := HQ.out _ hx12))
                · go_roundw
                  case rel => exact ⟨j + 1, ub, by omega, by go_num, rfl, HNX.out _ _ hL10 (by assumption)⟩
                  case measure => simp [intOf]; omega
                · go_roundw
                  case rel => exact ⟨j + 1, ub, by omega, by go_num, rfl, HNX.out _ _ hL10 (by assumption)⟩
                  case measure => simp [intOf]; omega
              · go_upto_region 25 with (first
                  | (go_at_call 45; refine (fl_restart _ hc7 hw7 hk7 hP hH7).mono ?_; rintro r w8 ⟨rfl, hU8⟩)
                  | (go_at_call 20; refine hU8.open.mono ?_; rintro r w9 ⟨ub, rfl, hV9⟩)
                  | (go_at_call 38; refine hV9.rows.mono ?_; rintro r w10 ⟨X, xo, xc, rfl, hX, hE10, hH10, hL10⟩))
                obtain ⟨qo, qc, q1, q2⟩ := hH10.cells
                have hra := hH10.was.at_
                have hx10 := Ext.refl w10
                clear hV9 hU8 hP hc7 hw7 hk7 hH7 n0 n1 n2 n3 n4 HAC
                rcases hX with rfl | rfl
                · have hxl : X.length ≤ 1000 := by have := hH10.lq.1; omega
                  have HS1 : Hid (Calls Tryz.prog 34 #[.slice xo X.length xc, .slice ro X.length rc] w10 fun r w' => r = .returned (.bool true) ∧ Ext w10 w') := HSE.out w10 xo ro xc rc X hxl hE10 hra
                  clear hra q1 q2 hE10
                  go_wp2_with (go_at_call 34; refine HS1.out.mono ?_; rintro r w11 ⟨rfl, hx11⟩)
                  go_roundw
                  case rel => exact ⟨j + 1, ub, by omega, by go_num, rfl, HNX.out _ _ hL10 (by assumption)⟩
                  case measure => simp [intOf]; omega
                · have hxl : X.length ≤ 1000 := by have := hH10.lq.2; omega
                  have HQ : Hid (∀ W, Ext w10 W → W.cell? ⟨w4.heap.size, 0, none⟩ = some (.slice qo X.length qc)) := fun W hx => hx.cell q1
                  have HSQ : Hid (∀ W, Ext w10 W → Calls Tryz.prog 34 #[.slice xo X.length xc, .slice qo X.length qc] W fun r w' => r = .returned (.bool true) ∧ Ext w10 w') := fun W hx => (HSE.out W xo qo xc qc X hxl (hE10.ext2 hx) (q2.ext2 hx)).mono fun _ _ h => ⟨h.1, hx.trans h.2⟩
                  have HSR : Hid (∀ W, Ext w10 W → Calls Tryz.prog 34 #[.slice xo X.length xc, .slice ro R.length rc] W fun r w' => ∃ b, r = .returned (.bool b) ∧ Ext w10 w') := fun W hx => (sameE_some xo ro xc rc X R W hxl (hE10.ext2 hx) (hra.ext2 hx)).mono fun _ _ h => by obtain ⟨b, h1, h2⟩ := h; exact ⟨b, h1, hx.trans h2⟩
                  clear hra q1 q2 hE10
                  go_wp2_with (first
                    | (go_at_call_of 34 (Value.slice qo X.length qc); refine (HSQ.out _ (by assumption)).mono ?_; rintro r w11 ⟨rfl, hx11⟩)
                    | (go_at_call_of 34 (Value.slice ro R.length rc); refine (HSR.out _ (by assumption)).mono ?_; rintro r w12 ⟨(_ | _), rfl, hx12⟩ <;> have q1 := HQ.out _ hx12))
                  · go_roundw
                    case rel => exact ⟨j + 1, ub, by omega, by go_num, rfl, HNX.out _ _ hL10 (by assumption)⟩
                    case measure => simp [intOf]; omega
                  · go_roundw
                    case rel => exact ⟨j + 1, ub, by omega, by go_num, rfl, HNX.out _ _ hL10 (by assumption)⟩
                    case measure => simp [intOf]; omega
        · obtain ⟨q, v, hC⟩ := hF.last (by omega)
          have HC : Hid (Calls Tryz.prog 26 #[.pointer (some ⟨tb, 0, none⟩), .slice (some ⟨wr.heap.size, 0, none⟩) 1 1] (wr.alloc (.cells #[.string ⟨#[122, 122]⟩, .string ⟨#[122]⟩, .bool false] 49)) fun e w' => e = .returned v ∧ Ext w w' ∧ ((v = .nilIface ∧ q = 0) ∨ (q = 1 ∧ (∃ f, v = .iface 110 (.int .i64 f)) ∧ Calls Tryz.prog 38 #[.pointer (some ⟨tb, 0, none⟩)] w' fun e w'' => ∃ ro rc, e = .returned (.slice ro 40 rc) ∧ Ext w w''))) := hC
          clear hC HAS HKS HK6 hF
          go_wp2_with (first
            | (go_at_call 26; refine HC.out.mono ?_; rintro r w6 ⟨rfl, hx6, (⟨rfl, _⟩ | ⟨_, ⟨f, rfl⟩, hR6⟩)⟩)
            | (go_at_call 38; refine hR6.mono ?_; rintro r w7 ⟨ro7, rc7, rfl, hx7⟩))
          · go_ret
            exact ⟨rfl, hx6⟩
          · go_ret
            exact ⟨rfl, hx7⟩
end Go.Proofs.YthndopokabceiaaGreatDoor
