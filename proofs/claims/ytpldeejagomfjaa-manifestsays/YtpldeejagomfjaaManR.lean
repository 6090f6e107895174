
/- Manifests: what the document's ManifestFault answers. -/
import Derived.Test.YtpldeejagomfjaaManM
import Derived.Test.YtpldeejagomfjaaEntA
import Derived.Deep.QuietTactic
import Derived.BigQuiet
import Derived.Deep.DeepCutAuto
import Derived.Deep.RegionHeld3
namespace Go.Proofs.Ytpldeejagomfjaa
open Go.RowKit Go.WideShapes
attribute [local go_sem ↓] Go.wp_at_zero Go.wp_at_succ

theorem IL.new {W0 w : World} (hx : Ext W0 w) (x : Int) : IL W0 (w.alloc (.cells #[.int .i64 x] 3)) (.slice (some ⟨w.heap.size, 0, none⟩) 1 1) [x] := by
  refine ⟨⟨by simp [rowI], .inr ⟨w.heap.size, 1, _, rfl, hx.size, heap_alloc_new w _, Nat.le_refl _, by unfold maxLen; omega, by simp, ?_⟩⟩, hx.alloc _⟩
  simp [rowI]
theorem IL.drew {W0 w : World} {v : Value} {xs : List Int} (h : IL W0 w v xs) : IL W0 w.drew v xs := ⟨h.own.drew, h.ext.drew⟩
/-- append of numbers, in a region that draws. -/
theorem step_app_row {w : World} {ops : Array Oper} {o : Oper} {a : Act} {K : Act → World → Prop} {Q : Exit → Act → World → Prop} {E : Prop} (hgd : o.guard = none) (s x : Operand)
    (ho : o.op = .call { callee := .builtin .append, args := #[s, x], argTypes := #[74, 74] })
    (base : Nat) (v : Value) (es : List Int) (hs : a.eval s = v) (hl : w.ownsRow base 3 1 v es.length (rowI es)) (hb : base ≤ w.heap.size) (ao : Option Addr) (c : Nat) (fs : List Int) (hx : a.eval x = .slice ao fs.length c)
    (hfs : NumsAt w ao fs) (hn : es.length + fs.length ≤ 100000)
    (h : ∀ v' w', w'.ownsRow base 3 1 v' (es ++ fs).length (rowI (es ++ fs)) → w.grownBy w' v.ownBlock → K (a.put o.dst v') w') : if Region.wanted o (yielded ops a.tmps) = true then Oper.wp Try.prog o a w K Q else E := by
  have hw : Region.wanted o (yielded ops a.tmps) = true := by simp [Region.wanted, hgd]
  rw [if_pos hw]
  obtain ⟨i0, hi, hz0, hz1, hz2⟩ := info_parts Try.info3
  have key : ∀ v' w', w'.ownsRow base 3 1 v' (es.length + fs.length) (rowI es ++ rowI fs) → w.grownBy w' v.ownBlock → K (a.put o.dst v') w' := fun v' w' p q => by
    refine h v' w' ?_ q
    rw [show rowI (es ++ fs) = rowI es ++ rowI fs by simp [rowI], List.length_append]; exact p
  cases ao with
  | some ad =>
    have hnews : ∀ j u, (rowI fs)[j]? = some u → w.cell? (ad.add j) = some u := by
      by_cases hn : rowI fs = []
      · rw [hn]; intro j u hj; simp at hj
      · obtain ⟨ad', hh, hc⟩ := hfs.row hn
        cases hh; exact hc
    exact wp_append_own w s x 74 ho base 3 i0 (.int .i64 0) 1 8 Try.underlying74 hi hz0 hz1 hz2 rfl (by decide) v es.length (rowI es) hs hl ad fs.length c (rowI fs) hx (by simp [rowI]) hnews (rowI_one fs) (by unfold maxLen; omega) (by omega) hb (fun v' w' p q _ => key v' w' p q)
  | none =>
    have hf0 : fs = [] := by
      by_cases hf : fs = []
      · exact hf
      · obtain ⟨b, off, e, _⟩ := hfs hf; cases e
    subst hf0
    obtain ⟨bo, cap, hv, hle⟩ : ∃ bo cap, v = .slice bo es.length cap ∧ es.length ≤ cap := by
      rcases hl.2 with ⟨hv, h0⟩ | ⟨g, cap, cur, rfl, _, _, hle, _⟩
      · exact ⟨none, 0, by rw [hv, h0], by rw [h0]; exact Nat.le_refl _⟩
      · exact ⟨_, _, rfl, hle⟩
    have hr := run_append_nothing (P := Try.prog) w 74 74 o.type 3 i0 Try.underlying74 hi bo es.length cap hle (.slice none 0 c) (Src.ofNil w Try.underlying74 c)
    rw [← hv] at hr
    unfold Oper.wp execOp
    simp only [ho, resolve, invoke, builtin, Sem.run_bind, Sem.run_pure, Result.andThen_ok, List.map_toArray, List.map_cons, List.map_nil, hs, hx, List.length_nil, hr]
    exact key v w (by simpa [rowI] using hl) ⟨rfl, rfl, rfl, Nat.le_refl _, fun _ _ _ => rfl⟩
theorem step_app_nums {w : World} {ops : Array Oper} {o : Oper} {a : Act} {K : Act → World → Prop} {Q : Exit → Act → World → Prop} {E : Prop} (hgd : o.guard = none) (s x : Operand)
    (ho : o.op = .call { callee := .builtin .append, args := #[s, x], argTypes := #[74, 74] })
    (W0 : World) (v : Value) (es : List Int) (hs : a.eval s = v) (hl : IL W0 w v es) (ao : Option Addr) (c : Nat) (fs : List Int) (hx : a.eval x = .slice ao fs.length c)
    (hfs : NumsAt w ao fs) (hn : es.length + fs.length ≤ 100000)
    (h : ∀ v' w', IL W0 w' v' (es ++ fs) → w.grownBy w' v.ownBlock → K (a.put o.dst v') w') : if Region.wanted o (yielded ops a.tmps) = true then Oper.wp Try.prog o a w K Q else E :=
  step_app_row hgd s x ho W0.heap.size v es hs hl.own hl.ext.size ao c fs hx hfs hn (fun v' w' p q => h v' w' ⟨p, hl.ext.grown q (own_ge hl.own)⟩ q)

set_option maxRecDepth 20000 in
set_option maxHeartbeats 2000000 in
theorem refFault_any (ep lg : Int) (no oo : Option Addr) (nc oc : Nat) (nw od : List Int) (w : World) (hl : nw.length + od.length ≤ 100) (hn : NumsAt w no nw) (ho : NumsAt w oo od) :
    Calls Try.prog 75 #[.agg #[.int .i64 ep, .int .i64 lg, .slice no nw.length nc, .slice oo od.length oc]] w fun e w' => e = .returned (.int .i64 (manF ep lg nw od)) ∧ Ext w w' := by
  by_cases hep : ep < 1 ∨ 100000 < ep
  · have HF : Hid (manF ep lg nw od = 1) := by unfold manF Hid; rw [if_pos hep]
    clear hn ho
    rcases hep with h | h
    · go_enter Try.func75, Try.ntmps75
      go_wp2
      go_ret
      exact ⟨by rw [HF.out]; rfl, (Ext.refl w).alloc _⟩
    · have h' : ¬ ep < 1 := by omega
      go_enter Try.func75, Try.ntmps75
      go_wp2
      go_ret
      exact ⟨by rw [HF.out]; rfl, (Ext.refl w).alloc _⟩
  · have h1 : ¬ ep < 1 := by omega
    have h2 : ¬ 100000 < ep := by omega
    have HF : Hid (manF ep lg nw od = scan [] (lg :: (nw ++ od))) := by unfold manF Hid; rw [if_neg hep]
    clear hep
    go_enter Try.func75, Try.ntmps75
    go_upto_region 3 with fail
    go_cut [3] (fun s wx => ∃ ao c, s = .slice ao (lg :: (nw ++ od)).length c ∧ NumsAt wx ao (lg :: (nw ++ od)) ∧ Ext w wx)
    case first =>
      obtain ⟨W1, hW1⟩ : ∃ W1, W1 = w.alloc (.cells #[.int .i64 ep, .int .i64 lg, .slice no nw.length nc, .slice oo od.length oc] 100) := ⟨_, rfl⟩
      have hB1 : Blk W1 w.heap.size #[.int .i64 ep, .int .i64 lg, .slice no nw.length nc, .slice oo od.length oc] 100 := by rw [hW1]; exact Blk.new _ _ _
      have hx1 : Ext w W1 := by rw [hW1]; exact (Ext.refl w).alloc _
      have hsz1 : W1.heap.size = w.heap.size + 1 := by rw [hW1]; simp
      have HI0 : IL W1 ((W1.alloc (.cells #[.int .i64 lg] 3)).drew) (.slice (some ⟨w.heap.size + 1, 0, none⟩) 1 1) [lg] := by
        have := (IL.new (Ext.refl W1) lg).drew
        rw [hsz1] at this; exact this
      have m1 : W1.cell? ⟨w.heap.size, 1, none⟩ = some (.int .i64 lg) := hB1.cell 1
      have m2 : W1.cell? ⟨w.heap.size, 2, none⟩ = some (.slice no nw.length nc) := hB1.cell 2
      have m3 : W1.cell? ⟨w.heap.size, 3, none⟩ = some (.slice oo od.length oc) := hB1.cell 3
      have hlt1 := hB1.lt
      have HI : Hid (IL W1 ((W1.alloc (.cells #[.int .i64 lg] 3)).drew) (.slice (some ⟨w.heap.size + 1, 0, none⟩) 1 1) [lg]) := HI0
      have HM : Hid (∀ W, Ext W1 W → W.cell? ⟨w.heap.size, 1, none⟩ = some (.int .i64 lg) ∧ W.cell? ⟨w.heap.size, 2, none⟩ = some (.slice no nw.length nc) ∧ W.cell? ⟨w.heap.size, 3, none⟩ = some (.slice oo od.length oc)) := fun W hx => ⟨hx.cell m1, hx.cell m2, hx.cell m3⟩
      have HN : Hid (∀ W, Ext W1 W → NumsAt W no nw ∧ NumsAt W oo od) := fun W hx => ⟨(hn.ext hx1).ext hx, (ho.ext hx1).ext hx⟩
      rw [← hW1]
      clear HI0 hB1 hn ho hW1
      go_region_held3 (fun w' => w'.cell? ⟨w.heap.size, 1, none⟩ = some (.int .i64 lg) ∧ w'.cell? ⟨w.heap.size, 2, none⟩ = some (.slice no nw.length nc) ∧ w'.cell? ⟨w.heap.size, 3, none⟩ = some (.slice oo od.length oc))
        (first | (go_keep; done) | exact HM.out _ hI2.ext | exact HM.out _ hI1.ext)
        (first
          | (refine step_app_nums (by rfl) (.tmp 16) (.tmp 18) (by rfl) W1 _ [lg] (by rfl) HI.out no nc nw (by rfl) (HN.out _ HI.out.ext).1 (by simp; omega) ?_; intro v1 w1 hI1 hg1)
          | (refine step_app_nums (by rfl) (.tmp 19) (.tmp 21) (by rfl) W1 v1 ([lg] ++ nw) (by rfl) hI1 oo oc od (by rfl) (HN.out _ hI1.ext).2 (by simp; omega) ?_; intro v2 w2 hI2 hg2))
      all_goals go_wp2
      all_goals go_meet
      obtain ⟨ao, cap, hv, ha⟩ := hI2.at
      exact ⟨ao, cap, hv, ha, hx1.trans hI2.ext⟩
    case rest =>
      obtain ⟨ao, cp, rfl, hN, hx⟩ := hcut
      have HN : Hid (NumsAt wc ao (lg :: (nw ++ od))) := hN
      have hll : (lg :: (nw ++ od)).length ≤ 101 := by simp; omega
      have HLN : Hid (((lg :: (nw ++ od)).length : Int) = (nw.length : Int) + (od.length : Int) + 1) := by unfold Hid; simp
      clear hn ho hN
      generalize lg :: (nw ++ od) = all at *
      go_wp2_with fail
      go_loopw [4] (fun i wr => ∃ k : Nat, k ≤ all.length ∧ i = .int .i64 k ∧ scan [] all = scan (all.take k) (all.drop k) ∧ Ext wc wr) (fun i _ => all.length - (intOf i).toNat)
      case atStart => exact ⟨0, Nat.zero_le _, rfl, by simp, Ext.refl _⟩
      case round =>
        obtain ⟨k, hk, rfl, hsc, hxr⟩ := hrel
        by_cases hlt : k < all.length
        · obtain ⟨b, off, x, hao, he, hc0⟩ := HN.out.get hlt
          subst hao
          have hc := hxr.cell hc0
          have hst := scan_step all k x he
          rw [hst] at hsc
          by_cases hr : x < 2 ∨ 24 ≤ x
          · rw [if_pos hr] at hsc
            have HSC : Hid (scan [] all = 1) := hsc
            clear hsc hst
            rcases hr with hr | hr
            · go_wp2_with fail
              go_ret
              exact ⟨by rw [HF.out, HSC.out]; rfl, hx.trans hxr⟩
            · have hr1 : ¬ x < 2 := by omega
              have hr2 : 23 < x := by omega
              go_wp2_with fail
              go_ret
              exact ⟨by rw [HF.out, HSC.out]; rfl, hx.trans hxr⟩
          · rw [if_neg hr] at hsc
            have hr1 : ¬ x < 2 := by omega
            have hr2 : ¬ 23 < x := by omega
            have HSC : Hid (scan [] all = if x ∈ all.take k then 3 else scan (all.take (k + 1)) (all.drop (k + 1))) := hsc
            have HE : Hid (all[k]? = some x) := he
            clear hsc hst hr he
            obtain ⟨wo, hwo⟩ : ∃ wo : World, wo = wr := ⟨_, rfl⟩
            have hxo : Ext wc wo := by rw [hwo]; exact hxr
            rw [← hwo] at hc ⊢
            clear hwo hxr
            go_wp2_with fail
            go_loopw [5] (fun i wx => ∃ j : Nat, j ≤ k ∧ i = .int .i64 j ∧ ¬ x ∈ all.take j ∧ Ext wo wx) (fun i _ => k - (intOf i).toNat)
            case atStart => exact ⟨0, Nat.zero_le _, rfl, by simp, Ext.refl _⟩
            case round =>
              obtain ⟨j, hj, rfl, hnot, hxi⟩ := hrel
              by_cases hlj : j < k
              · obtain ⟨b', off', y, hao', hey, hcy0⟩ := HN.out.get (show j < all.length by omega)
                simp only [Option.some.injEq, Addr.mk.injEq, and_true] at hao'
                obtain ⟨rfl, rfl⟩ := hao'
                have hcy := (hxo.trans hxi).cell hcy0
                have hcx := hxi.cell hc
                have hsn : all.take (j + 1) = all.take j ++ [y] := by rw [List.take_add_one, hey]; rfl
                by_cases hxy : y = x
                · have HM : Hid (x ∈ all.take k) := by
                    have : y ∈ all.take k := List.mem_take_iff_getElem.2 ⟨j, by omega, by rw [List.getElem?_eq_getElem (by omega)] at hey; simpa using hey⟩
                    rw [Hid, ← hxy]; exact this
                  subst hxy
                  clear hsn hey hcy0 hc0 hnot
                  go_wp2_with fail
                  go_quiet (fail)
                  go_wp2_with fail
                  go_ret
                  exact ⟨by rw [HF.out, HSC.out, if_pos HM.out]; rfl, (hx.trans hxo).trans (hxi.drewN _)⟩
                · have HSN : Hid (¬ x ∈ all.take (j + 1)) := by unfold Hid; rw [hsn]; simp [hnot]; exact fun e => hxy e.symm
                  clear hsn hey hcy0 hc0 hnot
                  go_wp2_with fail
                  go_quiet (fail)
                  go_wp2_with fail
                  go_roundw
                  case rel => exact ⟨j + 1, by omega, by go_num, HSN.out, hxi.drewN _⟩
                  case measure => simp [intOf]; omega
              · have hjk : j = k := by omega
                subst hjk
                have HS2 : Hid (scan [] all = scan (all.take (j + 1)) (all.drop (j + 1))) := by rw [Hid, HSC.out, if_neg hnot]
                clear hc0 hnot
                go_wp2_with fail
                go_roundw
                case rel => exact ⟨j + 1, by omega, by go_num, HS2.out, hxo.trans hxi⟩
                case measure => simp [intOf]; omega
        · have HSC : Hid (scan [] all = 0) := by rw [Hid, hsc, List.drop_of_length_le (by omega)]; rfl
          clear hsc
          go_wp2_with fail
          go_ret
          exact ⟨by rw [HF.out, HSC.out]; rfl, hx.trans hxr⟩
end Go.Proofs.Ytpldeejagomfjaa
