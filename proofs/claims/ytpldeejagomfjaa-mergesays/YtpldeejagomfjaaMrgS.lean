
/- MergeSays. -/
import Derived.Test.YtpldeejagomfjaaMrgC
import Derived.Test.YtpldeejagomfjaaMrgD
import Derived.Test.YtpldeejagomfjaaLstK
import Derived.Test.YtpldeejagomfjaaLstR
namespace Go.Proofs.Ytpldeejagomfjaa
open Go.RowKit

theorem live_ret (ao : Option Addr) (cap : Nat) (es : List Ent) (w : World) (hl : es.length ≤ 1000) (hes : EntsAt w ao es) :
    Calls Try.prog 66 #[.slice ao es.length cap] w fun e w' => RetL w w' e (liveE es) := by
  refine (live_any ao cap es w hl hes).mono ?_
  rintro e w' ⟨v, rfl, h⟩
  exact h.ret
theorem refLive_ret (ao : Option Addr) (cap : Nat) (es : List Ent) (w : World) (hl : es.length ≤ 1000) (hes : EntsAt w ao es) :
    Calls Try.prog 67 #[.slice ao es.length cap] w fun e w' => RetL w w' e (liveE es) := by
  refine (refLive_any ao cap es w hl hes).mono ?_
  rintro e w' ⟨v, rfl, h⟩
  exact h.ret
theorem not_false_true {b : Bool} (h : (!b) = false) : b = true := by simpa using h
theorem two_closed (w : World) (bA bB : Nat) (hA : EntsAt w (some ⟨bA, 0, none⟩) [eA]) (hB : EntsAt w (some ⟨bB, 0, none⟩) [eAx, eB]) :
    Calls Try.prog 62 #[.slice (some ⟨bA, 0, none⟩) 1 1, .slice (some ⟨bB, 0, none⟩) 2 2] w fun e w' => RetL w w' e [eA, eB] := by
  have := two_ret (some ⟨bA, 0, none⟩) (some ⟨bB, 0, none⟩) 1 2 [eA] [eAx, eB] w (by simp) (by simp) (by simp) (by simp) hA hB
  rw [two_ab] at this
  exact this

set_option maxRecDepth 20000 in
set_option maxHeartbeats 2000000 in
theorem mergeSays_any (ao : Option Addr) (cap : Nat) (ls : List LE) (w : World) (hl : ls.length ≤ 9223372036854775807) (hcap : ls.length ≤ cap) (hll : ∀ l ∈ ls, l.es.length ≤ 9223372036854775807) (hA : ListsAt w ao ls) :
    Calls Try.prog 10 #[.slice ao ls.length cap] w fun e w' => e = .returned (.bool true) ∧ Ext w w' := by
  have CT : Hid (∀ o1 o2 : Obj, o1 = .cells #[.string ⟨#[97]⟩, .string ⟨#[]⟩, .bool false] 30 → o2 = .cells #[.string ⟨#[97]⟩, .string ⟨#[120]⟩, .bool false, .string ⟨#[98]⟩, .string ⟨#[]⟩, .bool false] 30 →
      Calls Try.prog 62 #[.slice (some ⟨w.heap.size, 0, none⟩) 1 1, .slice (some ⟨w.heap.size + 1, 0, none⟩) 2 2] ((w.alloc o1).alloc o2) fun e w' => RetL ((w.alloc o1).alloc o2) w' e [eA, eB]) := by
    rintro o1 o2 rfl rfl
    exact two_closed _ _ _ (ents_blk [eA] ((Blk.new w _ _).alloc _) rfl) (ents_blk [eAx, eB] (Blk.new' _ _ _ (by simp)) rfl)
  go_enter Try.func10, Try.ntmps10
  have hxC : Hid (∀ o1 o2 w1, Ext ((w.alloc o1).alloc o2) w1 → Ext w w1) := fun o1 o2 w1 h => (((Ext.refl w).alloc o1).alloc o2).trans h
  have CS : Hid (∀ (w1 : World) oo oc o, o = .cells #[.string ⟨#[97]⟩, .string ⟨#[]⟩, .bool false, .string ⟨#[98]⟩, .string ⟨#[]⟩, .bool false] 30 → EntsAt w1 oo [eA, eB] →
      Calls Try.prog 26 #[.slice oo 2 oc, .slice (some ⟨w1.heap.size, 0, none⟩) 2 2] (w1.alloc o) fun e w' => e = .returned (.bool true) ∧ Ext w1 w') := by
    rintro w1 oo oc o rfl h
    refine (sameEntries_eq oo (some ⟨w1.heap.size, 0, none⟩) oc 2 [eA, eB] _ (by simp) (h.ext ((Ext.refl w1).alloc _)) (ents_blk [eA, eB] (Blk.new w1 _ _) rfl)).mono ?_
    rintro e w' ⟨rfl, q, rfl⟩
    exact ⟨rfl, ((Ext.refl w1).alloc _).drewN q⟩
  have SE : Hid (∀ (W : World) xo yo xc yc (es : List Ent), es.length ≤ 9223372036854775807 → EntsAt W xo es → EntsAt W yo es → Calls Try.prog 26 #[.slice xo es.length xc, .slice yo es.length yc] W fun e w' => e = .returned (.bool true) ∧ Ext W w') := by
    intro W xo yo xc yc es h1 h2 h3
    refine (sameEntries_eq xo yo xc yc es W h1 h2 h3).mono ?_
    rintro e w' ⟨rfl, q, rfl⟩
    exact ⟨rfl, (Ext.refl W).drewN q⟩
  go_wp2_with (first
    | (go_at_call 62; refine (CT.out _ _ rfl rfl).mono ?_; rintro e w1 ⟨oo, oc, rfl, hoc, hoA, hox⟩; have hx1 := hxC.out _ _ _ hox; clear hox hoc)
    | (go_at_call_of 26 (Value.slice oo 2 oc); refine (CS.out w1 oo oc _ rfl hoA).mono ?_; rintro e w2 ⟨rfl, hxs⟩; have hx2 := hx1.trans hxs; clear hxs hoA))
  · go_ret
    exact ⟨rfl, hx2⟩
  · have h6 : ls.length ≤ 6 := by omega
    clear CT CS hxC
    go_loopw [4] (fun i wr => ∃ k : Nat, k ≤ ls.length ∧ i = .int .i64 k ∧ Few (ls.take k) ∧ Ext w wr) (fun i _ => ls.length - (intOf i).toNat)
    case atStart => exact ⟨0, Nat.zero_le _, rfl, ⟨by simp, by simp⟩, hx2⟩
    case round =>
      clear hx2 hx1
      obtain ⟨k, hk, rfl, hF, hx⟩ := hrel
      by_cases hlt : k < ls.length
      · obtain ⟨b, off, es, eo, ec, rfl, he, h1, h2, h3⟩ := (hA.ext hx).get hlt
        have hel := hll _ (List.mem_of_getElem? he)
        have HF : Hid (light es 20 = true ∧ Ris es → Few (ls.take (k + 1))) := fun hh => by
          have e2 : ls.take (k + 1) = ls.take k ++ [⟨es, eo, ec⟩] := by rw [List.take_add_one, he]; rfl
          have hlen : es.length ≤ 20 := by have := hh.1; unfold light at this; simp at this; exact this.1
          rw [e2]
          refine ⟨fun l hl => ?_, fun l hl => ?_⟩
          · rcases List.mem_append.1 hl with hl | hl
            · exact hF.ris l hl
            · simp at hl; subst hl; exact hh.2
          · rcases List.mem_append.1 hl with hl | hl
            · exact hF.len l hl
            · simp at hl; subst hl; exact Nat.le_trans hlen (by decide)
        dsimp only at hel
        clear he hF hA hll SE
        go_wp2_with (go_at_call 63; refine (rising_any eo ec es 20 _ (by omega) hel h3).mono ?_; rintro e w3 ⟨⟨bb, rfl, hb⟩, q3, rfl⟩)
        · go_ret
          exact ⟨rfl, hx.drewN q3⟩
        · have hF2 := HF.out (hb (not_false_true (by assumption)))
          go_roundw
          case rel => exact ⟨k + 1, by omega, by go_num, hF2, hx.drewN q3⟩
          case measure => simp [intOf]; omega
      · have hF2 : Few ls := by rwa [List.take_of_length_le (by omega)] at hF
        have hal := alls_len hF2
        have HL : Hid ((liveE (alls ls)).length ≤ 9223372036854775807) := by
          have := List.length_filter_le (fun e : Ent => !e.gone) (alls ls); unfold Hid liveE; omega
        have CA : Hid (∀ W, Ext w W → Calls Try.prog 64 #[.slice ao ls.length cap] W fun e w' => RetL W w' e (alls ls)) := fun W h => all_any 6 ao cap ls W h6 (by omega) hcap hF2 (hA.ext h)
        have CM : Hid (∀ W, Ext w W → Calls Try.prog 65 #[.slice ao ls.length cap] W fun e w' => RetL W w' e (alls ls)) := fun W h => merged_any ao cap ls W (by omega) hF2 (hA.ext h)
        have hal2 : (alls ls).length ≤ 300 := by omega
        rcases (show ls.length < 2 ∨ 2 ≤ ls.length by omega) with h2 | h2
        · have hd : decide ((ls.length : Int) < 2) = true := by simp; omega
          clear hF hF2 hal hA hll
          generalize alls ls = m at *
          generalize hmv : liveE m = mv at *
          have HV : Hid (liveE m = mv) := hmv
          clear hmv
          go_wp2_with (first
            | (go_at_call 64; refine (CA.out _ hx).mono ?_; rintro e w3 ⟨ao3, ca3, rfl, hc3, ha3, hx3⟩)
            | (go_at_call 65; refine (CM.out _ (hx.trans hx3)).mono ?_; rintro e w4 ⟨ao4, ca4, rfl, hc4, ha4, hx4⟩)
            | (go_at_call_of 26 (Value.slice ao3 m.length ca3); refine (SE.out _ ao3 ao4 ca3 ca4 m (by omega) (ha3.ext hx4) ha4).mono ?_; rintro e w5 ⟨rfl, hx5⟩)
            | (go_at_call 66; refine (live_ret ao3 ca3 m _ (by omega) (ha3.ext (hx4.trans hx5))).mono ?_; rw [HV.out]; rintro e w6 ⟨ao6, ca6, rfl, hc6, ha6, hx6⟩)
            | (go_at_call 67; refine (refLive_ret ao3 ca3 m _ (by omega) (ha3.ext ((hx4.trans hx5).trans hx6))).mono ?_; rw [HV.out]; rintro e w7 ⟨ao7, ca7, rfl, hc7, ha7, hx7⟩)
            | (go_at_call_of 26 (Value.slice ao6 mv.length ca6); refine (SE.out _ ao6 ao7 ca6 ca7 mv HL.out (ha6.ext hx7) ha7).mono ?_; rintro e w8 ⟨rfl, hx8⟩))
          go_quiet (fail)
          go_wp2
          go_ret
          exact ⟨rfl, (((((hx.trans hx3).trans hx4).trans hx5).trans hx6).trans hx7).trans hx8 |>.drewN _⟩
        · obtain ⟨b, off, e0, o0, c0, rfl, he0, p0, p1, p2⟩ := hA.get (k := 0) (by omega)
          obtain ⟨b', off', e1, o1, c1, hbb, he1, r0, r1, r2⟩ := hA.get (k := 1) (by omega)
          obtain ⟨rfl, rfl⟩ : b' = b ∧ off' = off := by simp at hbb; exact ⟨hbb.1.symm, hbb.2.symm⟩
          have f0 := hF2.len _ (List.mem_of_getElem? he0)
          have f1 := hF2.len _ (List.mem_of_getElem? he1)
          have u0 := hF2.ris _ (List.mem_of_getElem? he0)
          have u1 := hF2.ris _ (List.mem_of_getElem? he1)
          dsimp only at f0 f1 u0 u1
          have ht : ls.take 2 = [⟨e0, o0, c0⟩, ⟨e1, o1, c1⟩] := by
            rw [List.take_add_one, List.take_add_one, he0, he1]; rfl
          have h2e : alls (ls.take 2) = twoE e0 e1 := by
            rw [ht]
            show putsE (alls [⟨e1, o1, c1⟩]) e0 = _
            rw [show alls [⟨e1, o1, c1⟩] = e1 from allE_one u1, puts_two u0 u1]
          have hd : decide ((ls.length : Int) < 2) = false := by simp; omega
          have CT2 : Hid (∀ W, Ext w W → Calls Try.prog 62 #[.slice o0 e0.length c0, .slice o1 e1.length c1] W fun e w' => RetL W w' e (twoE e0 e1)) := fun W h => two_ret o0 o1 c0 c1 e0 e1 W (by omega) (by omega) p1 r1 (p2.ext h) (r2.ext h)
          have CM2 : Hid (∀ W, Ext w W → Calls Try.prog 65 #[.slice (hd1 (some ⟨b', off', none⟩) cap) 2 cap] W fun e w' => RetL W w' e (twoE e0 e1)) := fun W h => by
            have := merged_any (hd1 (some ⟨b', off', none⟩) cap) cap (ls.take 2) W (by simp; omega) (hF2.sub fun l hl => List.mem_of_mem_take hl) (hA.hd.ext h)
            rw [h2e, show (ls.take 2).length = 2 by simp; omega] at this
            exact this
          have ht2 : (twoE e0 e1).length ≤ 9223372036854775807 := by have := two_length e0 e1; omega
          have rs := fun W => run_hd W (some ⟨b', off', none⟩) ls.length cap 2 (by omega)
          rw [show (((2 : Nat) : Int)) = 2 from rfl] at rs
          have lp0 : (0 : Int) < (ls.length : Int) := by omega
          have lp1 : (1 : Int) < (ls.length : Int) := by omega
          have lp2 : 0 < ls.length := by omega
          have lp3 : ¬ ls = [] := by intro e; rw [e] at lp2; simp at lp2
          simp only [Nat.add_zero] at p0
          clear hF hF2 hal hA hll hbb he0 he1 ht h2e u0 u1
          generalize alls ls = m at *
          generalize hmv : liveE m = mv at *
          have HV : Hid (liveE m = mv) := hmv
          clear hmv
          generalize twoE e0 e1 = tt at *
          go_wp2_with (first
            | (go_at_call 64; refine (CA.out _ hx).mono ?_; rintro e w3 ⟨ao3, ca3, rfl, hc3, ha3, hx3⟩)
            | (go_at_call 65; refine (CM.out _ (hx.trans hx3)).mono ?_; rintro e w4 ⟨ao4, ca4, rfl, hc4, ha4, hx4⟩)
            | (go_at_call_of 26 (Value.slice ao3 m.length ca3); refine (SE.out _ ao3 ao4 ca3 ca4 m (by omega) (ha3.ext hx4) ha4).mono ?_; rintro e w5 ⟨rfl, hx5⟩)
            | (go_at_call 66; refine (live_ret ao3 ca3 m _ (by omega) (ha3.ext (hx4.trans hx5))).mono ?_; rw [HV.out]; rintro e w6 ⟨ao6, ca6, rfl, hc6, ha6, hx6⟩)
            | (go_at_call 67; refine (refLive_ret ao3 ca3 m _ (by omega) (ha3.ext ((hx4.trans hx5).trans hx6))).mono ?_; rw [HV.out]; rintro e w7 ⟨ao7, ca7, rfl, hc7, ha7, hx7⟩)
            | (go_at_call_of 26 (Value.slice ao6 mv.length ca6); refine (SE.out _ ao6 ao7 ca6 ca7 mv HL.out (ha6.ext hx7) ha7).mono ?_; rintro e w8 ⟨rfl, hx8⟩))
          have hx9 : Ext w w8 := (((((hx.trans hx3).trans hx4).trans hx5).trans hx6).trans hx7).trans hx8
          have v0 := hx9.cell p0
          have v1 := hx9.cell r0
          clear hx3 hx4 hx5 hx6 hx7 hx8 ha3 ha4 ha6 ha7 CA CM hx
          go_region_held3 (fun w' => w'.cell? ⟨b', off', none⟩ = some (.slice o0 e0.length c0) ∧ w'.cell? ⟨b', off' + 1, none⟩ = some (.slice o1 e1.length c1))
            (first | (go_keep; done) | exact ⟨hw12.cell p0, hw12.cell r0⟩ | exact ⟨hw11.cell p0, hw11.cell r0⟩ | exact ⟨hw10.cell p0, hw10.cell r0⟩)
            (first
              | (go_at_call 62; refine (CT2.out _ (by repeat (first | exact hx9 | refine Ext.drew ?_ | refine Ext.drewN ?_ _))).mono ?_; rintro e w10 ⟨ao10, ca10, rfl, hc10, ha10, hx10⟩; have hw10 : Ext w w10 := Ext.trans (by repeat (first | exact hx9 | refine Ext.drew ?_ | refine Ext.drewN ?_ _)) hx10)
              | (go_at_call 65; refine (CM2.out _ (by repeat (first | exact hw10 | exact hx9 | refine Ext.drew ?_ | refine Ext.drewN ?_ _))).mono ?_; rintro e w11 ⟨ao11, ca11, rfl, hc11, ha11, hx11⟩; have hw11 : Ext w w11 := hw10.trans hx11)
              | (go_at_call 26; refine (SE.out _ ao10 ao11 ca10 ca11 tt ht2 (ha10.ext hx11) ha11).mono ?_; rintro e w12 ⟨rfl, hx12⟩; have hw12 : Ext w w12 := hw11.trans hx12))
          go_wp2
          go_ret
          exact ⟨rfl, hw12⟩
end Go.Proofs.Ytpldeejagomfjaa
