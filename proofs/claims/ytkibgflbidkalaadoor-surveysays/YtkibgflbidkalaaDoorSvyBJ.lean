/- SvyB. -/
import Derived.Test.YtkibgflbidkalaaDoorSvyAJ
import Derived.Deep.RegionHeld3
import Derived.Deep.DeepCutAuto

/- SurveySays. -/
namespace Go.Proofs.YtkibgflbidkalaaDoor
open Go.RowKit Go.WideShapes

theorem light_es {acs : List ActE} {q : Nat} (h : lightActs acs q = true) {e : ActE} (he : e ∈ acs) : e.s.size ≤ 100 ∧ e.es.length ≤ 6 := by
  unfold lightActs at h
  simp only [Bool.and_eq_true, List.all_eq_true] at h
  have := h.2 e he
  unfold lightA light at this
  simp at this
  omega
/-- A load of an array that is guarded, and wanted. -/
theorem wpList_load_midG {P : Program} {ops : Array Oper} {rest : List Oper} {op : Oper} {a : Act} {w : World} {Q : Exit → Act → World → Prop} (hgd : Region.wanted op (yielded ops a.tmps) = true) (ty : TypeId) (x : Operand) (ho : op.op = .load ty x)
    (b o : Nat) (hx : a.eval x = .pointer (some ⟨b, o, none⟩)) (cs : List Value) (d : TypeDesc) (hc : w.rangeAt b o cs)
    (hu : P.underlying ty = some d) (hd : d.isRow = true) (hi : (P.info? ty).map (·.size) = some cs.length)
    (h : wpList P ops Q rest (a.put op.dst (.agg cs.toArray)) w) : wpList P ops Q (op :: rest) a w :=
  wpList_step fun K hK => by simp only [hgd, if_true]; exact wp_load_mid ty x ho b o hx cs d hc hu hd hi (hK _ _ h)
theorem layK {w : World} {b : Nat} {A0 A : Array Value} (hR : Blk w b A0 27) (h0 : A0.size = 24) (h : A.size = 24) (h1 : ∀ v ∈ A.toList, v.oneCell' = true) :
    (storeCells ⟨b, 0, none⟩ A.toList).run Tryd.prog w = .ok () (w.setCells b 0 A.toList) ∧ Blk (w.setCells b 0 A.toList) b A 27 := by
  have hb := Blk.setCells A.toList hR 0
  rw [putAt_all _ _ (by rw [Array.length_toList, h, h0])] at hb
  exact ⟨store_run b 0 A.toList _ (hR.there (by rw [Array.length_toList, h, h0]; exact Nat.le_refl 24)) h1, hb⟩
theorem SvyE.ext {w2 w3 : World} {sb cb : Nat} {m : Man} {f : Nat → Bool} {g : Nat → Int} (h : SvyE w2 sb cb m f g) (hx : Ext w2 w3) : SvyE w3 sb cb m f g :=
  ⟨fun W q => h.of W (hx.trans q), fun W q => h.spread W (hx.trans q), fun W q => h.man W (hx.trans q), fun W b q => h.bad W b (hx.trans q), fun W b q => h.wear W b (hx.trans q), h.ok, h.g0, h.some, h.nums⟩
theorem putK_step (g : Nat → Int) (l : List Int) (v : Int) (j i : Nat) (x : Int) (h : l[j]? = some x) : putK g (l.take (j + 1)) v i = if (i : Int) = x then v else putK g (l.take j) v i := by
  unfold putK
  rw [List.take_add_one, h]
  by_cases h1 : (i : Int) = x
  · rw [if_pos h1, if_pos (by rw [h1]; simp)]
  · rw [if_neg h1]
    by_cases h2 : (i : Int) ∈ l.take j
    · rw [if_pos h2, if_pos (List.mem_append_left _ h2)]
    · rw [if_neg h2, if_neg (fun hm => (List.mem_append.1 hm).elim h2 (fun h => by simp at h; exact h1 h))]
theorem SvAt.ext {w wr w' : World} {kb : Nat} {A : Array Value} {sb cb n k : Nat} (h : SvAt w wr kb A sb cb n k) (hx : Ext wr w') : SvAt w w' kb A sb cb n k := by
  obtain ⟨R, S, m, h1, h2, h3, h4, h5, h6⟩ := h.ex
  exact ⟨R, S, m, h1.ext hx, h2.trans hx, h3, h4.ext hx, h5, h6⟩
set_option maxRecDepth 20000 in
set_option maxHeartbeats 2000000 in
theorem surveySays_any (ao : Option Addr) (cap : Nat) (acs : List ActE) (w : World) (hg : GlobT w) (hl : acs.length ≤ 9223372036854775807) (has : ActsAt w ao acs) :
    Calls Tryd.prog 3 #[.slice ao acs.length cap] w fun e w' => e = .returned (.bool true) ∧ Ext w w' := by
  have HST : Hid (Calls Tryd.prog 4 #[] w fun e w' => ∃ cb sb S A c s1 s2, e = .returned (.tuple #[.pointer (some ⟨cb, 0, none⟩), .pointer (some ⟨sb, 0, none⟩), .bool true]) ∧ Up 4 w' S sb cb fm 0 [] ∧ CntE w' sb cb fm A c s1 s2 ∧ Ext w w' ∧ ∀ b ∈ S, w.heap.size ≤ b) := (stored_any w hg).mono fun _ w' h => by
    obtain ⟨cb, sb, S, h1, h2, h3, h4⟩ := h.up
    obtain ⟨A, c, s1, s2, hC⟩ := h2.cnt
    exact ⟨cb, sb, S, A, c, s1, s2, h1, h2, hC, h3, h4⟩
  have HL : Hid (∀ W, Ext w W → Calls Tryd.prog 7 #[.slice ao acs.length cap, .int .i64 60] W fun e w' => e = .returned (.bool (lightActs acs 60)) ∧ W = w') := fun W hx => (lightActs_any ao cap acs 60 W (by omega) hl (has.ext hx)).mono fun _ _ h => ⟨h.1, h.2.symm⟩
  have HSZ : Hid (∀ A : Array Value, A.size = 24 → (Tryd.prog.info? 27).map (·.size) = some A.toList.length) := fun A h => by rw [Array.length_toList, h]; kernel_rfl
  have HWK : Hid (lightActs acs 60 = true → ∀ W, Ext w W → Calls Tryd.prog 8 #[.slice ao acs.length cap] W fun e w' => e = .returned (.int .i64 (weakN acs : Int)) ∧ W = w') := fun hli W hx => by
    have h60 : acs.length ≤ 60 := by unfold lightActs at hli; simp at hli; exact hli.1
    exact (weak_any ao cap acs W (by omega) (has.ext hx)).mono fun _ _ h => ⟨h.1, h.2.symm⟩
  have HLS : Hid (lightActs acs 60 = true → acs.length ≤ 60) := fun hli => by unfold lightActs at hli; simp at hli; exact hli.1
  have HAS : Hid (ActsAt w ao acs) := has
  have HG : Hid (GlobT w) := hg
  obtain ⟨KO, hKO⟩ : ∃ KO : Nat → Nat, ∀ i, weakN (acs.take i) = KO i := ⟨_, fun _ => rfl⟩
  have HKS : Hid (∀ i e, acs[i]? = some e → KO (i + 1) = KO i + wk1 e) := fun i e he => by rw [← hKO, ← hKO, weakN_take he]
  have HK6 : Hid (∀ i, KO i ≤ weakN acs) := fun i => by rw [← hKO]; exact weakN_mono acs i
  have HK0 : Hid (KO 0 = 0) := by rw [Hid, ← hKO]; rfl
  clear has hg hKO hl
  generalize lightActs acs 60 = LA at *
  generalize weakN acs = q at *
  go_enter Tryd.func3, Tryd.ntmps3
  go_upto_region 4 with (first
    | (go_at_call 4; refine HST.out.mono ?_; rintro e w1 ⟨cb, sb, S, A, c, s1, s2, rfl, hU1, hC, hx1, hS1⟩; have HC : Hid (CntE w1 sb cb fm A c s1 s2) := hC; clear hC; have h24A := HC.out.size))
  go_upto_region 5 with (first
    | (go_at_call 5; refine (HC.out.of _ (Ext.refl w1)).mono ?_; rintro e w3 ⟨rfl, hx3⟩; have hsc := (lay24 w3 A h24A HC.out.one).1; simp only [Z24] at hsc))
  clear hsc
  have HL4 := lay24 w3 A h24A HC.out.one
  simp only [Z24] at HL4
  generalize (w3.alloc (.cells #[.int .i64 0, .int .i64 0, .int .i64 0, .int .i64 0, .int .i64 0, .int .i64 0, .int .i64 0, .int .i64 0, .int .i64 0, .int .i64 0, .int .i64 0, .int .i64 0, .int .i64 0, .int .i64 0, .int .i64 0, .int .i64 0, .int .i64 0, .int .i64 0, .int .i64 0, .int .i64 0, .int .i64 0, .int .i64 0, .int .i64 0, .int .i64 0] 27)).setCells w3.heap.size 0 A.toList = w4 at *
  have HB : Hid (∀ W, Ext w4 W → W.rangeAt w3.heap.size 0 A.toList) := fun W hx j v hv => by
    rw [Nat.zero_add, (HL4.2.1.ext hx).cell]
    simpa using hv
  have hx14 : Ext w1 w4 := hx3.trans HL4.2.2
  have HSZ1 := HSZ.out A h24A
  have hX4 : Ext w w4 := hx1.trans hx14
  have HSV : Hid (SvAt w w4 w3.heap.size A sb cb (4 + 9 * 0) (KO 0)) := ⟨[], S, fm, by rw [HK0.out]; exact hU1.ext hx14, hX4, hS1, HL4.2.1, fun hm => by have := hU1.lt _ hm; have := hx3.size; omega, by have := hx1.size; have := hx3.size; omega⟩
  generalize w3.heap.size = kb at *
  obtain ⟨cI, hcI⟩ : ∃ cI : Int → Int, ∀ kd, (c kd : Int) = cI kd := ⟨_, fun _ => rfl⟩
  have D1 : Hid (∀ W kd, Calls Tryd.prog 6 #[.agg A, .int .i64 kd] W fun e w' => e = .returned (.int .i64 (cI kd)) ∧ Ext W w') := fun W kd => (HC.out.count W kd).mono fun _ _ h => ⟨by rw [h.1, hcI], h.2⟩
  have hc1 : cI 1 = 2 := by rw [← hcI, HC.out.head]; rfl
  have hc2 : cI 2 = 1 := by rw [← hcI, HC.out.log]; rfl
  clear HC hcI HL4 hx3 hx14 hU1 hS1 hx1 HST
  have t0 : w4.rangeAt kb 0 A.toList := HB.out w4 (Ext.refl _)
  have hA : Ext w4 w4 := Ext.refl _
  go_upto_region 7 with (first
    | (refine wpList_load_mid rfl 27 (.tmp 6) rfl kb 0 (by rfl) A.toList _ t0 Tryd.underlying27 rfl HSZ1 ?_)
    | (refine wpList_load_midG (by rfl) 27 (.tmp 6) rfl kb 0 (by rfl) A.toList _ (HB.out _ hx5) Tryd.underlying27 rfl HSZ1 ?_)
    | (go_at_call 6; refine (D1.out _ _).mono ?_; rintro e w5 ⟨rfl, hx5⟩; have hA := hA.trans hx5))
  have HX5 : Hid (Ext w w5) := hX4.trans hA
  have HV5 : Hid (SvAt w w5 kb A sb cb (4 + 9 * 0) (KO 0)) := HSV.out.ext hA
  have H24 : Hid (A.size = 24) := h24A
  clear hX4 hA hx5 t0 HB D1 hc1 hc2 HSZ1 HSV h24A HK0
  cases LA with
  | false =>
    go_wp2_with (go_at_call 7; refine (HL.out _ HX5.out).mono ?_; rintro e w6 ⟨rfl, rfl⟩)
    go_ret
    exact ⟨rfl, HX5.out⟩
  | true =>
    have hl60 := HLS.out rfl
    have HWK2 : Hid (∀ W, Ext w W → Calls Tryd.prog 8 #[.slice ao acs.length cap] W fun e w' => e = .returned (.int .i64 (q : Int)) ∧ W = w') := HWK.out rfl
    clear HWK HLS
    by_cases hw6 : (6 : Int) < (q : Int)
    · go_wp2_with (first
        | (go_at_call 7; refine (HL.out _ HX5.out).mono ?_; rintro e w6 ⟨rfl, rfl⟩)
        | (go_at_call 8; refine (HWK2.out _ HX5.out).mono ?_; rintro e w6 ⟨rfl, rfl⟩))
      go_ret
      exact ⟨rfl, HX5.out⟩
    have HK7 : Hid (∀ i, KO i ≤ 6) := fun i => by have := HK6.out i; omega
    clear HK6
    go_upto_region 9 with (first
        | (go_at_call 7; refine (HL.out _ HX5.out).mono ?_; rintro e w6 ⟨rfl, rfl⟩)
        | (go_at_call 8; refine (HWK2.out _ HX5.out).mono ?_; rintro e w6 ⟨rfl, rfl⟩))
    clear HL HWK2 HX5 hw6
    go_wp2_with fail
    go_loopw [7] (fun i wr => ∃ j : Nat, j ≤ acs.length ∧ i = .int .i64 j ∧ SvAt w wr kb A sb cb (4 + 9 * j) (KO j)) (fun i _ => acs.length - (intOf i).toNat)
    case atStart => exact ⟨0, Nat.zero_le _, rfl, HV5.out⟩
    case round =>
      clear HV5
      obtain ⟨j, hj, rfl, hY⟩ := hrel
      by_cases hlt : j < acs.length
      · obtain ⟨b, off, e, rfl, he, c0, c1, c2, c3, c4, c5⟩ := HAS.out.get hlt
        have hxr := hY.x
        have g0 := hxr.cell c0
        have g2 := hxr.cell c2
        have g4 := hxr.cell c4
        have HKJ : Hid (KO (j + 1) = KO j + wk1 e ∧ KO (j + 1) ≤ 6) := ⟨HKS.out j e he, HK7.out (j + 1)⟩
        have HES : Hid (EntsAt w e.ao e.es) := c5.ents
        have HY0 : Hid (SvAt w wr kb A sb cb (4 + 9 * j) (KO j)) := hY
        have hjl : (j : Int) < (acs.length : Int) := by omega
        clear c0 c1 c2 c3 c4 c5 hY hxr he HKS HK7 HAS HG HSZ
        by_cases hkw : (e.kind.toList == [119, 114, 105, 116, 101]) = true
        · have hw1 : wk1 e = 0 := if_neg (by unfold isWk; rw [eq_of_beq hkw]; decide)
          have HC : Hid (Calls Tryd.prog 9 #[.pointer (some ⟨sb, 0, none⟩), .slice e.ao e.es.length e.cap] wr fun e' w' => (∃ v, e' = .returned v) ∧ SvAt w w' kb A sb cb (4 + 9 * (j + 1)) (KO (j + 1))) := (HY0.out.write (by omega) HES.out).mono fun _ _ hh => ⟨hh.1, hh.2.le (by omega) (by have := HKJ.out; omega)⟩
          clear HKJ HES HY0 hw1
          go_wp2_with (go_at_call 9; refine HC.out.mono ?_; rintro e' w4 ⟨⟨v4, rfl⟩, hY4⟩)
          go_roundw
          case rel => exact ⟨j + 1, by omega, by go_num, hY4⟩
          case measure => simp [intOf]; omega
        · have hkw' : (e.kind.toList == [119, 114, 105, 116, 101]) = false := by simpa using hkw
          clear hkw
          by_cases hkf : (e.kind.toList == [102, 108, 117, 115, 104]) = true
          · have hw1 : wk1 e = 0 := if_neg (by unfold isWk; rw [eq_of_beq hkf]; decide)
            have HC : Hid (Calls Tryd.prog 10 #[.pointer (some ⟨sb, 0, none⟩)] wr fun e' w' => (∃ v, e' = .returned v) ∧ SvAt w w' kb A sb cb (4 + 9 * (j + 1)) (KO (j + 1))) := (HY0.out.flush (by omega)).mono fun _ _ hh => ⟨hh.1, hh.2.le (by omega) (by have := HKJ.out; omega)⟩
            clear HKJ HES HY0 hw1
            go_wp2_with (go_at_call 10; refine HC.out.mono ?_; rintro e' w4 ⟨⟨v4, rfl⟩, hY4⟩)
            go_roundw
            case rel => exact ⟨j + 1, by omega, by go_num, hY4⟩
            case measure => simp [intOf]; omega
          · have hkf' : (e.kind.toList == [102, 108, 117, 115, 104]) = false := by simpa using hkf
            clear hkf
            by_cases hkc : (e.kind.toList == [99, 111, 109, 112, 97, 99, 116]) = true
            · have hw1 : wk1 e = 0 := if_neg (by unfold isWk; rw [eq_of_beq hkc]; decide)
              have HC : Hid (Calls Tryd.prog 11 #[.pointer (some ⟨sb, 0, none⟩)] wr fun e' w' => (∃ v, e' = .returned v) ∧ SvAt w w' kb A sb cb (4 + 9 * (j + 1)) (KO (j + 1))) := (HY0.out.compact (by omega)).mono fun _ _ hh => ⟨hh.1, hh.2.le (by omega) (by have := HKJ.out; omega)⟩
              clear HKJ HES HY0 hw1
              go_wp2_with (go_at_call 11; refine HC.out.mono ?_; rintro e' w4 ⟨⟨v4, rfl⟩, hY4⟩)
              go_roundw
              case rel => exact ⟨j + 1, by omega, by go_num, hY4⟩
              case measure => simp [intOf]; omega
            · have hkc' : (e.kind.toList == [99, 111, 109, 112, 97, 99, 116]) = false := by simpa using hkc
              clear hkc
              by_cases hkk : (e.kind.toList == [119, 101, 97, 107, 101, 110]) = true
              · have hw1 : wk1 e = 1 := if_pos hkk
                have HC : Hid (Calls Tryd.prog 12 #[.pointer (some ⟨cb, 0, none⟩), .int .i64 e.a] wr fun e' w' => (∃ v, e' = .returned v) ∧ SvAt w w' kb A sb cb (4 + 9 * (j + 1)) (KO (j + 1))) := (HY0.out.weaken (by have := HKJ.out; omega) e.a).mono fun _ _ hh => ⟨hh.1, hh.2.le (by omega) (by have := HKJ.out; omega)⟩
                clear HKJ HES HY0 hw1
                go_wp2_with (go_at_call 12; refine HC.out.mono ?_; rintro e' w4 ⟨⟨v4, rfl⟩, hY4⟩)
                go_roundw
                case rel => exact ⟨j + 1, by omega, by go_num, hY4⟩
                case measure => simp [intOf]; omega
              · have hkk' : (e.kind.toList == [119, 101, 97, 107, 101, 110]) = false := by simpa using hkk
                have HC : Hid (SvAt w wr kb A sb cb (4 + 9 * (j + 1)) (KO (j + 1))) := HY0.out.le (by omega) (by have := HKJ.out; omega)
                clear HKJ HES HY0 hkk
                go_wp2_with fail
                go_roundw
                case rel => exact ⟨j + 1, by omega, by go_num, HC.out⟩
                case measure => simp [intOf]; omega
      · have hje : j = acs.length := by omega
        subst hje
        obtain ⟨m, f, g, hE, hE2⟩ := hY.svy (by omega) HG.out
        obtain ⟨hB0, hkw⟩ : Blk wr kb A 27 ∧ w.heap.size ≤ kb := by
          obtain ⟨_, _, _, _, _, _, h4, _, h6⟩ := hY.ex
          exact ⟨h4, h6⟩
        have HXr : Hid (Ext w wr) := hY.x
        obtain ⟨G, hG⟩ : ∃ G, kindsF m f = G := ⟨_, rfl⟩
        have HOF : Hid (Calls Tryd.prog 5 #[.pointer (some ⟨cb, 0, none⟩), .pointer (some ⟨sb, 0, none⟩)] wr fun e w' => e = .returned (.agg (kC G)) ∧ Ext wr w' ∧ (storeCells ⟨kb, 0, none⟩ (kC G).toList).run Tryd.prog w' = .ok () (w'.setCells kb 0 (kC G).toList) ∧ Hid (Blk (w'.setCells kb 0 (kC G).toList) kb (kC G) 27 ∧ SvyE (w'.setCells kb 0 (kC G).toList) sb cb m f g ∧ Ext w (w'.setCells kb 0 (kC G).toList))) := (hE.of wr (Ext.refl _)).mono fun e w' hh => by
          rw [hG] at hh
          obtain ⟨q1, q2⟩ := layK (hB0.ext hh.2) H24.out (A := kC G) rfl (kC_one G)
          exact ⟨hh.1, hh.2, q1, q2, hE2 _ _ hh.2 (Kp.setCells (by simp) _ _ _), Ext.setCells hkw _ (HXr.out.trans hh.2) 0⟩
        have HGI : Hid (kindsF m f = G) := hG
        clear hY hE hE2 hB0 HG hG H24 HKS HK7 HAS HSZ
        obtain ⟨A2, hA2⟩ : ∃ A2, kC G = A2 := ⟨_, rfl⟩
        have HA2 : Hid (kC G = A2) := hA2
        rw [hA2] at HOF
        have h24 : A2.size = 24 := by rw [← hA2]; rfl
        clear hA2
        go_upto_region 22 with (go_at_call 5; refine HOF.out.mono ?_; rintro e w7 ⟨rfl, hx7, hsc, HW7⟩)
        clear hsc hx7
        generalize w7.setCells kb 0 A2.toList = w8 at *
        have HMN : Hid (Calls Tryd.prog 13 #[.pointer (some ⟨sb, 0, none⟩)] w8 fun e w' => MnfE w8 w' e m) := HW7.out.2.1.man w8 (Ext.refl _)
        go_upto_region 26 with (go_at_call 13; refine HMN.out.mono ?_; rintro e w9 ⟨a1, c1, a2, c2, rfl, hN9, hO9, hx9⟩)
        have HMB : Hid (Blk (w9.alloc (.cells #[.int .i64 m.ep, .int .i64 m.lg, .slice a1 m.nw.length c1, .slice a2 m.od.length c2] 42)) w9.heap.size #[.int .i64 m.ep, .int .i64 m.lg, .slice a1 m.nw.length c1, .slice a2 m.od.length c2] 42) := Blk.new _ _ _
        have hx10 : Ext w8 (w9.alloc (.cells #[.int .i64 m.ep, .int .i64 m.lg, .slice a1 m.nw.length c1, .slice a2 m.od.length c2] 42)) := hx9.alloc _
        have hx910 : Ext w9 (w9.alloc (.cells #[.int .i64 m.ep, .int .i64 m.lg, .slice a1 m.nw.length c1, .slice a2 m.od.length c2] 42)) := (Ext.refl _).alloc _
        have hz : (w9.alloc (.cells #[.int .i64 m.ep, .int .i64 m.lg, .slice a1 m.nw.length c1, .slice a2 m.od.length c2] 42)).heap.size = w9.heap.size + 1 := by simp
        generalize w9.alloc (.cells #[.int .i64 m.ep, .int .i64 m.lg, .slice a1 m.nw.length c1, .slice a2 m.od.length c2] 42) = w10 at *
        generalize w9.heap.size = mb at *
        have HM : Hid (∀ W, Ext w10 W → W.cell? ⟨mb, 1, none⟩ = some (.int .i64 m.lg) ∧ W.cell? ⟨mb, 2, none⟩ = some (.slice a1 m.nw.length c1) ∧ W.cell? ⟨mb, 3, none⟩ = some (.slice a2 m.od.length c2)) := fun W hx => ⟨(HMB.out.ext hx).cell 1, (HMB.out.ext hx).cell 2, (HMB.out.ext hx).cell 3⟩
        have HNW : Hid (∀ W, Ext w10 W → NumsAt W a1 m.nw) := fun W hx => hN9.ext (hx910.trans hx)
        have HOD : Hid (∀ W, Ext w10 W → NumsAt W a2 m.od) := fun W hx => hO9.ext (hx910.trans hx)
        have HE : Hid (SvyE w10 sb cb m f g) := HW7.out.2.1.ext hx10
        have HKB : Hid (∀ W, Ext w10 W → Blk W kb A2 27) := fun W hx => HW7.out.1.ext (hx10.trans hx)
        have HX10 : Hid (Ext w w10) := HW7.out.2.2.trans hx10
        have HNB : Hid (Blk (w10.alloc (.cells #[.int .i64 0, .int .i64 0, .int .i64 0, .int .i64 0, .int .i64 0, .int .i64 0] 44)) w10.heap.size (cntA G 0) 44 ∧ Ext w10 (w10.alloc (.cells #[.int .i64 0, .int .i64 0, .int .i64 0, .int .i64 0, .int .i64 0, .int .i64 0] 44))) := ⟨Blk.new _ _ _, (Ext.refl _).alloc _⟩
        clear hx10 hx910 hx9 hN9 hO9 HMB HMN HW7 HXr hkw HOF hlt
        generalize w10.alloc (.cells #[.int .i64 0, .int .i64 0, .int .i64 0, .int .i64 0, .int .i64 0, .int .i64 0] 44) = w11 at *
        rw [hz] at HNB
        have HNBz : Hid (w10.heap.size = mb + 1) := hz
        clear hz
        generalize mb + 1 = nb at *
        go_wp2_with fail
        go_loopw [9, 10, 12] (fun l mo i wr => ∃ b : Nat, b ≤ 24 ∧ i = .int .i64 b ∧ l = .int .i64 (lsF f g b).1 ∧ mo = .int .i64 (lsF f g b).2 ∧ Ext w10 wr ∧ Blk wr nb (cntA G b) 44) (fun _ _ i _ => 24 - (intOf i).toNat)
        case atStart => exact ⟨0, by omega, rfl, rfl, rfl, HNB.out.2, HNB.out.1⟩
        case round =>
          clear HNB
          obtain ⟨b, hb, rfl, rfl, rfl, hxr, hBn⟩ := hrel
          by_cases hlt : b < 24
          · have h24b : (b : Int) < 24 := by omega
            have HBD : Hid (Calls Tryd.prog 14 #[.pointer (some ⟨cb, 0, none⟩), .int .i64 (b : Int)] wr fun e w' => e = .returned (.bool (f b)) ∧ wr = w') := HE.out.bad wr b hxr hlt
            have HBW : Hid (∀ W, Ext w10 W → Calls Tryd.prog 14 #[.pointer (some ⟨cb, 0, none⟩), .int .i64 (b : Int)] W fun e w' => e = .returned (.bool (f b)) ∧ W = w') := fun W hx => HE.out.bad W b hx hlt
            have HWW : Hid (∀ W, Ext w10 W → Calls Tryd.prog 15 #[.pointer (some ⟨cb, 0, none⟩), .int .i64 (b : Int)] W fun e w' => e = .returned (.int .i64 (g b)) ∧ W = w') := fun W hx => HE.out.wear W b hx hlt
            obtain ⟨m1, m2, m3⟩ := HM.out wr hxr
            have HRW : Hid (Ext w10 wr ∧ Blk wr nb (cntA G b) 44) := ⟨hxr, hBn⟩
            clear hxr hBn
            go_upto_if 93 with fail
            go_cut [13] (fun v wx => v = .int .i64 (want0 m f b) ∧ wx = wr)
            case first =>
              clear HE HM HNW HOD HKB HRW HBW HWW HGI HA2
              by_cases h2 : b < 2
              · have h2' : (b : Int) < 2 := by omega
                have HW : Hid (want0 m f b = 1) := by unfold want0; rw [Hid, if_pos h2]
                clear HBD
                go_wp2_with fail
                go_meet
                exact ⟨by rw [HW.out], rfl⟩
              · have h2' : ¬ (b : Int) < 2 := by omega
                by_cases hlg : (b : Int) = m.lg
                · have HW : Hid (want0 m f b = 2) := by unfold want0; rw [Hid, if_neg h2, if_pos hlg]
                  have hbe : ((b : Int) == m.lg) = true := by rw [hlg]; simp
                  clear hlg HBD
                  go_wp2_with fail
                  go_meet
                  exact ⟨by rw [HW.out], rfl⟩
                · have hbe : ((b : Int) == m.lg) = false := by rw [beq_eq_false_iff_ne]; exact hlg
                  cases hf : f b with
                  | true =>
                    have HW : Hid (want0 m f b = 5) := by unfold want0; rw [Hid, if_neg h2, if_neg hlg, if_pos hf]
                    rw [hf] at HBD
                    clear hlg
                    go_wp2_with (go_at_call 14; refine HBD.out.mono ?_; rintro e w12 ⟨rfl, rfl⟩)
                    go_meet
                    exact ⟨by rw [HW.out], rfl⟩
                  | false =>
                    have HW : Hid (want0 m f b = 0) := by unfold want0; rw [Hid, if_neg h2, if_neg hlg, if_neg (by rw [hf]; simp)]
                    rw [hf] at HBD
                    clear hlg
                    go_wp2_with (go_at_call 14; refine HBD.out.mono ?_; rintro e w12 ⟨rfl, rfl⟩)
                    go_meet
                    exact ⟨by rw [HW.out], rfl⟩
            case rest =>
              obtain ⟨rfl, rfl⟩ := hcut
              have hnl := HE.out.nums
              have HMO : Hid (manFault m = 0) := HE.out.ok
              have HG0 : Hid (∀ b, 0 ≤ g b ∧ g b ≤ 1073741824) := HE.out.g0
              have HNA : Hid (NumsAt wc a1 m.nw) := HNW.out wc HRW.out.1
              have HNO : Hid (NumsAt wc a2 m.od) := HOD.out wc HRW.out.1
              have HWT : Hid (putK (putK (want0 m f) m.nw 3) m.od 4 b = kindsF m f b) := want_eq m f b HMO.out
              clear HM HNW HOD HE HMO HBD
              obtain ⟨wq, rfl⟩ : ∃ wq, wq = wc := ⟨_, rfl⟩
              go_wp2_with fail
              go_loopw [13, 14] (fun v i wr => ∃ j : Nat, j ≤ m.nw.length ∧ i = .int .i64 j ∧ v = .int .i64 (putK (want0 m f) (m.nw.take j) 3 b) ∧ wq = wr) (fun _ i _ => m.nw.length - (intOf i).toNat)
              case atStart => exact ⟨0, Nat.zero_le _, rfl, by simp [putK], rfl⟩
              case round =>
                obtain ⟨j, hj, rfl, rfl, rfl⟩ := hrel
                by_cases hlj : j < m.nw.length
                · obtain ⟨b0, off, x, rfl, hx, hc⟩ := HNA.out.get hlj
                  have hjl : (j : Int) < (m.nw.length : Int) := by omega
                  have hjn : m.nw.length ≤ 100 := by omega
                  have HST := putK_step (want0 m f) m.nw 3 j b x hx
                  clear hx HNA HNO HWT HKB HRW HBW HWW HGI HA2 HX10 HNBz HG0
                  by_cases hxb : (b : Int) = x
                  · have HS : Hid (putK (want0 m f) (m.nw.take (j + 1)) 3 b = 3) := by rw [Hid, HST, if_pos hxb]
                    have hbe : (x == (b : Int)) = true := by rw [hxb]; simp
                    clear HST hxb
                    go_wp2_with fail
                    go_roundw
                    case rel => exact ⟨j + 1, by omega, by go_num, by rw [HS.out], trivial⟩
                    case measure => simp [intOf]; omega
                  · have HS : Hid (putK (want0 m f) (m.nw.take (j + 1)) 3 b = putK (want0 m f) (m.nw.take j) 3 b) := by rw [Hid, HST, if_neg hxb]
                    have hbe : (x == (b : Int)) = false := by rw [beq_eq_false_iff_ne]; exact fun e => hxb e.symm
                    clear HST hxb
                    go_wp2_with fail
                    go_roundw
                    case rel => exact ⟨j + 1, by omega, by go_num, by rw [HS.out], trivial⟩
                    case measure => simp [intOf]; omega
                · have hjn : j = m.nw.length := by omega
                  subst hjn
                  rw [List.take_length]
                  clear HNA
                  obtain ⟨W1, hW1⟩ : ∃ W1, putK (want0 m f) m.nw 3 = W1 := ⟨_, rfl⟩
                  rw [hW1] at HWT ⊢
                  clear hW1
                  go_wp2_with fail
                  go_loopw [13, 15] (fun v i wr => ∃ j : Nat, j ≤ m.od.length ∧ i = .int .i64 j ∧ v = .int .i64 (putK W1 (m.od.take j) 4 b) ∧ wq = wr) (fun _ i _ => m.od.length - (intOf i).toNat)
                  case atStart => exact ⟨0, Nat.zero_le _, rfl, by simp [putK], rfl⟩
                  case round =>
                    obtain ⟨j, hj, rfl, rfl, rfl⟩ := hrel
                    by_cases hlj : j < m.od.length
                    · obtain ⟨b0, off, x, rfl, hx, hc⟩ := HNO.out.get hlj
                      have hjl : (j : Int) < (m.od.length : Int) := by omega
                      have hjn : m.od.length ≤ 100 := by omega
                      have HST := putK_step W1 m.od 4 j b x hx
                      clear hx HNO HWT HKB HRW HBW HWW HGI HA2 HX10 HNBz HG0
                      by_cases hxb : (b : Int) = x
                      · have HS : Hid (putK W1 (m.od.take (j + 1)) 4 b = 4) := by rw [Hid, HST, if_pos hxb]
                        have hbe : (x == (b : Int)) = true := by rw [hxb]; simp
                        clear HST hxb
                        go_wp2_with fail
                        go_roundw
                        case rel => exact ⟨j + 1, by omega, by go_num, by rw [HS.out], trivial⟩
                        case measure => simp [intOf]; omega
                      · have HS : Hid (putK W1 (m.od.take (j + 1)) 4 b = putK W1 (m.od.take j) 4 b) := by rw [Hid, HST, if_neg hxb]
                        have hbe : (x == (b : Int)) = false := by rw [beq_eq_false_iff_ne]; exact fun e => hxb e.symm
                        clear HST hxb
                        go_wp2_with fail
                        go_roundw
                        case rel => exact ⟨j + 1, by omega, by go_num, by rw [HS.out], trivial⟩
                        case measure => simp [intOf]; omega
                    · have hjn : j = m.od.length := by omega
                      subst hjn
                      rw [List.take_length]
                      clear HNO m1 m2
                      obtain ⟨v, hv, hv6⟩ := kinds_nat m f b
                      rw [HWT.out, hv]
                      have hGv : G b = (v : Int) := by rw [← HGI.out]; exact hv
                      have hv6' : (v : Int) < 6 := by omega
                      have k1 : wq.cell? ⟨kb, b, none⟩ = some (.int .i64 (v : Int)) := by rw [(HKB.out wq HRW.out.1).cell, ← HA2.out, kC_get G b hlt, hGv]
                      have n1 : wq.cell? ⟨nb, v, none⟩ = some (.int .i64 (cntK G (v : Int) b : Int)) := by rw [HRW.out.2.cell]; exact cntA_get G b v hv6
                      have n2 := HRW.out.2.free v
                      have hcl := cntK_le G (v : Int) b
                      have HR2 : Hid (Ext w10 (wq.setCell ⟨nb, v, none⟩ (.int .i64 ((cntK G (v : Int) b : Int) + 1))) ∧ Blk (wq.setCell ⟨nb, v, none⟩ (.int .i64 ((cntK G (v : Int) b : Int) + 1))) nb (cntA G (b + 1)) 44) := ⟨HRW.out.1.set (p := ⟨nb, v, none⟩) (by have := HNBz.out; simp; omega) _, by have := HRW.out.2.set v (.int .i64 ((cntK G (v : Int) b : Int) + 1)); rw [cntA_set G b v hv6 hGv] at this; exact this⟩
                      have HLE : Hid (0 ≤ (lsF f g b).1 ∧ (lsF f g b).1 ≤ 1073741824 ∧ 0 ≤ (lsF f g b).2 ∧ (lsF f g b).2 ≤ 1073741824) := lsF_le f g HG0.out b
                      have HLS : Hid (lsF f g (b + 1) = if 1 < b ∧ f b = false then (min (lsF f g b).1 (g b), max (lsF f g b).2 (g b)) else lsF f g b) := rfl
                      clear HRW HKB HWT HGI HA2 HNBz hGv hv
                      generalize cntK G (v : Int) b = cv at *
                      go_upto_region 49 with fail
                      obtain ⟨w12, hw12⟩ : ∃ W, wq.setCell ⟨nb, v, none⟩ (.int .i64 ((cv : Int) + 1)) = W := ⟨_, rfl⟩
                      rw [hw12] at HR2 ⊢
                      clear hw12 k1 n1 n2 hcl hv6 hv6'
                      by_cases hb1 : 1 < b
                      · have hb1' : (1 : Int) < (b : Int) := by omega
                        cases hf : f b with
                        | true =>
                          have HL1 : Hid (lsF f g (b + 1) = lsF f g b) := by have := HLS.out; rw [hf, if_neg (by simp)] at this; exact this
                          have HB1 : Hid (Calls Tryd.prog 14 #[.pointer (some ⟨cb, 0, none⟩), .int .i64 (b : Int)] w12 fun e w' => e = .returned (.bool true) ∧ w12 = w') := by have := HBW.out w12 HR2.out.1; rw [hf] at this; exact this
                          clear HBW HWW HLS HLE hf HX10 HG0
                          go_wp2_with (go_at_call 14; refine HB1.out.mono ?_; rintro e w13 ⟨rfl, rfl⟩)
                          go_roundw
                          case rel => exact ⟨b + 1, by omega, by go_num, by rw [HL1.out], by rw [HL1.out], HR2.out.1, HR2.out.2⟩
                          case measure => simp [intOf]; omega
                        | false =>
                          have HL1 : Hid (lsF f g (b + 1) = (min (lsF f g b).1 (g b), max (lsF f g b).2 (g b))) := by have := HLS.out; rw [hf, if_pos ⟨hb1, rfl⟩] at this; exact this
                          have HB1 : Hid (Calls Tryd.prog 14 #[.pointer (some ⟨cb, 0, none⟩), .int .i64 (b : Int)] w12 fun e w' => e = .returned (.bool false) ∧ w12 = w') := by have := HBW.out w12 HR2.out.1; rw [hf] at this; exact this
                          have HW1 : Hid (Calls Tryd.prog 15 #[.pointer (some ⟨cb, 0, none⟩), .int .i64 (b : Int)] w12 fun e w' => e = .returned (.int .i64 (g b)) ∧ w12 = w') := HWW.out w12 HR2.out.1
                          clear HBW HWW HLS hf HX10
                          generalize lsF f g b = z at *
                          obtain ⟨z1, z2⟩ := z
                          generalize g b = gb at *
                          clear HLE HG0
                          go_wp2_with (first
                            | (go_at_call 14; refine HB1.out.mono ?_; rintro e w13 ⟨rfl, rfl⟩)
                            | (go_at_call 15; refine HW1.out.mono ?_; rintro e w13 ⟨rfl, rfl⟩))
                          go_roundw
                          case rel => exact ⟨b + 1, by omega, by go_num, by rw [HL1.out], by rw [HL1.out], HR2.out.1, HR2.out.2⟩
                          case measure => simp [intOf]; omega
                      · have hb1' : ¬ (1 : Int) < (b : Int) := by omega
                        have HL1 : Hid (lsF f g (b + 1) = lsF f g b) := by have := HLS.out; rw [if_neg (fun h => hb1 h.1)] at this; exact this
                        clear HBW HWW HLS HLE HX10 HG0
                        go_wp2_with fail
                        go_roundw
                        case rel => exact ⟨b + 1, by omega, by go_num, by rw [HL1.out], by rw [HL1.out], HR2.out.1, HR2.out.2⟩
                        case measure => simp [intOf]; omega
          · have hb24 : b = 24 := by omega
            subst hb24
            have HSP : Hid (∀ W, Ext w10 W → Calls Tryd.prog 16 #[.pointer (some ⟨cb, 0, none⟩)] W fun e w' => e = .returned (.tuple #[.int .i64 (lsF f g 24).1, .int .i64 (lsF f g 24).2]) ∧ W = w') := fun W hx => by rw [HE.out.least]; exact HE.out.spread W hx
            obtain ⟨cN, hcN⟩ : ∃ cN : Int → Int, ∀ kd, (cntK G kd 24 : Int) = cN kd := ⟨_, fun _ => rfl⟩
            have HCN : Hid (∀ W (kd : Int), Calls Tryd.prog 6 #[.agg A2, .int .i64 kd] W fun e w' => e = .returned (.int .i64 (cN kd)) ∧ Ext W w') := fun W kd => by rw [← HA2.out, ← hcN]; exact count_any G kd W
            have HRD : Hid (∀ W, Ext wr W → ∀ j : Nat, j < 6 → W.rangeAt kb 0 A2.toList ∧ W.cell? ⟨nb, j, none⟩ = some (.int .i64 (cN (j : Int)))) := fun W hx j hj => ⟨fun i v hv => by
              rw [Nat.zero_add, (HKB.out W (hxr.trans hx)).cell]
              simpa using hv, by rw [(hBn.ext hx).cell, ← hcN]; exact cntA_get G 24 j hj⟩
            have hsz1 : (Tryd.prog.info? 27).map (·.size) = some A2.toList.length := by rw [Array.length_toList, h24]; kernel_rfl
            have HXE : Hid (Ext w wr) := HX10.out.trans hxr
            have HXR : Hid (Ext w10 wr) := hxr
            clear HE HM HNW HOD HKB HGI HA2 hcN hBn hxr h24 HX10 HNBz
            generalize lsF f g 24 = z at *
            obtain ⟨z1, z2⟩ := z
            obtain ⟨wy, rfl⟩ : ∃ W, W = wr := ⟨_, rfl⟩
            go_wp2_with fail
            go_loopw [16] (fun i wr => ∃ j : Nat, j ≤ 6 ∧ i = .int .i64 j ∧ Ext wy wr) (fun i _ => 6 - (intOf i).toNat)
            case atStart => exact ⟨0, Nat.zero_le _, rfl, Ext.refl _⟩
            case round =>
              obtain ⟨j, hj, rfl, hxx⟩ := hrel
              by_cases hl6 : j < 6
              · have hl6' : (j : Int) < 6 := by omega
                have HS : Hid (∀ W, Ext wr W → W.rangeAt kb 0 A2.toList ∧ W.cell? ⟨nb, j, none⟩ = some (.int .i64 (cN (j : Int)))) := fun W hx => HRD.out W (hxx.trans hx) j hl6
                have HC1 : Hid (∀ W, Calls Tryd.prog 6 #[.agg A2, .int .i64 (j : Int)] W fun e w' => e = .returned (.int .i64 (cN (j : Int))) ∧ Ext W w') := fun W => HCN.out W j
                generalize cN (j : Int) = cj at *
                clear HRD HCN HSP
                go_upto_region 55 with fail
                obtain ⟨hs1, hs2⟩ := HS.out wr (Ext.refl _)
                have hund := Tryd.underlying27
                refine wp_region_held_drew (S := fun W => W.rangeAt kb 0 A2.toList ∧ W.cell? ⟨nb, j, none⟩ = some (.int .i64 cj)) (by kernel_rfl) (HS.out _ (Ext.refl wr).drew) (fun hHeld => ?_)
                refine wpAnyH_take (i := 0) (oi := ({ dst := some 161, op := Op.load 27 (Operand.tmp 6), type := 27, pos := "law.go:543", after := #[], guard := none } : Oper)) (v := .agg A2) rfl (by kernel_rfl) (by kernel_rfl) (by kernel_rfl) (fun _ _ _ h => h) (yieldsIf_load_mid (by rfl) _ _ rfl _ _ rfl _ _ (fun w hw => hw.1) hund rfl hsz1) (by assumption) ?_
                try simp only [Act.put, List.setIfInBounds_toArray, List.set_cons_zero, List.set_cons_succ]
                refine wpAnyH_take (i := 1) (oi := ({ dst := some 162, op := Op.move (Operand.tmp 16), type := 3, pos := "law.go:543", after := #[], guard := none } : Oper)) (v := .int .i64 (j : Int)) rfl (by kernel_rfl) (by kernel_rfl) (by kernel_rfl) (fun _ _ _ h => h) (Or.inl ⟨by rfl, ?_⟩) (by assumption) ?_
                · (intro W hSw; obtain ⟨q1, q2⟩ := hSw; go_simp)
                try simp only [Act.put, List.setIfInBounds_toArray, List.set_cons_zero, List.set_cons_succ]
                refine wpAnyH_take (i := 3) (oi := ({ dst := some 164, op := Op.move (Operand.tmp 16), type := 3, pos := "law.go:543", after := #[], guard := none } : Oper)) (v := .int .i64 (j : Int)) rfl (by kernel_rfl) (by kernel_rfl) (by kernel_rfl) (fun _ _ _ h => h) (Or.inl ⟨by rfl, ?_⟩) (by assumption) ?_
                · (intro W hSw; obtain ⟨q1, q2⟩ := hSw; go_simp)
                try simp only [Act.put, List.setIfInBounds_toArray, List.set_cons_zero, List.set_cons_succ]
                refine wpAnyH_take (i := 4) (oi := ({ dst := some 165, op := Op.indexAddr 44 (Operand.tmp 11) (Operand.tmp 164), type := 0, pos := "law.go:543", after := #[{ on := 3, ground := Ground.data }], guard := none } : Oper)) (v := .pointer (some ⟨nb, j, none⟩)) rfl (by kernel_rfl) (by kernel_rfl) (by kernel_rfl) (fun _ _ _ h => h) (Or.inl ⟨by rfl, ?_⟩) (by assumption) ?_
                · (intro W hSw; obtain ⟨q1, q2⟩ := hSw; go_simp)
                try simp only [Act.put, List.setIfInBounds_toArray, List.set_cons_zero, List.set_cons_succ]
                refine wpAnyH_take (i := 5) (oi := ({ dst := some 166, op := Op.load 3 (Operand.tmp 165), type := 3, pos := "law.go:543", after := #[{ on := 4, ground := Ground.data }], guard := none } : Oper)) (v := .int .i64 cj) rfl (by kernel_rfl) (by kernel_rfl) (by kernel_rfl) (fun _ _ _ h => h) (Or.inl ⟨by rfl, ?_⟩) (by assumption) ?_
                · (intro W hSw; obtain ⟨q1, q2⟩ := hSw; go_simp)
                try simp only [Act.put, List.setIfInBounds_toArray, List.set_cons_zero, List.set_cons_succ]
                refine wpAnyH_ready (rs := [2]) (by kernel_rfl) (by simp) ?_
                refine AllReadyH.cons (o := ({ dst := some 163, op := Op.call { callee := Callee.value (Operand.func 6), args := #[Operand.tmp 161, Operand.tmp 162], argTypes := #[27, 3] }, type := 3, pos := "law.go:543", after := #[{ on := 0, ground := Ground.data }, { on := 1, ground := Ground.data }], guard := none } : Oper)) rfl (fun K hK => ?_) AllReadyH.nil
                go_simp
                go_at_call 6; refine (HC1.out _).mono ?_; rintro e w8 ⟨rfl, hx8⟩
                have hX8 : Ext wr w8 := Ext.trans (by repeat (first | assumption | exact Ext.refl _ | refine Ext.drew ?_ | refine Ext.drewN ?_ _ | refine Ext.alloc ?_ _)) hx8
                try go_simp
                refine hK.out _ _ (HS.out w8 hX8) (fun hHeld => ?_)
                clear hK K hx8
                try simp only [Act.put, List.setIfInBounds_toArray, List.set_cons_zero, List.set_cons_succ]
                refine wpAnyH_take (i := 6) (oi := ({ dst := some 167, op := Op.binOp BinOp.neq 3 (Operand.tmp 163) (Operand.tmp 166) 3, type := 4, pos := "law.go:543", after := #[{ on := 2, ground := Ground.data }, { on := 5, ground := Ground.data }], guard := none } : Oper)) (v := .bool false) rfl (by kernel_rfl) (by kernel_rfl) (by kernel_rfl) (fun _ _ _ h => h) (Or.inl ⟨by rfl, ?_⟩) (by assumption) ?_
                · (intro W hSw; obtain ⟨q1, q2⟩ := hSw; go_simp)
                try simp only [Act.put, List.setIfInBounds_toArray, List.set_cons_zero, List.set_cons_succ]
                refine wpAnyH_done (by kernel_rfl) ?_ _
                have HXX : Hid (Ext wy w8) := hxx.trans hX8
                clear hX8 hxx HS HC1 hs1 hs2 hHeld
                go_wp2_with fail
                go_roundw
                case rel => exact ⟨j + 1, by omega, by go_num, HXX.out⟩
                case measure => simp [intOf]; omega
              · have hj6 : j = 6 := by omega
                subst hj6
                have HSP1 : Hid (Calls Tryd.prog 16 #[.pointer (some ⟨cb, 0, none⟩)] wr fun e w' => e = .returned (.tuple #[.int .i64 z1, .int .i64 z2]) ∧ wr = w') := HSP.out wr (HXR.out.trans hxx)
                have HXF : Hid (Ext w wr) := HXE.out.trans hxx
                clear HRD HCN HSP hxx
                go_wp2_with (go_at_call 16; refine HSP1.out.mono ?_; rintro e w14 ⟨rfl, rfl⟩)
                go_ret
                exact ⟨rfl, HXF.out⟩
end Go.Proofs.YtkibgflbidkalaaDoor
