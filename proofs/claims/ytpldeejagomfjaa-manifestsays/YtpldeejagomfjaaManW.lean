
/- ManifestSays: the walk. -/
import Derived.Test.YtpldeejagomfjaaManU
import Derived.Deep.RegionHeld3
import Derived.Deep.RegionWith
namespace Go.Proofs.Ytpldeejagomfjaa
open Go.RowKit Go.WideShapes
attribute [local go_sem ↓] Go.wp_at_zero Go.wp_at_succ

/-- A manifest, and where its lists are. -/
structure ME where
  m : Man
  no : Option Addr
  nc : Nat
  oo : Option Addr
  oc : Nat
def MansAt (w : World) (ao : Option Addr) (ms : List ME) : Prop :=
  ms ≠ [] → ∃ b off, ao = some ⟨b, off, none⟩ ∧ ∀ (i : Nat) (e : ME), ms[i]? = some e → w.cell? ⟨b, off + i * 4, none⟩ = some (.int .i64 e.m.ep) ∧ w.cell? ⟨b, off + i * 4 + 1, none⟩ = some (.int .i64 e.m.lg) ∧
    w.cell? ⟨b, off + i * 4 + 2, none⟩ = some (.slice e.no e.m.nw.length e.nc) ∧ w.cell? ⟨b, off + i * 4 + 3, none⟩ = some (.slice e.oo e.m.od.length e.oc) ∧ NumsAt w e.no e.m.nw ∧ NumsAt w e.oo e.m.od
theorem MansAt.get {w : World} {ao : Option Addr} {ms : List ME} (h : MansAt w ao ms) {k : Nat} (hk : k < ms.length) : ∃ b off e, ao = some ⟨b, off, none⟩ ∧ ms[k]? = some e ∧ w.cell? ⟨b, off + k * 4, none⟩ = some (.int .i64 e.m.ep) ∧ w.cell? ⟨b, off + k * 4 + 1, none⟩ = some (.int .i64 e.m.lg) ∧
    w.cell? ⟨b, off + k * 4 + 2, none⟩ = some (.slice e.no e.m.nw.length e.nc) ∧ w.cell? ⟨b, off + k * 4 + 3, none⟩ = some (.slice e.oo e.m.od.length e.oc) ∧ NumsAt w e.no e.m.nw ∧ NumsAt w e.oo e.m.od := by
  obtain ⟨b, off, e, hc⟩ := h (by intro h0; rw [h0] at hk; simp at hk)
  exact ⟨b, off, ms[k], e, by simp [hk], hc k ms[k] (by simp [hk])⟩

/-- The chip, and the last manifest that was noted, as they lie. -/
structure MSt (w wr : World) (cb L : Nat) (M : CM) (o : Option Man) : Prop where
  chip : ChipAt wr cb M
  last : ∃ x1 c1 x2 c2, Blk wr L #[.int .i64 (pM o).ep, .int .i64 (pM o).lg, .slice x1 (pM o).nw.length c1, .slice x2 (pM o).od.length c2] 100 ∧ NumsAt w x1 (pM o).nw ∧ NumsAt w x2 (pM o).od
  ext : Ext w wr
  old : w.heap.size ≤ cb
  far : cb < L
theorem MSt.more {w wr wx : World} {cb L : Nat} {M : CM} {o : Option Man} (h : MSt w wr cb L M o) (hx : Ext wr wx) : MSt w wx cb L M o := by
  obtain ⟨x1, c1, x2, c2, h1, h2, h3⟩ := h.last
  exact ⟨h.chip.ext hx, ⟨x1, c1, x2, c2, Blk.ext hx h1, h2, h3⟩, h.ext.trans hx, h.old, h.far⟩
theorem MSt.grown {w wr wx : World} {cb L : Nat} {M M' : CM} {o : Option Man} (h : MSt w wr cb L M o) (hg : wr.grownBy wx (some cb)) (hc : ChipAt wx cb M') : MSt w wx cb L M' o := by
  obtain ⟨x1, c1, x2, c2, h1, h2, h3⟩ := h.last
  have hf := h.far
  refine ⟨hc, ⟨x1, c1, x2, c2, h1.grown hg (by omega), h2, h3⟩, h.ext.grown hg (fun k hk => ?_), h.old, h.far⟩
  cases hk; exact h.old
set_option maxRecDepth 20000 in
set_option maxHeartbeats 4000000 in
theorem manifestSays_any (m : Man) (no oo : Option Addr) (nc oc : Nat) (s : ByteArray) (ao : Option Addr) (cap : Nat) (ms : List ME) (w : World) (hn : NumsAt w no m.nw) (ho : NumsAt w oo m.od) (hms : MansAt w ao ms) (hsl : s.size ≤ 9223372036854775807) (hml : ms.length ≤ 9223372036854775807) :
    Calls Try.prog 11 #[.agg #[.int .i64 m.ep, .int .i64 m.lg, .slice no m.nw.length nc, .slice oo m.od.length oc], .string s, .slice ao ms.length cap] w fun e w' => e = .returned (.bool true) ∧ Ext w w' := by
  have HB : Hid (∀ W, Ext (w.alloc (.cells #[.int .i64 m.ep, .int .i64 m.lg, .slice no m.nw.length nc, .slice oo m.od.length oc] 100)) W → Blk W w.heap.size #[.int .i64 m.ep, .int .i64 m.lg, .slice no m.nw.length nc, .slice oo m.od.length oc] 100) := fun W hx => Blk.ext hx (Blk.new _ _ _)
  have hx0 : Ext w (w.alloc (.cells #[.int .i64 m.ep, .int .i64 m.lg, .slice no m.nw.length nc, .slice oo m.od.length oc] 100)) := (Ext.refl w).alloc _
  by_cases hL : m.nw.length ≤ 30 ∧ m.od.length ≤ 30
  · obtain ⟨hL1, hL2⟩ := hL
    have HLT : Hid (∀ W, Calls Try.prog 69 #[.agg #[.int .i64 m.ep, .int .i64 m.lg, .slice no m.nw.length nc, .slice oo m.od.length oc]] W fun e w' => e = .returned (.bool true) ∧ Ext W w') := fun W => lightM_yes m.ep m.lg no oo nc oc m.nw m.od W hL1 hL2
    by_cases hs : s.size ≤ 100
    · by_cases h40 : ms.length ≤ 40
      · have HBY : Hid (∀ W, Ext w W → Calls Try.prog 70 #[.agg #[.int .i64 m.ep, .int .i64 m.lg, .slice no m.nw.length nc, .slice oo m.od.length oc]] W fun e w' => e = .returned (.tuple #[.string (bT m), errV (manFault m)]) ∧ Ext W w') := fun W hx => bytes_uni m no oo nc oc W (by omega) (hn.ext hx) (ho.ext hx)
        have HRB : Hid (∀ W, Ext w W → Calls Try.prog 71 #[.agg #[.int .i64 m.ep, .int .i64 m.lg, .slice no m.nw.length nc, .slice oo m.od.length oc]] W fun e w' => e = .returned (.tuple #[.string (bT m), .int .i64 (manFault m)]) ∧ Ext W w') := fun W hx => refBytes_uni m no oo nc oc W (by omega) (hn.ext hx) (ho.ext hx)
        have HCK : Hid (∀ W, Ext w W → Calls Try.prog 74 #[.agg #[.int .i64 m.ep, .int .i64 m.lg, .slice no m.nw.length nc, .slice oo m.od.length oc]] W fun e w' => e = .returned (errV (manFault m)) ∧ Ext W w') := fun W hx => check_uni m no oo nc oc W (by omega) (hn.ext hx) (ho.ext hx)
        have HRF : Hid (∀ W, Ext w W → Calls Try.prog 75 #[.agg #[.int .i64 m.ep, .int .i64 m.lg, .slice no m.nw.length nc, .slice oo m.od.length oc]] W fun e w' => e = .returned (.int .i64 (manFault m)) ∧ Ext W w') := fun W hx => refFault_any m.ep m.lg no oo nc oc m.nw m.od W (by omega) (hn.ext hx) (ho.ext hx)
        have HS1 : Hid (∀ W, Calls Try.prog 19 #[errV (manFault m), .int .i64 (manFault m)] W fun e w' => e = .returned (.bool true) ∧ Ext W w') := fun W => same_uni _ (fault_pos m) W
        have HPA : Hid (∀ W, Calls Try.prog 72 #[.string s] W _) := fun W => parse_uni s W hs
        have HOF : Hid (∀ W, Calls Try.prog 73 #[.string s] W _) := fun W => of_uni s W hs
        have HS2 : Hid (∀ W, Calls Try.prog 19 #[errV (pF (parseB s.data.toList)), .int .i64 (pF (parseB s.data.toList))] W fun e w' => e = .returned (.bool true) ∧ Ext W w') := fun W => same_uni _ (pF_pos _) W
        obtain ⟨hq1, hq2⟩ := pM_len s.data.toList (by rw [← Lib.size_eq]; exact hs)
        generalize pF (parseB s.data.toList) = pf at *
        generalize pM (parseB s.data.toList) = p at *
        obtain ⟨pe, pg, pn, po⟩ := p
        dsimp only at HPA HOF hq1 hq2
        have HSM : Hid (∀ W a1 c1 a2 c2 b1 k1 b2 k2, NumsAt W a1 pn → NumsAt W a2 po → NumsAt W b1 pn → NumsAt W b2 po → Calls Try.prog 76 #[.agg #[.int .i64 pe, .int .i64 pg, .slice a1 pn.length c1, .slice a2 po.length c2], .agg #[.int .i64 pe, .int .i64 pg, .slice b1 pn.length k1, .slice b2 po.length k2]] W fun e w' => e = .returned (.bool true) ∧ Ext W w') := fun W a1 c1 a2 c2 b1 k1 b2 k2 q1 q2 q3 q4 => by
          have := sameM_any pe pg pe pg a1 a2 b1 b2 c1 c2 k1 k2 pn po W (by omega) (by omega) q1 q2 q3 q4
          rw [decide_eq_true ⟨rfl, rfl⟩] at this; exact this
        generalize hfm : manFault m = fm at *
        generalize errV fm = vf at *
        generalize errV pf = vp at *
        generalize bT m = bt at *
        clear hfm
        have h40' : ¬ (40 : Int) < (ms.length : Int) := by omega
        have hs' : ¬ (100 : Int) < (s.size : Int) := by omega
        have HMS : Hid (MansAt w ao ms) := hms
        clear hn ho hms
        go_enter Try.func11, Try.ntmps11
        go_upto_region 4 with (first
          | (go_at_call 68; refine (manifests_true _).mono ?_; rintro e w1 ⟨rfl, hx1⟩; have m0 : World.cell? w1 ⟨w.heap.size, 0, none⟩ = some (.int .i64 m.ep) := (HB.out _ hx1).cell 0; have m1 : World.cell? w1 ⟨w.heap.size, 1, none⟩ = some (.int .i64 m.lg) := (HB.out _ hx1).cell 1; have m2 : World.cell? w1 ⟨w.heap.size, 2, none⟩ = some (.slice no m.nw.length nc) := (HB.out _ hx1).cell 2; have m3 : World.cell? w1 ⟨w.heap.size, 3, none⟩ = some (.slice oo m.od.length oc) := (HB.out _ hx1).cell 3)
          | (go_at_call 69; refine (HLT.out _).mono ?_; rintro e w2 ⟨rfl, hx2'⟩; have hx2 := hx1.trans hx2'; clear m0 m1 m2 m3 hx2' hx1))
        have m0 : World.cell? w2 ⟨w.heap.size, 0, none⟩ = some (.int .i64 m.ep) := (HB.out _ hx2).cell 0
        have m1 : World.cell? w2 ⟨w.heap.size, 1, none⟩ = some (.int .i64 m.lg) := (HB.out _ hx2).cell 1
        have m2 : World.cell? w2 ⟨w.heap.size, 2, none⟩ = some (.slice no m.nw.length nc) := (HB.out _ hx2).cell 2
        have m3 : World.cell? w2 ⟨w.heap.size, 3, none⟩ = some (.slice oo m.od.length oc) := (HB.out _ hx2).cell 3
        go_upto_region 8 with (first
          | (go_at_call 70; refine (HBY.out _ (hx0.trans hx2)).mono ?_; rintro e w3 ⟨rfl, hx3'⟩; have hx3 := hx2.trans hx3'; clear hx3' hx2 m0 m1 m2 m3; have m0 : World.cell? w3 ⟨w.heap.size, 0, none⟩ = some (.int .i64 m.ep) := (HB.out _ hx3).cell 0; have m1 : World.cell? w3 ⟨w.heap.size, 1, none⟩ = some (.int .i64 m.lg) := (HB.out _ hx3).cell 1; have m2 : World.cell? w3 ⟨w.heap.size, 2, none⟩ = some (.slice no m.nw.length nc) := (HB.out _ hx3).cell 2; have m3 : World.cell? w3 ⟨w.heap.size, 3, none⟩ = some (.slice oo m.od.length oc) := (HB.out _ hx3).cell 3)
          | (go_at_call 71; refine (HRB.out _ (hx0.trans hx3)).mono ?_; rintro e w4 ⟨rfl, hx4'⟩; have hx4 := hx3.trans hx4'; clear hx4' hx3 m0 m1 m2 m3)
          | (go_at_call 72; refine (HPA.out _).mono ?_; rintro e w5 ⟨a1, c1, a2, c2, rfl, q1, q2, hx5'⟩; have hx5 := hx4.trans hx5'; clear hx5' hx4)
          | (go_at_call 73; refine (HOF.out _).mono ?_; rintro e w6 ⟨b1, k1, b2, k2, rfl, q3, q4, hx6⟩))
        have hB5 : Blk w6 w5.heap.size #[.int .i64 pe, .int .i64 pg, .slice a1 pn.length c1, .slice a2 po.length c2] 100 := Blk.ext hx6 (Blk.new _ _ _)
        have hq1' := (q1.ext ((Ext.refl w5).alloc (.cells #[.int .i64 pe, .int .i64 pg, .slice a1 pn.length c1, .slice a2 po.length c2] 100))).ext hx6
        have hq2' := (q2.ext ((Ext.refl w5).alloc (.cells #[.int .i64 pe, .int .i64 pg, .slice a1 pn.length c1, .slice a2 po.length c2] 100))).ext hx6
        have hx6w := (hx5.alloc (.cells #[.int .i64 pe, .int .i64 pg, .slice a1 pn.length c1, .slice a2 po.length c2] 100)).trans hx6
        obtain ⟨W8, hW8⟩ : ∃ W8, W8 = w6.alloc (.cells #[.int .i64 pe, .int .i64 pg, .slice b1 pn.length k1, .slice b2 po.length k2] 100) := ⟨_, rfl⟩
        have hxa : Ext w6 W8 := by rw [hW8]; exact (Ext.refl w6).alloc _
        have HB5 : Hid (Blk W8 w5.heap.size #[.int .i64 pe, .int .i64 pg, .slice a1 pn.length c1, .slice a2 po.length c2] 100) := Blk.ext hxa hB5
        have HB6 : Hid (Blk W8 w6.heap.size #[.int .i64 pe, .int .i64 pg, .slice b1 pn.length k1, .slice b2 po.length k2] 100) := by rw [hW8]; exact Blk.new _ _ _
        have HX8 : Hid (Ext w W8) := hx0.trans (hx6w.trans hxa)
        have HX8b : Hid (Ext (w.alloc (.cells #[.int .i64 m.ep, .int .i64 m.lg, .slice no m.nw.length nc, .slice oo m.od.length oc] 100)) W8) := hx6w.trans hxa
        have HQ : Hid (NumsAt W8 a1 pn ∧ NumsAt W8 a2 po ∧ NumsAt W8 b1 pn ∧ NumsAt W8 b2 po) := ⟨hq1'.ext hxa, hq2'.ext hxa, q3.ext hxa, q4.ext hxa⟩
        rw [← hW8]
        clear hW8 hB5 hq1' hq2' hx6w hxa q1 q2 q3 q4 hx5 hx6
        generalize w5.heap.size = D1 at *
        generalize w6.heap.size = D2 at *
        go_cut [94] (fun t wx => t = .bool false ∧ Ext W8 wx)
        case first =>
          have HM : Hid (∀ W, Ext W8 W → (W.cell? ⟨w.heap.size, 0, none⟩ = some (.int .i64 m.ep) ∧ W.cell? ⟨w.heap.size, 1, none⟩ = some (.int .i64 m.lg) ∧ W.cell? ⟨w.heap.size, 2, none⟩ = some (.slice no m.nw.length nc) ∧ W.cell? ⟨w.heap.size, 3, none⟩ = some (.slice oo m.od.length oc)) ∧ (W.cell? ⟨D1, 0, none⟩ = some (.int .i64 pe) ∧ W.cell? ⟨D1, 1, none⟩ = some (.int .i64 pg) ∧ W.cell? ⟨D1, 2, none⟩ = some (.slice a1 pn.length c1) ∧ W.cell? ⟨D1, 3, none⟩ = some (.slice a2 po.length c2)) ∧ (W.cell? ⟨D2, 0, none⟩ = some (.int .i64 pe) ∧ W.cell? ⟨D2, 1, none⟩ = some (.int .i64 pg) ∧ W.cell? ⟨D2, 2, none⟩ = some (.slice b1 pn.length k1) ∧ W.cell? ⟨D2, 3, none⟩ = some (.slice b2 po.length k2))) := fun W hx =>
            ⟨⟨(HB.out W (HX8b.out.trans hx)).cell 0, (HB.out W (HX8b.out.trans hx)).cell 1, (HB.out W (HX8b.out.trans hx)).cell 2, (HB.out W (HX8b.out.trans hx)).cell 3⟩, ⟨(Blk.ext hx HB5.out).cell 0, (Blk.ext hx HB5.out).cell 1, (Blk.ext hx HB5.out).cell 2, (Blk.ext hx HB5.out).cell 3⟩, ⟨(Blk.ext hx HB6.out).cell 0, (Blk.ext hx HB6.out).cell 1, (Blk.ext hx HB6.out).cell 2, (Blk.ext hx HB6.out).cell 3⟩⟩
          obtain ⟨⟨m0, m1, m2, m3⟩, ⟨x0, x1, x2, x3⟩, ⟨y0, y1, y2, y3⟩⟩ := HM.out W8 (Ext.refl _)
          have hW : Ext W8 W8 := Ext.refl _
          go_region_held3 (fun W => (W.cell? ⟨w.heap.size, 0, none⟩ = some (.int .i64 m.ep) ∧ W.cell? ⟨w.heap.size, 1, none⟩ = some (.int .i64 m.lg) ∧ W.cell? ⟨w.heap.size, 2, none⟩ = some (.slice no m.nw.length nc) ∧ W.cell? ⟨w.heap.size, 3, none⟩ = some (.slice oo m.od.length oc)) ∧ (W.cell? ⟨D1, 0, none⟩ = some (.int .i64 pe) ∧ W.cell? ⟨D1, 1, none⟩ = some (.int .i64 pg) ∧ W.cell? ⟨D1, 2, none⟩ = some (.slice a1 pn.length c1) ∧ W.cell? ⟨D1, 3, none⟩ = some (.slice a2 po.length c2)) ∧ (W.cell? ⟨D2, 0, none⟩ = some (.int .i64 pe) ∧ W.cell? ⟨D2, 1, none⟩ = some (.int .i64 pg) ∧ W.cell? ⟨D2, 2, none⟩ = some (.slice b1 pn.length k1) ∧ W.cell? ⟨D2, 3, none⟩ = some (.slice b2 po.length k2)))
            (first | (go_keep; done) | exact HM.out _ (by assumption) | (trace_state; fail))
            (first
              | (go_at_call 74; refine (HCK.out _ (HX8.out.trans (by first | assumption | (exact (Ext.refl _).drew) | (refine Ext.drew ?_; assumption)))).mono ?_; rintro e u1 ⟨rfl, hu1'⟩; have hu1 : Ext W8 u1 := Ext.trans (by first | assumption | (exact (Ext.refl _).drew) | (refine Ext.drew ?_; assumption)) hu1'; clear hu1')
              | (go_at_call 75; refine (HRF.out _ (HX8.out.trans (by first | assumption | (exact (Ext.refl _).drew) | (refine Ext.drew ?_; assumption)))).mono ?_; rintro e u2 ⟨rfl, hu2'⟩; have hu2 : Ext W8 u2 := Ext.trans (by first | assumption | (exact (Ext.refl _).drew) | (refine Ext.drew ?_; assumption)) hu2'; clear hu2')
              | (go_at_call_of 19 vf; refine (HS1.out _).mono ?_; rintro e u3 ⟨rfl, hu3'⟩; have hu3 : Ext W8 u3 := Ext.trans (by first | assumption | (exact (Ext.refl _).drew) | (refine Ext.drew ?_; assumption)) hu3'; clear hu3')
              | (go_at_call_of 19 vp; refine (HS2.out _).mono ?_; rintro e u4 ⟨rfl, hu4'⟩; have hu4 : Ext W8 u4 := Ext.trans (by first | assumption | (exact (Ext.refl _).drew) | (refine Ext.drew ?_; assumption)) hu4'; clear hu4')
              | (go_at_call 76; have hcur : Ext W8 _ := (by first | assumption | (exact (Ext.refl _).drew) | (refine Ext.drew ?_; assumption)); refine (HSM.out _ a1 c1 a2 c2 b1 k1 b2 k2 (HQ.out.1.ext hcur) (HQ.out.2.1.ext hcur) (HQ.out.2.2.1.ext hcur) (HQ.out.2.2.2.ext hcur)).mono ?_; rintro e u5 ⟨rfl, hu5'⟩; have hu5 : Ext W8 u5 := hcur.trans hu5'; clear hu5' hcur))
          all_goals go_wp2_with fail
          all_goals go_meet
          all_goals exact ⟨rfl, hu4⟩
        case rest =>
          obtain ⟨rfl, hxc⟩ := hcut
          have hXc := HX8.out.trans hxc
          clear HX8 HX8b HB5 HB6 HQ HBY HRB HCK HRF HS1 HPA HOF HS2 HSM HLT HB hxc hx0
          have HFN : Hid (∀ W cb, ChipAt W cb newM → Calls Try.prog 77 #[.pointer (some ⟨cb, 0, none⟩)] W fun e w' => e = .returned (.tuple #[.agg #[.int .i64 0, .int .i64 0, .slice none 0 0, .slice none 0 0], .int .i64 0, .iface 123 (.int .i64 4)]) ∧ Ext W w') := fun W cb hc => find_new cb W hc
          have HSE : Hid (∀ W, Calls Try.prog 19 #[.iface 123 (.int .i64 4), .int .i64 4] W fun e w' => e = .returned (.bool true) ∧ w' = W) := fun W => same_err 4 4 W
          have HSZ : Hid (∀ W, Calls Try.prog 76 #[.agg #[.int .i64 0, .int .i64 0, .slice none 0 0, .slice none 0 0], .agg #[.int .i64 0, .int .i64 0, .slice none 0 0, .slice none 0 0]] W fun e w' => e = .returned (.bool true) ∧ Ext W w') := fun W => by
            have := same_small 0 0 0 0 none none none none 0 0 0 0 W
            rw [decide_eq_true ⟨rfl, rfl⟩] at this; exact this
          go_wp2_with (first
            | (go_at_call 29; refine (new_any _).mono ?_; rintro e z1 ⟨rfl, hc1, hz1, hzs1⟩)
            | (go_at_call 77; refine (HFN.out _ _ hc1).mono ?_; rintro e z2 ⟨rfl, hz2⟩)
            | (go_at_call 19; refine (HSE.out _).mono ?_; rintro e z3 ⟨rfl, rfl⟩)
            | (go_at_call 76; refine (HSZ.out _).mono ?_; rintro e z4 ⟨rfl, hz4⟩))
          have hcb1 := hc1.lt
          have hX1 := hXc.trans hz1
          have HT0 : MSt w (z4.alloc (.cells #[.int .i64 0, .int .i64 0, .slice none 0 0, .slice none 0 0] 100)) wc.heap.size z4.heap.size newM none := by
            have hz24 : Ext z1 z4 := (hz2.alloc _).trans hz4
            refine ⟨(hc1.ext hz24).ext ((Ext.refl _).alloc _), ⟨none, 0, none, 0, Blk.new _ _ _, NumsAt.nil _ _, NumsAt.nil _ _⟩, (hX1.trans hz24).alloc _, hXc.size, ?_⟩
            have := hz24.size; omega
          clear hc1 hz1 hzs1 hz2 hz4 HFN HSE HSZ hcb1 hX1 hXc
          generalize wc.heap.size = cb at *
          generalize z4.heap.size = L at *
          go_loopw [18, 21] (fun s18 i wr => ∃ (k a : Nat) (M : CM) (o : Option Man), k ≤ ms.length ∧ i = .int .i64 k ∧ s18 = .int .i64 (a : Int) ∧ MSt w wr cb L M o ∧ Nst M a o ∧ M.left = -1 ∧ (∀ b, M.wr b ≤ k) ∧ (∀ m, o = some m → 1 ≤ m.ep)) (fun _ i _ => ms.length - (intOf i).toNat)
          case atStart => exact ⟨0, 0, newM, none, Nat.zero_le _, rfl, rfl, HT0, new_nst, rfl, fun b => Nat.le_refl _, fun m h => by cases h⟩
          case round =>
            clear HT0
            obtain ⟨k, a, M, o, hk, rfl, rfl, hT, hN, hlf, hwr, hoe⟩ := hrel
            by_cases hlt : k < ms.length
            · obtain ⟨b, off, e, hao, hek, h0, h1, h2, h3, hn1, hn2⟩ := HMS.out.get hlt
              subst hao
              obtain ⟨x1, c1, x2, c2, hLb, hl1, hl2⟩ := hT.last
              have hxw := hT.ext
              have g0 : World.cell? wr ⟨b, off + k * 4, none⟩ = some (.int .i64 e.m.ep) := (hxw).cell h0
              have g1 : World.cell? wr ⟨b, off + k * 4 + 1, none⟩ = some (.int .i64 e.m.lg) := (hxw).cell h1
              have g2 : World.cell? wr ⟨b, off + k * 4 + 2, none⟩ = some (.slice e.no e.m.nw.length e.nc) := (hxw).cell h2
              have g3 : World.cell? wr ⟨b, off + k * 4 + 3, none⟩ = some (.slice e.oo e.m.od.length e.oc) := (hxw).cell h3
              have l0 : wr.cell? ⟨L, 0, none⟩ = some (.int .i64 (pM o).ep) := hLb.cell 0
              have HE : Hid (∀ W, Ext w W → W.cell? ⟨b, off + k * 4, none⟩ = some (.int .i64 e.m.ep) ∧ W.cell? ⟨b, off + k * 4 + 1, none⟩ = some (.int .i64 e.m.lg) ∧ W.cell? ⟨b, off + k * 4 + 2, none⟩ = some (.slice e.no e.m.nw.length e.nc) ∧ W.cell? ⟨b, off + k * 4 + 3, none⟩ = some (.slice e.oo e.m.od.length e.oc)) := fun W hx => ⟨hx.cell h0, hx.cell h1, hx.cell h2, hx.cell h3⟩
              have HLB : Hid (Blk wr L #[.int .i64 (pM o).ep, .int .i64 (pM o).lg, .slice x1 (pM o).nw.length c1, .slice x2 (pM o).od.length c2] 100) := hLb
              have HT : Hid (MSt w wr cb L M o) := hT
              have HXW : Hid (Ext w wr) := hxw
              have hbl : b < wr.heap.size := by
                rcases Nat.lt_or_ge b wr.heap.size with h' | h'
                · exact h'
                · simp [World.cell?, Array.getElem?_eq_none h'] at g0
              have hLl := hLb.lt
              by_cases hlight : e.m.nw.length ≤ 30 ∧ e.m.od.length ≤ 30
              · obtain ⟨hg1, hg2⟩ := hlight
                have HLY : Hid (∀ W, Calls Try.prog 69 #[.agg #[.int .i64 e.m.ep, .int .i64 e.m.lg, .slice e.no e.m.nw.length e.nc, .slice e.oo e.m.od.length e.oc]] W fun r w' => r = .returned (.bool true) ∧ Ext W w') := fun W => lightM_yes e.m.ep e.m.lg e.no e.oo e.nc e.oc e.m.nw e.m.od W hg1 hg2
                by_cases hle : e.m.ep ≤ (pM o).ep
                · clear hT hLb hl1 hl2 hxw hn1 hn2 h0 h1 h2 h3
                  go_upto_region 18 with fail
                  go_region_held3 (fun W => (W.cell? ⟨b, off + k * 4, none⟩ = some (.int .i64 e.m.ep) ∧ W.cell? ⟨b, off + k * 4 + 1, none⟩ = some (.int .i64 e.m.lg) ∧ W.cell? ⟨b, off + k * 4 + 2, none⟩ = some (.slice e.no e.m.nw.length e.nc) ∧ W.cell? ⟨b, off + k * 4 + 3, none⟩ = some (.slice e.oo e.m.od.length e.oc)) ∧ W.cell? ⟨L, 0, none⟩ = some (.int .i64 (pM o).ep))
                    (first | (go_keep; done) | exact ⟨HE.out _ (HXW.out.trans hv1), (Blk.ext hv1 HLB.out).cell 0⟩)
                    (first | (go_at_call 69; refine (HLY.out _).mono ?_; rintro r v1 ⟨rfl, hv1'⟩; have hv1 : Ext wr v1 := Ext.trans (by first | assumption | (exact (Ext.refl _).drew)) hv1'; clear hv1'))
                  go_wp2_with fail
                  go_ret
                  exact ⟨rfl, HXW.out.trans hv1⟩
                · clear hT hLb hxw h0 h1 h2 h3
                  go_upto_region 18 with fail
                  go_region_held3 (fun W => (W.cell? ⟨b, off + k * 4, none⟩ = some (.int .i64 e.m.ep) ∧ W.cell? ⟨b, off + k * 4 + 1, none⟩ = some (.int .i64 e.m.lg) ∧ W.cell? ⟨b, off + k * 4 + 2, none⟩ = some (.slice e.no e.m.nw.length e.nc) ∧ W.cell? ⟨b, off + k * 4 + 3, none⟩ = some (.slice e.oo e.m.od.length e.oc)) ∧ W.cell? ⟨L, 0, none⟩ = some (.int .i64 (pM o).ep))
                    (first | (go_keep; done) | exact ⟨HE.out _ (HXW.out.trans hv1), (Blk.ext hv1 HLB.out).cell 0⟩)
                    (first | (go_at_call 69; refine (HLY.out _).mono ?_; rintro r v1 ⟨rfl, hv1'⟩; have hv1 : Ext wr v1 := Ext.trans (by first | assumption | (exact (Ext.refl _).drew)) hv1'; clear hv1'))
                  have HRF : Hid (∀ W, Ext w W → Calls Try.prog 75 #[.agg #[.int .i64 e.m.ep, .int .i64 e.m.lg, .slice e.no e.m.nw.length e.nc, .slice e.oo e.m.od.length e.oc]] W fun r w' => r = .returned (.int .i64 (manFault e.m)) ∧ Ext W w') := fun W hx => refFault_any e.m.ep e.m.lg e.no e.oo e.nc e.oc e.m.nw e.m.od W (by omega) (hn1.ext hx) (hn2.ext hx)
                  have hxv1 := HXW.out.trans hv1
                  have HTv : Hid (MSt w v1 cb L M o) := HT.out.more hv1
                  clear g0 g1 g2 g3 l0 HT HLB hv1 hbl hLl
                  obtain ⟨g0, g1, g2, g3⟩ := HE.out v1 hxv1
                  by_cases hf : manFault e.m = 0
                  · rw [hf] at HRF
                    have hgt : ∀ m0, o = some m0 → m0.ep < e.m.ep := fun m0 ho => by rw [ho] at hle; simp only [pM, Option.getD_some] at hle; omega
                    have ok := note_nst hN hf hgt
                    obtain ⟨e9, s9, l9⟩ : noteE M a (manTxt e.m) = 0 ∧ Nst (noteM M a (manTxt e.m)) (noteAt M a) (some e.m) ∧ (noteM M a (manTxt e.m)).left = -1 := by
                      rcases ok.end_ with ⟨q1, q2, q3⟩ | ⟨_, q2, _⟩
                      · exact ⟨q1, q2, by rw [q3 (by omega), hlf]⟩
                      · exact absurd (by omega) q2
                    have hw9 := ok.wr
                    have HNT : Hid (∀ W, Ext w W → ChipAt W cb M → Calls Try.prog 78 #[.pointer (some ⟨cb, 0, none⟩), .int .i64 (a : Int), .agg #[.int .i64 e.m.ep, .int .i64 e.m.lg, .slice e.no e.m.nw.length e.nc, .slice e.oo e.m.od.length e.oc]] W fun r w' => r = .returned (.tuple #[.int .i64 (noteAt M a : Int), .nilIface]) ∧ ChipAt w' cb (noteM M a (manTxt e.m)) ∧ W.grownBy w' (some cb)) := fun W hx hc => note_man cb a M e.m o e.no e.oo e.nc e.oc W hc (by omega) (fun c _ => by have := hwr c; omega) hN (hn1.ext hx) (hn2.ext hx) hf e9
                    have hep1 := (manFault_ep hf).1
                    clear ok e9 hN
                    generalize noteM M a (manTxt e.m) = M9 at *
                    generalize noteAt M a = a9 at *
                    have HFI : Hid (∀ W, ChipAt W cb M9 → Calls Try.prog 77 #[.pointer (some ⟨cb, 0, none⟩)] W fun r w' => ∃ a1 c1 a2 c2, r = .returned (.tuple #[.agg #[.int .i64 e.m.ep, .int .i64 e.m.lg, .slice a1 e.m.nw.length c1, .slice a2 e.m.od.length c2], .int .i64 (a9 : Int), .nilIface]) ∧ NumsAt w' a1 e.m.nw ∧ NumsAt w' a2 e.m.od ∧ Ext W w') := fun W hc => find_man cb a9 M9 e.m W hc s9
                    have HSN : Hid (∀ W, Calls Try.prog 19 #[.nilIface, .int .i64 0] W fun r w' => r = .returned (.bool true) ∧ w' = W) := fun W => same_nil 0 W
                    have HSMM : Hid (∀ W a1 c1 a2 c2, Ext w W → NumsAt W a1 e.m.nw → NumsAt W a2 e.m.od → Calls Try.prog 76 #[.agg #[.int .i64 e.m.ep, .int .i64 e.m.lg, .slice a1 e.m.nw.length c1, .slice a2 e.m.od.length c2], .agg #[.int .i64 e.m.ep, .int .i64 e.m.lg, .slice e.no e.m.nw.length e.nc, .slice e.oo e.m.od.length e.oc]] W fun r w' => r = .returned (.bool true) ∧ Ext W w') := fun W a1 c1 a2 c2 hx q1 q2 => by
                      have := sameM_any e.m.ep e.m.lg e.m.ep e.m.lg a1 a2 e.no e.oo c1 c2 e.nc e.oc e.m.nw e.m.od W (by omega) (by omega) q1 q2 (hn1.ext hx) (hn2.ext hx)
                      rw [decide_eq_true ⟨rfl, rfl⟩] at this; exact this
                    have hfar := HTv.out.far
                    have hold := HTv.out.old
                    have hLc : ¬ L = cb := by omega
                    have hLo : w.heap.size ≤ L := by omega
                    go_upto_region 26 with (first
                      | (go_at_call 75; refine (HRF.out _ hxv1).mono ?_; rintro r v2 ⟨rfl, hv2⟩; have HT2 : Hid (MSt w v2 cb L M o) := HTv.out.more hv2; clear g0 g1 g2 g3; obtain ⟨g0, g1, g2, g3⟩ := HE.out v2 (HT2.out.ext))
                      | (go_at_call 78; refine (HNT.out _ HT2.out.ext HT2.out.chip).mono ?_; rintro r v3 ⟨rfl, hc3, hg3⟩; have HT3 : Hid (MSt w v3 cb L M9 o) := HT2.out.grown hg3 hc3; clear hc3 hg3 g0 g1 g2 g3)
                      | (go_at_call 19; refine (HSN.out _).mono ?_; rintro r v4 ⟨rfl, rfl⟩))
                    obtain ⟨y1, d1, y2, d2, hL3, _, _⟩ := HT3.out.last
                    obtain ⟨g0, g1, g2, g3⟩ := HE.out _ (HT3.out.ext)
                    have n0 : _ = some (Value.int .i64 (pM o).ep) := hL3.cell 0
                    have n1 : _ = some (Value.int .i64 (pM o).lg) := hL3.cell 1
                    have n2 : _ = some (Value.slice y1 (pM o).nw.length d1) := hL3.cell 2
                    have n3 : _ = some (Value.slice y2 (pM o).od.length d2) := hL3.cell 3
                    have f0 := hL3.free 0
                    have f1 := hL3.free 1
                    have f2 := hL3.free 2
                    have f3 := hL3.free 3
                    have hl3 := hL3.lt
                    have hC : Hid (ChipAt _ cb M9) := (((HT3.out.chip.other s9.up hLc 0 (.int .i64 e.m.ep)).other s9.up hLc 1 (.int .i64 e.m.lg)).other s9.up hLc 2 (.slice e.no e.m.nw.length e.nc)).other s9.up hLc 3 (.slice e.oo e.m.od.length e.oc)
                    have hLs : Hid (Blk _ L #[.int .i64 e.m.ep, .int .i64 e.m.lg, .slice e.no e.m.nw.length e.nc, .slice e.oo e.m.od.length e.oc] 100) := hL3.put4 (x' := .int .i64 e.m.ep) (y' := .int .i64 e.m.lg) (z' := .slice e.no e.m.nw.length e.nc) (u' := .slice e.oo e.m.od.length e.oc)
                    have hXs := Ext.four HT3.out.ext hLo (.int .i64 e.m.ep) (.int .i64 e.m.lg) (.slice e.no e.m.nw.length e.nc) (.slice e.oo e.m.od.length e.oc)
                    clear hL3
                    go_wp2_with (first
                      | (go_at_call 77; refine (HFI.out _ hC.out).mono ?_; rintro r v5 ⟨a1, e1, a2, e2, rfl, q1, q2, hv5⟩; have t0 : v5.cell? ⟨L, 0, none⟩ = some (.int .i64 e.m.ep) := (Blk.ext hv5 hLs.out).cell 0; have t1 : v5.cell? ⟨L, 1, none⟩ = some (.int .i64 e.m.lg) := (Blk.ext hv5 hLs.out).cell 1; have t2 : v5.cell? ⟨L, 2, none⟩ = some (.slice e.no e.m.nw.length e.nc) := (Blk.ext hv5 hLs.out).cell 2; have t3 : v5.cell? ⟨L, 3, none⟩ = some (.slice e.oo e.m.od.length e.oc) := (Blk.ext hv5 hLs.out).cell 3; have hl5 := (Blk.ext hv5 hLs.out).lt; have hne5 : ¬ L = v5.heap.size := Nat.ne_of_lt hl5)
                      | (go_at_call 76; refine (HSMM.out _ a1 e1 a2 e2 ((hXs.trans hv5).alloc _) (q1.ext ((Ext.refl v5).alloc _)) (q2.ext ((Ext.refl v5).alloc _))).mono ?_; rintro r v6 ⟨rfl, hv6⟩))
                    go_roundw
                    case rel =>
                      have hv56 := hv5.trans (((Ext.refl v5).alloc _).trans hv6)
                      exact ⟨k + 1, a9, M9, some e.m, by omega, by go_num, rfl, ⟨hC.out.ext hv56, ⟨e.no, e.nc, e.oo, e.oc, Blk.ext hv56 hLs.out, hn1, hn2⟩, hXs.trans hv56, hold, hfar⟩, s9, l9, fun c => by have := hw9 c; have := hwr c; omega, fun m0 hm => by cases hm; exact hep1⟩
                    case measure => simp [intOf]; omega
                  · have HRF' : Hid (∀ W, Ext w W → Calls Try.prog 75 #[.agg #[.int .i64 e.m.ep, .int .i64 e.m.lg, .slice e.no e.m.nw.length e.nc, .slice e.oo e.m.od.length e.oc]] W fun r w' => r = .returned (.int .i64 (manFault e.m)) ∧ Ext W w') := HRF.out
                    have HNB : Hid (∀ W, Ext w W → Calls Try.prog 78 #[.pointer (some ⟨cb, 0, none⟩), .int .i64 (a : Int), .agg #[.int .i64 e.m.ep, .int .i64 e.m.lg, .slice e.no e.m.nw.length e.nc, .slice e.oo e.m.od.length e.oc]] W fun r w' => r = .returned (.tuple #[.int .i64 0, .iface 123 (.int .i64 (manFault e.m))]) ∧ Ext W w') := fun W hx => note_bad cb a e.m e.no e.oo e.nc e.oc W (by omega) (hn1.ext hx) (hn2.ext hx) hf
                    have hfp : 0 < manFault e.m := by have := fault_pos e.m; omega
                    have HSF : Hid (∀ W, Calls Try.prog 19 #[.iface 123 (.int .i64 (manFault e.m)), .int .i64 (manFault e.m)] W fun r w' => r = .returned (.bool true) ∧ Ext W w') := fun W => by
                      have := same_uni (manFault e.m) (fault_pos e.m) W
                      unfold errV at this; rw [if_neg hf] at this; exact this
                    clear hf HRF hn1 hn2 hl1 hl2
                    generalize manFault e.m = f at *
                    go_wp2_with (first
                      | (go_at_call 75; refine (HRF'.out _ hxv1).mono ?_; rintro r v2 ⟨rfl, hv2⟩; have HT2 : Hid (MSt w v2 cb L M o) := HTv.out.more hv2; clear g0 g1 g2 g3; obtain ⟨g0, g1, g2, g3⟩ := HE.out v2 (HT2.out.ext))
                      | (go_at_call 78; refine (HNB.out _ HT2.out.ext).mono ?_; rintro r v3 ⟨rfl, hv3⟩; have HT3 : Hid (MSt w v3 cb L M o) := HT2.out.more hv3; clear hv3 g0 g1 g2 g3)
                      | (go_at_call 19; refine (HSF.out _).mono ?_; rintro r v4 ⟨rfl, hv4⟩; have HT4 : Hid (MSt w v4 cb L M o) := HT3.out.more hv4; clear hv4))
                    go_roundw
                    case rel => exact ⟨k + 1, a, M, o, by omega, by go_num, rfl, HT4.out, hN, hlf, fun c => by have := hwr c; omega, hoe⟩
                    case measure => simp [intOf]; omega
              · have HLY : Hid (∀ W, Calls Try.prog 69 #[.agg #[.int .i64 e.m.ep, .int .i64 e.m.lg, .slice e.no e.m.nw.length e.nc, .slice e.oo e.m.od.length e.oc]] W fun r w' => r = .returned (.bool false) ∧ Ext W w') := fun W => lightM_no e.m.ep e.m.lg e.no e.oo e.nc e.oc e.m.nw e.m.od W hlight
                clear hT hLb hl1 hl2 hxw hn1 hn2 h0 h1 h2 h3 hlight
                go_upto_region 18 with fail
                have hS0 : (fun W : World => W.cell? ⟨b, off + k * 4, none⟩ = some (.int .i64 e.m.ep) ∧ W.cell? ⟨b, off + k * 4 + 1, none⟩ = some (.int .i64 e.m.lg) ∧ W.cell? ⟨b, off + k * 4 + 2, none⟩ = some (.slice e.no e.m.nw.length e.nc) ∧ W.cell? ⟨b, off + k * 4 + 3, none⟩ = some (.slice e.oo e.m.od.length e.oc)) wr.drew := ⟨g0, g1, g2, g3⟩
                refine wp_region_held_drew (S := fun W => W.cell? ⟨b, off + k * 4, none⟩ = some (.int .i64 e.m.ep) ∧ W.cell? ⟨b, off + k * 4 + 1, none⟩ = some (.int .i64 e.m.lg) ∧ W.cell? ⟨b, off + k * 4 + 2, none⟩ = some (.slice e.no e.m.nw.length e.nc) ∧ W.cell? ⟨b, off + k * 4 + 3, none⟩ = some (.slice e.oo e.m.od.length e.oc)) (by kernel_rfl) hS0 (fun hHeld => ?_)
                refine wpAnyH_take (i := 0) (v := ?_) rfl (by kernel_rfl) (by kernel_rfl) (by kernel_rfl) (fun _ _ _ h => h) (Or.inl ⟨by rfl, ?_⟩) hS0 ?_
                rotate_left
                · intro W hSw; obtain ⟨s0, s1, s2, s3⟩ := hSw; go_simp; try with_reducible rfl
                try simp only [Act.put, List.setIfInBounds_toArray]
                refine wpAnyH_take (i := 1) (v := ?_) rfl (by kernel_rfl) (by kernel_rfl) (by kernel_rfl) (fun _ _ _ h => h) (Or.inl ⟨by rfl, ?_⟩) hS0 ?_
                rotate_left
                · intro W hSw; obtain ⟨s0, s1, s2, s3⟩ := hSw; go_simp; try with_reducible rfl
                try simp only [Act.put]
                refine wpAnyH_take (i := 2) (v := ?_) rfl (by kernel_rfl) (by kernel_rfl) (by kernel_rfl) (fun _ _ _ h => h) (Or.inl ⟨by rfl, ?_⟩) hS0 ?_
                rotate_left
                · intro W hSw; obtain ⟨s0, s1, s2, s3⟩ := hSw; go_simp; try with_reducible rfl
                try simp only [Act.put]
                refine wpAnyH_take (i := 3) (v := ?_) rfl (by kernel_rfl) (by kernel_rfl) (by kernel_rfl) (fun _ _ _ h => h) (Or.inl ⟨by rfl, ?_⟩) hS0 ?_
                rotate_left
                · intro W hSw; obtain ⟨s0, s1, s2, s3⟩ := hSw; go_simp; try with_reducible rfl
                try simp only [Act.put]
                refine wpAnyH_ready (rs := [4]) (by kernel_rfl) (by simp) ?_
                refine AllReadyH.cons rfl (fun K hK => ?_) ?_
                · go_simp
                  refine (HLY.out _).mono ?_
                  rintro r v1 ⟨rfl, hv1'⟩
                  have hv1 : Ext wr v1 := ((Ext.refl wr).drew).trans hv1'
                  have hS1 : (fun W : World => W.cell? ⟨b, off + k * 4, none⟩ = some (.int .i64 e.m.ep) ∧ W.cell? ⟨b, off + k * 4 + 1, none⟩ = some (.int .i64 e.m.lg) ∧ W.cell? ⟨b, off + k * 4 + 2, none⟩ = some (.slice e.no e.m.nw.length e.nc) ∧ W.cell? ⟨b, off + k * 4 + 3, none⟩ = some (.slice e.oo e.m.od.length e.oc)) v1 := HE.out _ (HXW.out.trans hv1)
                  go_wp2_with fail
                  refine hK.out _ _ hS1 (fun hHeld => ?_)
                  clear hK K
                  try simp only [Act.put, List.setIfInBounds_toArray, List.set_cons_zero, List.set_cons_succ]
                  refine wpAnyH_take (i := 5) (v := ?_) rfl (by kernel_rfl) (by kernel_rfl) (by kernel_rfl) (fun _ _ _ h => h) (Or.inl ⟨by rfl, ?_⟩) hS1 ?_
                  rotate_left
                  · intro W hSw; obtain ⟨s0, s1, s2, s3⟩ := hSw; go_simp; try with_reducible rfl
                  try simp only [Act.put, List.setIfInBounds_toArray]
                  refine wpAnyH_take (i := 6) (v := ?_) rfl (by kernel_rfl) (by kernel_rfl) (by kernel_rfl) (fun _ _ _ h => h) (Or.inl ⟨by rfl, ?_⟩) hS1 ?_
                  rotate_left
                  · intro W hSw; obtain ⟨s0, s1, s2, s3⟩ := hSw; go_simp; try with_reducible rfl
                  try simp only [Act.put]
                  refine wpAnyH_take (i := 7) (v := undef) rfl (by kernel_rfl) (by kernel_rfl) (by kernel_rfl) (fun _ _ _ h => h) (Or.inr ⟨by kernel_rfl, rfl⟩) hS1 ?_
                  simp only [Act.put, List.getElem_toArray, List.getElem_cons_succ, List.getElem_cons_zero, List.setIfInBounds_toArray, List.set_cons_zero, List.set_cons_succ]
                  refine wpAnyH_take (i := 8) (v := undef) rfl (by kernel_rfl) (by kernel_rfl) (by kernel_rfl) (fun _ _ _ h => h) (Or.inr ⟨by kernel_rfl, rfl⟩) hS1 ?_
                  simp only [Act.put, List.getElem_toArray, List.getElem_cons_succ, List.getElem_cons_zero, List.setIfInBounds_toArray, List.set_cons_zero, List.set_cons_succ]
                  refine wpAnyH_take (i := 9) (v := undef) rfl (by kernel_rfl) (by kernel_rfl) (by kernel_rfl) (fun _ _ _ h => h) (Or.inr ⟨by kernel_rfl, rfl⟩) hS1 ?_
                  simp only [Act.put, List.getElem_toArray, List.getElem_cons_succ, List.getElem_cons_zero, List.setIfInBounds_toArray, List.set_cons_zero, List.set_cons_succ]
                  refine wpAnyH_take (i := 10) (v := undef) rfl (by kernel_rfl) (by kernel_rfl) (by kernel_rfl) (fun _ _ _ h => h) (Or.inr ⟨by kernel_rfl, rfl⟩) hS1 ?_
                  simp only [Act.put, List.getElem_toArray, List.getElem_cons_succ, List.getElem_cons_zero, List.setIfInBounds_toArray, List.set_cons_zero, List.set_cons_succ]
                  refine wpAnyH_take (i := 11) (v := undef) rfl (by kernel_rfl) (by kernel_rfl) (by kernel_rfl) (fun _ _ _ h => h) (Or.inr ⟨by kernel_rfl, rfl⟩) hS1 ?_
                  simp only [Act.put, List.getElem_toArray, List.getElem_cons_succ, List.getElem_cons_zero, List.setIfInBounds_toArray, List.set_cons_zero, List.set_cons_succ]
                  refine wpAnyH_take (i := 12) (v := undef) rfl (by kernel_rfl) (by kernel_rfl) (by kernel_rfl) (fun _ _ _ h => h) (Or.inr ⟨by kernel_rfl, rfl⟩) hS1 ?_
                  simp only [Act.put, List.getElem_toArray, List.getElem_cons_succ, List.getElem_cons_zero, List.setIfInBounds_toArray, List.set_cons_zero, List.set_cons_succ]
                  refine wpAnyH_take (i := 13) (v := undef) rfl (by kernel_rfl) (by kernel_rfl) (by kernel_rfl) (fun _ _ _ h => h) (Or.inr ⟨by kernel_rfl, rfl⟩) hS1 ?_
                  simp only [Act.put, List.getElem_toArray, List.getElem_cons_succ, List.getElem_cons_zero, List.setIfInBounds_toArray, List.set_cons_zero, List.set_cons_succ]
                  refine wpAnyH_take (i := 14) (v := undef) rfl (by kernel_rfl) (by kernel_rfl) (by kernel_rfl) (fun _ _ _ h => h) (Or.inr ⟨by kernel_rfl, rfl⟩) hS1 ?_
                  simp only [Act.put, List.getElem_toArray, List.getElem_cons_succ, List.getElem_cons_zero, List.setIfInBounds_toArray, List.set_cons_zero, List.set_cons_succ]
                  refine wpAnyH_take (i := 15) (v := ?_) rfl (by kernel_rfl) (by kernel_rfl) (by kernel_rfl) (fun _ _ _ h => h) (Or.inl ⟨by rfl, ?_⟩) hS1 ?_
                  rotate_left
                  · intro W hSw; obtain ⟨s0, s1, s2, s3⟩ := hSw; go_simp; try with_reducible rfl
                  try simp only [Act.put, List.setIfInBounds_toArray]
                  refine wpAnyH_done (by kernel_rfl) ?_ _
                  clear hS0 hS1 HE HLB g0 g1 g2 g3 l0 HLY hbl hLl
                  go_wp2_with fail
                  go_ret
                  exact ⟨rfl, HXW.out.trans hv1⟩
                exact AllReadyH.nil
            · go_wp2_with fail
              go_ret
              exact ⟨rfl, hT.ext⟩
      · have h40' : (40 : Int) < (ms.length : Int) := by omega
        have hs' : ¬ (100 : Int) < (s.size : Int) := by omega
        clear hn ho hms
        go_enter Try.func11, Try.ntmps11
        go_wp2_with (first
          | (go_at_call 68; refine (manifests_true _).mono ?_; rintro e w1 ⟨rfl, hx1⟩; have m0 : World.cell? w1 ⟨w.heap.size, 0, none⟩ = some (.int .i64 m.ep) := (HB.out _ hx1).cell 0; have m1 : World.cell? w1 ⟨w.heap.size, 1, none⟩ = some (.int .i64 m.lg) := (HB.out _ hx1).cell 1; have m2 : World.cell? w1 ⟨w.heap.size, 2, none⟩ = some (.slice no m.nw.length nc) := (HB.out _ hx1).cell 2; have m3 : World.cell? w1 ⟨w.heap.size, 3, none⟩ = some (.slice oo m.od.length oc) := (HB.out _ hx1).cell 3)
          | (go_at_call 69; refine (HLT.out _).mono ?_; rintro e w2 ⟨rfl, hx2'⟩; have hx2 := hx1.trans hx2'; clear m0 m1 m2 m3 hx2'))
        go_ret
        exact ⟨rfl, hx0.trans hx2⟩
    · have hs' : (100 : Int) < (s.size : Int) := by omega
      clear hn ho hms
      go_enter Try.func11, Try.ntmps11
      go_wp2_with (first
        | (go_at_call 68; refine (manifests_true _).mono ?_; rintro e w1 ⟨rfl, hx1⟩; have m0 : World.cell? w1 ⟨w.heap.size, 0, none⟩ = some (.int .i64 m.ep) := (HB.out _ hx1).cell 0; have m1 : World.cell? w1 ⟨w.heap.size, 1, none⟩ = some (.int .i64 m.lg) := (HB.out _ hx1).cell 1; have m2 : World.cell? w1 ⟨w.heap.size, 2, none⟩ = some (.slice no m.nw.length nc) := (HB.out _ hx1).cell 2; have m3 : World.cell? w1 ⟨w.heap.size, 3, none⟩ = some (.slice oo m.od.length oc) := (HB.out _ hx1).cell 3)
        | (go_at_call 69; refine (HLT.out _).mono ?_; rintro e w2 ⟨rfl, hx2'⟩; have hx2 := hx1.trans hx2'; clear m0 m1 m2 m3 hx2'))
      go_ret
      exact ⟨rfl, hx0.trans hx2⟩
  · have HLT : Hid (∀ W, Calls Try.prog 69 #[.agg #[.int .i64 m.ep, .int .i64 m.lg, .slice no m.nw.length nc, .slice oo m.od.length oc]] W fun e w' => e = .returned (.bool false) ∧ Ext W w') := fun W => lightM_no m.ep m.lg no oo nc oc m.nw m.od W hL
    clear hL
    clear hn ho hms
    go_enter Try.func11, Try.ntmps11
    go_wp2_with (first
      | (go_at_call 68; refine (manifests_true _).mono ?_; rintro e w1 ⟨rfl, hx1⟩; have m0 : World.cell? w1 ⟨w.heap.size, 0, none⟩ = some (.int .i64 m.ep) := (HB.out _ hx1).cell 0; have m1 : World.cell? w1 ⟨w.heap.size, 1, none⟩ = some (.int .i64 m.lg) := (HB.out _ hx1).cell 1; have m2 : World.cell? w1 ⟨w.heap.size, 2, none⟩ = some (.slice no m.nw.length nc) := (HB.out _ hx1).cell 2; have m3 : World.cell? w1 ⟨w.heap.size, 3, none⟩ = some (.slice oo m.od.length oc) := (HB.out _ hx1).cell 3)
      | (go_at_call 69; refine (HLT.out _).mono ?_; rintro e w2 ⟨rfl, hx2'⟩; have hx2 := hx1.trans hx2'; clear m0 m1 m2 m3 hx2'))
    go_ret
    exact ⟨rfl, hx0.trans hx2⟩
end Go.Proofs.Ytpldeejagomfjaa
