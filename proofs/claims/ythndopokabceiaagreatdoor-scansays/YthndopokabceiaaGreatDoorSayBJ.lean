/- SayB. -/
import Derived.Test.YthndopokabceiaaGreatDoorSayAJ
import Derived.Deep.DeepCutAuto
import Derived.Deep.LoopGhost
import Derived.Deep.RegionWith

/- StoreSays. -/
namespace Go.Proofs.YthndopokabceiaaGreatDoor
open Go.RowKit Go.WideShapes

/-- A store, and the document's beside it, with the same rows. -/
structure Say0 (w wr : World) (sb cb rb n k : Nat) (R : List Ent) : Prop where
  ex : ∃ S m, Up n wr S sb cb m k R ∧ RefSt wr S rb R ∧ Ext w wr ∧ (∀ b ∈ S, w.heap.size ≤ b) ∧ w.heap.size ≤ rb
theorem Say0.aside {w wr : World} {sb cb rb n k : Nat} {R : List Ent} (h : Say0 w wr sb cb rb n k R) (cs : Array Value) (t : TypeId) : SayAt w (wr.alloc (.cells cs t)) wr.heap.size cs t sb cb rb n k R R := by
  have hx : Ext wr (wr.alloc (.cells cs t)) := (Ext.refl _).alloc _
  obtain ⟨S, m, h1, h2, h4, h5, h6⟩ := h.ex
  obtain ⟨ro, rc, q1, q2⟩ := h2.ex
  have hf := h1.few
  refine ⟨⟨S, m, h1.ext hx, h2.ext hx, ⟨Blk.new _ _ _, fun hm => ?_, fun e => ?_⟩, h4.trans hx, h5, h6⟩, h1.plain.1, by omega⟩
  · have := h1.lt _ hm; omega
  · have := q1.lt; omega
theorem SayAt.drop {w wr : World} {ab : Nat} {cs : Array Value} {t : TypeId} {sb cb rb n k : Nat} {R : List Ent} (h : SayAt w wr ab cs t sb cb rb n k R R) : Say0 w wr sb cb rb n k R := by
  obtain ⟨S, m, h1, h2, h3, h4, h5, h6⟩ := h.ex
  exact ⟨S, m, h1, h2, h4, h5, h6⟩
theorem Say0.x {w wr : World} {sb cb rb n k : Nat} {R : List Ent} (h : Say0 w wr sb cb rb n k R) : Ext w wr := by
  obtain ⟨S, m, h1, h2, h4, h5, h6⟩ := h.ex
  exact h4
theorem light_s {acs : List ActE} {q : Nat} (h : lightActs acs q = true) {e : ActE} (he : e ∈ acs) : e.s.size ≤ 100 ∧ e.es.length ≤ 6 := by
  unfold lightActs at h
  simp only [Bool.and_eq_true, List.all_eq_true] at h
  have := h.2 e he
  unfold lightA light at this
  simp at this
  omega
set_option maxRecDepth 20000 in
set_option maxHeartbeats 8000000 in
theorem storeSays_any (ao : Option Addr) (cap : Nat) (acs : List ActE) (w : World) (hg : GlobT w) (hl : acs.length ≤ 9223372036854775807) (has : ActsAt w ao acs) :
    Calls Tryz.prog 3 #[.slice ao acs.length cap] w fun e w' => e = .returned (.bool true) ∧ Ext w w' := by
  have HW : Hid (Calls Tryz.prog 17 #[] w fun e w' => e = .returned (.bool true) ∧ Ext w w') := stores_any w hg
  have HL : Hid (∀ W, Ext w W → Calls Tryz.prog 18 #[.slice ao acs.length cap, .int .i64 80] W fun e w' => e = .returned (.bool (lightActs acs 80)) ∧ W = w') := fun W hx => (lightActs_any ao cap acs 80 W (by omega) hl (has.ext hx)).mono fun _ _ h => ⟨h.1, h.2.symm⟩
  cases hli : lightActs acs 80 with
  | false =>
    rw [hli] at HL
    clear has hg hli
    go_enter Tryz.func3, Tryz.ntmps3
    go_wp2_with (first
      | (go_at_call 17; refine HW.out.mono ?_; rintro e w1 ⟨rfl, hx1⟩)
      | (go_at_call 18; refine (HL.out _ hx1).mono ?_; rintro e w3 ⟨rfl, rfl⟩))
    go_ret
    exact ⟨rfl, hx1⟩
  | true =>
    have h80 : acs.length ≤ 80 := by unfold lightActs at hli; simp at hli; exact hli.1
    have HWK : Hid (∀ W, Ext w W → Calls Tryz.prog 19 #[.slice ao acs.length cap] W fun e w' => e = .returned (.int .i64 (weakN acs : Int)) ∧ W = w') := fun W hx => (weak_any ao cap acs W (by omega) (has.ext hx)).mono fun _ _ h => ⟨h.1, h.2.symm⟩
    have HLS : Hid (∀ e ∈ acs, e.s.size ≤ 100 ∧ e.es.length ≤ 6) := fun e he => light_s hli he
    rw [hli] at HL
    by_cases hw6 : (6 : Int) < (weakN acs : Int)
    · clear has hg hli
      generalize weakN acs = q at *
      go_enter Tryz.func3, Tryz.ntmps3
      go_wp2_with (first
        | (go_at_call 17; refine HW.out.mono ?_; rintro e w1 ⟨rfl, hx1⟩)
        | (go_at_call 18; refine (HL.out _ hx1).mono ?_; rintro e w3 ⟨rfl, rfl⟩)
        | (go_at_call 19; refine (HWK.out _ hx1).mono ?_; rintro e w3 ⟨rfl, rfl⟩))
      go_ret
      exact ⟨rfl, hx1⟩
    · have HNW : Hid (∀ W, Ext w W → Calls Tryz.prog 21 #[] W fun e w' => ∃ nb, e = .returned (.pointer (some ⟨nb, 0, none⟩)) ∧ ChipAt w' nb newM ∧ Ext w w') := fun W hx => (new_any W).mono fun _ _ h => ⟨W.heap.size, h.1, h.2.1, hx.trans h.2.2.1⟩
      have HOB : Hid (∀ W nb, Ext w W → ChipAt W nb newM → Calls Tryz.prog 20 #[.pointer (some ⟨nb, 0, none⟩)] W fun e w' => e = .returned (.tuple #[.pointer none, .iface 110 (.int .i64 4)]) ∧ Ext w w') := fun W nb hx hc => (open_blank nb W hc).mono fun _ _ h => ⟨h.1, hx.trans h.2⟩
      have HS4 : Hid (∀ W, Calls Tryz.prog 22 #[.iface 110 (.int .i64 4), .int .i64 4] W fun e w' => e = .returned (.bool true) ∧ W = w') := fun W => (same_err 4 4 W).mono fun _ _ h => ⟨h.1, h.2.symm⟩
      have HST : Hid (∀ W, Ext w W → Calls Tryz.prog 23 #[] W fun e w' => ∃ cb sb, e = .returned (.tuple #[.pointer (some ⟨cb, 0, none⟩), .pointer (some ⟨sb, 0, none⟩), .bool true]) ∧ Say0 w (w'.alloc (.cells #[.slice none 0 0] 39)) sb cb w'.heap.size 4 0 [] ∧ Ext w w') := fun W hx => (stored_any W (hg.ext hx)).mono fun _ w' h => by
        obtain ⟨cb, sb, S, h1, h2, h3, h4⟩ := h.up
        have hzw := hx.size
        have hz3 := h3.size
        refine ⟨cb, sb, h1, ⟨S, fm, h2.ext ((Ext.refl _).alloc _), ?_, (hx.trans h3).alloc _, fun b hb => Nat.le_trans hzw (h4 b hb), by omega⟩, hx.trans h3⟩
        have hgl := ((hg.ext hx).ext h3).lt
        exact RefSt.new w' S h2.lt hgl none 0 [] ⟨fun h => absurd rfl h, (fun p e => by cases e), (fun p e => by cases e)⟩
      obtain ⟨RA, hRA⟩ : ∃ RA : Nat → List Ent, ∀ i, fillR (acs.take i) = RA i := ⟨_, fun _ => rfl⟩
      obtain ⟨KO, hKO⟩ : ∃ KO : Nat → Nat, ∀ i, weakN (acs.take i) = KO i := ⟨_, fun _ => rfl⟩
      have HRS : Hid (∀ i e, acs[i]? = some e → RA (i + 1) = if isWr e then wrR (RA i) e.es else RA i) := fun i e he => by rw [← hRA, ← hRA, fill_take he]; rfl
      have HKS : Hid (∀ i e, acs[i]? = some e → KO (i + 1) = KO i + wk1 e) := fun i e he => by rw [← hKO, ← hKO, weakN_take he]
      have HK6 : Hid (∀ i, KO i ≤ 6) := fun i => by rw [← hKO]; have := weakN_mono acs i; omega
      have HR0 : Hid (RA 0 = [] ∧ KO 0 = 0) := ⟨by rw [← hRA]; rfl, by rw [← hKO]; rfl⟩
      have HAS : Hid (ActsAt w ao acs) := has
      clear hRA hKO has hg hli hl
      generalize weakN acs = q at *
      generalize newM = A at *
      go_enter Tryz.func3, Tryz.ntmps3
      go_wp2_with (first
        | (go_at_call 17; refine HW.out.mono ?_; rintro e w1 ⟨rfl, hx1⟩)
        | (go_at_call 18; refine (HL.out _ hx1).mono ?_; rintro e w3 ⟨rfl, rfl⟩)
        | (go_at_call 19; refine (HWK.out _ hx1).mono ?_; rintro e w3 ⟨rfl, rfl⟩)
        | (go_at_call 21; refine (HNW.out _ hx1).mono ?_; rintro e w4 ⟨nb, rfl, hn4, hx4⟩)
        | (go_at_call 20; refine (HOB.out _ _ hx4 hn4).mono ?_; rintro e w5 ⟨rfl, hx5⟩)
        | (go_at_call 22; refine (HS4.out _).mono ?_; rintro e w6 ⟨rfl, rfl⟩)
        | (go_at_call 23; refine (HST.out _ hx5).mono ?_; rintro e w7 ⟨cb, sb, rfl, hS7, hx7⟩))
      have HS7 : Hid (Say0 w (w7.alloc (.cells #[.slice none 0 0] 39)) sb cb w7.heap.size (4 + 9 * 0) (KO 0) (RA 0)) := by rw [HR0.out.1, HR0.out.2]; exact hS7
      clear hS7 HR0 HW HL HWK HNW HOB HS4 HST hx1 hx4 hx5 hx7 hn4 hw6
      generalize w7.heap.size = rb at *
      go_loopg [7, 9] acs.length (fun gm s i wr => ∃ j tb : Nat, gm = acs.length - j ∧ j ≤ acs.length ∧ i = .int .i64 j ∧ s = .pointer (some ⟨tb, 0, none⟩) ∧ Say0 w wr tb cb rb (4 + 9 * j) (KO j) (RA j))
      case atStart => exact ⟨0, sb, rfl, Nat.zero_le _, rfl, rfl, HS7.out⟩
      case round =>
        clear HS7
        obtain ⟨j, tb, hgk, hj, rfl, rfl, hY⟩ := hrel
        by_cases hlt : j < acs.length
        · obtain ⟨b, off, e, rfl, he, c0, c1, c2, c3, c4, c5⟩ := HAS.out.get hlt
          have hxr := hY.x
          have g0 := hxr.cell c0
          have g1 := hxr.cell c1
          have g2 := hxr.cell c2
          have g3 := hxr.cell c3
          have g4 := hxr.cell c4
          have hls := HLS.out e (List.mem_of_getElem? he)
          have HES : Hid (EntsAt w e.ao e.es ∧ e.es.length ≤ 9223372036854775807) := ⟨c5.ents, by omega⟩
          have HRJ : Hid (RA (j + 1) = if isWr e then wrR (RA j) e.es else RA j) := HRS.out j e he
          have HKJ : Hid (KO (j + 1) = KO j + wk1 e ∧ KO (j + 1) ≤ 6) := ⟨HKS.out j e he, HK6.out (j + 1)⟩
          have HY0 : Hid (SayAt w (wr.alloc (.cells #[.string e.kind, .string e.s, .int .i64 e.a, .int .i64 e.b, .slice e.ao e.es.length e.cap] 41)) wr.heap.size #[.string e.kind, .string e.s, .int .i64 e.a, .int .i64 e.b, .slice e.ao e.es.length e.cap] 41 tb cb rb (4 + 9 * j) (KO j) (RA j) (RA j)) := hY.aside _ _
          have hks : e.s.size ≤ 1000 := by omega
          clear c0 c1 c2 c3 c4 c5 hY hxr he HRS HKS HK6 HLS HAS hls
          go_upto_region 16 with fail
          have w0e : ∃ w0, w0 = wr.alloc (.cells #[.string e.kind, .string e.s, .int .i64 e.a, .int .i64 e.b, .slice e.ao e.es.length e.cap] 41) := ⟨_, rfl⟩
          obtain ⟨w0, hw0⟩ := w0e
          rw [← hw0] at HY0 ⊢
          clear hw0 g0 g1 g2 g3 g4
          generalize wr.heap.size = ab at *
          obtain ⟨CSE, hCSE⟩ : ∃ CSE : Array Value, CSE = #[.string e.kind, .string e.s, .int .i64 e.a, .int .i64 e.b, .slice e.ao e.es.length e.cap] := ⟨_, rfl⟩
          have HCE : Hid (CSE = #[.string e.kind, .string e.s, .int .i64 e.a, .int .i64 e.b, .slice e.ao e.es.length e.cap]) := hCSE
          rw [← hCSE] at HY0
          clear hCSE
          have HAC : Hid (∀ W sb' n' k' R' Q', SayAt w W ab CSE 41 sb' cb rb n' k' R' Q' → W.cell? ⟨ab, 0, none⟩ = some (.string e.kind) ∧ W.cell? ⟨ab, 1, none⟩ = some (.string e.s) ∧ W.cell? ⟨ab, 2, none⟩ = some (.int .i64 e.a) ∧ W.cell? ⟨ab, 4, none⟩ = some (.slice e.ao e.es.length e.cap)) := fun W sb' n' k' R' Q' h => by
            have hb := h.blk
            rw [HCE.out] at hb
            exact ⟨hb.cell 0, hb.cell 1, hb.cell 2, hb.cell 4⟩
          clear HCE
          obtain ⟨a0, a1, a2, a4⟩ := HAC.out _ _ _ _ _ _ HY0.out
          go_cut [66] (fun t wx => t = .string e.kind ∧ wx = w0)
          case first =>
            go_wp2_with fail
            go_meet
            exact ⟨rfl, rfl⟩
          obtain ⟨rfl, rfl⟩ := hcut
          rename_i hkk
          refine hkk _ _ ?_
          clear hkk
          go_cut [7, 11, 12, 13] (fun s ok _ _ wx => ∃ ub, s = .pointer (some ⟨ub, 0, none⟩) ∧ ok = .bool true ∧ SayAt w wx ab CSE 41 ub cb rb (4 + 9 * (j + 1)) (KO (j + 1)) (RA (j + 1)) (RA (j + 1)))
          case first =>
            by_cases hkw : (e.kind.toList == [119, 114, 105, 116, 101]) = true
            · have hr : RA (j + 1) = wrR (RA j) e.es := by rw [HRJ.out, if_pos (show isWr e = true from hkw)]
              have hk : KO (j + 1) = KO j := by
                rw [HKJ.out.1]; unfold wk1 isWk; rw [eq_of_beq hkw]; rfl
              have HCK : Hid (∀ W, SayAt w W ab CSE 41 tb cb rb (4 + 9 * j) (KO j) (RA j) (RA j) → Calls Tryz.prog 24 #[.pointer (some ⟨tb, 0, none⟩), .slice e.ao e.es.length e.cap] W fun e' w' => e' = .returned (errV (writeF (RA j) e.es)) ∧ SayAt w w' ab CSE 41 tb cb rb (4 + 9 * j) (KO j) (RA j) (RA j)) := fun W h => (h.check HES.out.1).mono fun _ _ hh => ⟨hh.1, h.ext hh.2⟩
              have HWF : Hid (∀ W, SayAt w W ab CSE 41 tb cb rb (4 + 9 * j) (KO j) (RA j) (RA j) → Calls Tryz.prog 25 #[.pointer (some ⟨rb, 0, none⟩), .slice e.ao e.es.length e.cap] W fun e' w' => e' = .returned (.int .i64 (writeF (RA j) e.es)) ∧ SayAt w w' ab CSE 41 tb cb rb (4 + 9 * j) (KO j) (RA j) (RA j)) := fun W h => (h.fault HES.out.2 HES.out.1).mono fun _ _ hh => ⟨hh.1, h.ext hh.2⟩
              have HSM : Hid (∀ W, Calls Tryz.prog 22 #[errV (writeF (RA j) e.es), .int .i64 (writeF (RA j) e.es)] W fun e' w' => e' = .returned (.bool true) ∧ W = w') := fun W => (same_self _ (by by_cases h0 : writeF (RA j) e.es = 0; (rw [h0]; exact Int.le_refl _); exact Int.le_of_lt (writeF_pos _ _ h0)) W).mono fun _ _ hh => ⟨hh.1, hh.2.symm⟩
              have HWR : Hid (∀ W, SayAt w W ab CSE 41 tb cb rb (4 + 9 * j) (KO j) (RA j) (RA j) → Calls Tryz.prog 26 #[.pointer (some ⟨tb, 0, none⟩), .slice e.ao e.es.length e.cap] W fun e' w' => e' = .returned (errV (writeF (RA j) e.es)) ∧ SayAt w w' ab CSE 41 tb cb rb (4 + 9 * (j + 1)) (KO (j + 1)) (RA (j + 1)) (RA j)) := fun W h => by
                rw [hr, hk]
                exact (h.write (by omega) HES.out.1).mono fun _ _ hh => ⟨hh.1, hh.2.le (by omega) (Nat.le_refl _)⟩
              have HRW : Hid (∀ W, SayAt w W ab CSE 41 tb cb rb (4 + 9 * (j + 1)) (KO (j + 1)) (RA (j + 1)) (RA j) → Calls Tryz.prog 27 #[.pointer (some ⟨rb, 0, none⟩), .slice e.ao e.es.length e.cap] W fun e' w' => e' = .returned (.int .i64 (writeF (RA j) e.es)) ∧ SayAt w w' ab CSE 41 tb cb rb (4 + 9 * (j + 1)) (KO (j + 1)) (RA (j + 1)) (RA (j + 1))) := fun W h => by
                have := h.rwrite (cap := e.cap) HES.out.2 HES.out.1
                rw [← hr] at this
                exact this
              clear HRJ HKJ HES hr hk
              generalize writeF (RA j) e.es = f at *
              go_upto_region 18 with fail
              go_region_held3 (fun W => W.cell? ⟨ab, 4, none⟩ = some (.slice e.ao e.es.length e.cap))
                (first | (go_keep; done) | exact b4)
                (first
                | (go_at_call 24; refine (HCK.out _ (HY0.out.ext (by repeat (first | assumption | exact Ext.refl _ | refine Ext.drew ?_ | refine Ext.drewN ?_ _ | refine Ext.alloc ?_ _)))).mono ?_; rintro e' w1 ⟨rfl, hY1⟩; obtain ⟨b0, b1, b2, b4⟩ := HAC.out _ _ _ _ _ _ hY1)
                | (go_at_call 25; refine (HWF.out _ (hY1.ext (by repeat (first | assumption | exact Ext.refl _ | refine Ext.drew ?_ | refine Ext.drewN ?_ _ | refine Ext.alloc ?_ _)))).mono ?_; rintro e' w2 ⟨rfl, hY2⟩; obtain ⟨b0, b1, b2, b4⟩ := HAC.out _ _ _ _ _ _ hY2)
                | (go_at_call 22; refine (HSM.out _).mono ?_; rintro e' w3 ⟨rfl, rfl⟩)
                | (go_at_call 26; refine (HWR.out _ (hY2.ext (by repeat (first | assumption | exact Ext.refl _ | refine Ext.drew ?_ | refine Ext.drewN ?_ _ | refine Ext.alloc ?_ _)))).mono ?_; rintro e' w4 ⟨rfl, hY4⟩; obtain ⟨b0, b1, b2, b4⟩ := HAC.out _ _ _ _ _ _ hY4)
                | (go_at_call 27; refine (HRW.out _ (hY4.ext (by repeat (first | assumption | exact Ext.refl _ | refine Ext.drew ?_ | refine Ext.drewN ?_ _ | refine Ext.alloc ?_ _)))).mono ?_; rintro e' w5 ⟨rfl, hY5⟩; obtain ⟨b0, b1, b2, b4⟩ := HAC.out _ _ _ _ _ _ hY5))
              all_goals
                go_wp2_with fail
                go_meet
                exact ⟨tb, rfl, rfl, hY5⟩
            · have hkw' : (e.kind.toList == [119, 114, 105, 116, 101]) = false := by simpa using hkw
              have hr : RA (j + 1) = RA j := by rw [HRJ.out, if_neg (show ¬ isWr e = true from hkw)]
              clear hkw
              by_cases hkf : (e.kind.toList == [102, 108, 117, 115, 104]) = true
              · have hk : KO (j + 1) = KO j := by
                  rw [HKJ.out.1]; unfold wk1 isWk; rw [eq_of_beq hkf]; rfl
                have HC : Hid (∀ W, W = wc → Calls Tryz.prog 28 #[.pointer (some ⟨tb, 0, none⟩)] W fun e' w' => e' = .returned .nilIface ∧ SayAt w w' ab CSE 41 tb cb rb (4 + 9 * (j + 1)) (KO (j + 1)) (RA (j + 1)) (RA (j + 1))) := fun W hW => by
                  subst hW; rw [hr, hk]
                  exact (HY0.out.flush (by omega)).mono fun _ _ hh => ⟨hh.1, hh.2.le (by omega) (Nat.le_refl _)⟩
                clear HRJ HKJ HES hr hk HAC
                go_wp2_with (go_at_call 28; refine (HC.out _ rfl).mono ?_; rintro e' w1 ⟨rfl, hY1⟩)
                go_meet
                exact ⟨tb, rfl, rfl, hY1⟩
              · have hkf' : (e.kind.toList == [102, 108, 117, 115, 104]) = false := by simpa using hkf
                clear hkf
                by_cases hkc : (e.kind.toList == [99, 111, 109, 112, 97, 99, 116]) = true
                · have hk : KO (j + 1) = KO j := by
                    rw [HKJ.out.1]; unfold wk1 isWk; rw [eq_of_beq hkc]; rfl
                  have HC : Hid (∀ W, W = wc → Calls Tryz.prog 29 #[.pointer (some ⟨tb, 0, none⟩)] W fun e' w' => e' = .returned .nilIface ∧ SayAt w w' ab CSE 41 tb cb rb (4 + 9 * (j + 1)) (KO (j + 1)) (RA (j + 1)) (RA (j + 1))) := fun W hW => by
                    subst hW; rw [hr, hk]
                    exact (HY0.out.compact (by omega)).mono fun _ _ hh => ⟨hh.1, hh.2.le (by omega) (Nat.le_refl _)⟩
                  clear HRJ HKJ HES hr hk HAC
                  go_wp2_with (go_at_call 29; refine (HC.out _ rfl).mono ?_; rintro e' w1 ⟨rfl, hY1⟩)
                  go_meet
                  exact ⟨tb, rfl, rfl, hY1⟩
                · have hkc' : (e.kind.toList == [99, 111, 109, 112, 97, 99, 116]) = false := by simpa using hkc
                  clear hkc
                  by_cases hkk : (e.kind.toList == [119, 101, 97, 107, 101, 110]) = true
                  · have hk : KO (j + 1) = KO j + 1 := by
                      rw [HKJ.out.1]; unfold wk1 isWk; rw [if_pos hkk]
                    have HC : Hid (∀ W, W = wc → Calls Tryz.prog 30 #[.pointer (some ⟨cb, 0, none⟩), .int .i64 e.a] W fun e' w' => (∃ v, e' = .returned v) ∧ SayAt w w' ab CSE 41 tb cb rb (4 + 9 * (j + 1)) (KO (j + 1)) (RA (j + 1)) (RA (j + 1))) := fun W hW => by
                      have h6 := HKJ.out.2
                      subst hW; rw [hr, hk]
                      exact (HY0.out.weaken (by omega) e.a).mono fun _ _ hh => ⟨hh.1, hh.2.le (by omega) (Nat.le_refl _)⟩
                    clear HRJ HKJ HES hr hk HAC
                    go_wp2_with (go_at_call 30; refine (HC.out _ rfl).mono ?_; rintro e' w1 ⟨⟨v, rfl⟩, hY1⟩)
                    go_meet
                    exact ⟨tb, rfl, rfl, hY1⟩
                  · have hkk' : (e.kind.toList == [119, 101, 97, 107, 101, 110]) = false := by simpa using hkk
                    have hk : KO (j + 1) = KO j := by
                      rw [HKJ.out.1]; unfold wk1 isWk; rw [if_neg hkk]; rfl
                    clear hkk
                    by_cases hko : (e.kind.toList == [111, 112, 101, 110]) = true
                    · have HC : Hid (∀ W, W = wc → Calls Tryz.prog 20 #[.pointer (some ⟨cb, 0, none⟩)] W fun e' w' => ∃ ub, e' = .returned (.tuple #[.pointer (some ⟨ub, 0, none⟩), .nilIface]) ∧ SayAt w w' ab CSE 41 ub cb rb (4 + 9 * (j + 1)) (KO (j + 1)) (RA (j + 1)) (RA (j + 1))) := fun W hW => by
                        subst hW; rw [hr, hk]
                        refine HY0.out.open.mono fun _ _ hh => ?_
                        obtain ⟨ub, h1, h2⟩ := hh
                        exact ⟨ub, h1, h2.le (by omega) (Nat.le_refl _)⟩
                      clear HRJ HKJ HES hr hk HAC
                      go_wp2_with (go_at_call 20; refine (HC.out _ rfl).mono ?_; rintro e' w1 ⟨ub, rfl, hY1⟩)
                      go_meet
                      exact ⟨ub, rfl, rfl, hY1⟩
                    · have hko' : (e.kind.toList == [111, 112, 101, 110]) = false := by simpa using hko
                      have HC : Hid (SayAt w wc ab CSE 41 tb cb rb (4 + 9 * (j + 1)) (KO (j + 1)) (RA (j + 1)) (RA (j + 1))) := by
                        rw [Hid, hr, hk]; exact HY0.out.le (by omega) (Nat.le_refl _)
                      clear HRJ HKJ HES hr hk HAC hko
                      go_wp2_with fail
                      go_meet
                      exact ⟨tb, rfl, rfl, HC.out⟩
          case rest =>
            clear HY0 HRJ HKJ HES a0 a1 a2 a4
            obtain ⟨ub, rfl, rfl, hY⟩ := hcut
            obtain ⟨R, hR⟩ : ∃ R, R = RA (j + 1) := ⟨_, rfl⟩
            have HRE : Hid (R = RA (j + 1)) := hR
            rw [← hR] at hY
            clear hR
            obtain ⟨b0, b1, b2, b4⟩ := HAC.out _ _ _ _ _ _ hY
            have HG : Hid (Calls Tryz.prog 31 #[.pointer (some ⟨ub, 0, none⟩), .string e.s] wc fun e' w' => e' = .returned (.tuple #[.string (valO (getE R e.s)), .bool (getE R e.s).isSome, .nilIface]) ∧ SayAt w w' ab CSE 41 ub cb rb (4 + 9 * (j + 1)) (KO (j + 1)) R R) := (hY.get e.s hks).mono fun _ _ hh => ⟨hh.1, hY.ext hh.2⟩
            have HRG : Hid (∀ W ro rc, SayAt w W ab CSE 41 ub cb rb (4 + 9 * (j + 1)) (KO (j + 1)) R R → EntsAt W ro R → Calls Tryz.prog 32 #[.slice ro R.length rc, .string e.s] W fun e' w' => ∃ kk gg, e' = .returned (.tuple #[.agg #[.string kk, .string (valO (getE R e.s)), .bool gg], .bool (getE R e.s).isSome]) ∧ Ext W w') := fun W ro rc h hE => refGetV ro rc R e.s W (by have := h.few; omega) hE
            have HRO : Hid (∀ W, SayAt w W ab CSE 41 ub cb rb (4 + 9 * (j + 1)) (KO (j + 1)) R R → Calls Tryz.prog 33 #[.pointer (some ⟨ub, 0, none⟩)] W fun e' w' => ∃ ro rc, e' = .returned (.tuple #[.slice ro R.length rc, .nilIface]) ∧ EntsAt w' ro R ∧ SayAt w w' ab CSE 41 ub cb rb (4 + 9 * (j + 1)) (KO (j + 1)) R R ∧ Ext W w') := fun W h => h.rows.mono fun _ _ hh => by
              obtain ⟨ro, rc, h1, h2, h3⟩ := hh
              exact ⟨ro, rc, h1, h2, h.ext h3, h3⟩
            have HSE : Hid (∀ W a1 a2 c1 c2, SayAt w W ab CSE 41 ub cb rb (4 + 9 * (j + 1)) (KO (j + 1)) R R → EntsAt W a1 R → EntsAt W a2 R → Calls Tryz.prog 34 #[.slice a1 R.length c1, .slice a2 R.length c2] W fun e' w' => e' = .returned (.bool true) ∧ SayAt w w' ab CSE 41 ub cb rb (4 + 9 * (j + 1)) (KO (j + 1)) R R) := fun W a1 a2 c1 c2 h h1 h2 => (sameEntries_eq a1 a2 c1 c2 R W (by have := h.few; omega) h1 h2).mono fun _ _ hh => by
              obtain ⟨h1, q, rfl⟩ := hh
              exact ⟨h1, h.ext ((Ext.refl _).drewN q)⟩
            generalize valO (getE R e.s) = V at *
            generalize (getE R e.s).isSome = B at *
            clear hY
            go_upto_region 31 with (go_at_call 31; refine HG.out.mono ?_; rintro e' w1 ⟨rfl, hY1⟩)
            have HY1 : Hid (SayAt w w1 ab CSE 41 ub cb rb (4 + 9 * (j + 1)) (KO (j + 1)) R R) := hY1
            obtain ⟨ro, rc, q1, q2⟩ := hY1.ref
            obtain ⟨_, d1, _, _⟩ := HAC.out _ _ _ _ _ _ hY1
            have d2 : w1.cell? ⟨rb, 0, none⟩ = some (.slice ro R.length rc) := q1.cell 0
            have HQ : Hid (Blk w1 rb #[.slice ro R.length rc] 39 ∧ EntsAt w1 ro R) := ⟨q1, q2⟩
            have hab : ¬ ab = w1.heap.size := by have := hY1.blk.lt; omega
            have hrb : ¬ rb = w1.heap.size := by have := q1.lt; omega
            clear q1 q2 hY1 b0 b1 b2 b4 HG
            go_cut [17, 18] (fun p ok wx => ∃ pb kk gg, p = .pointer (some ⟨pb, 0, none⟩) ∧ ok = .bool B ∧ Blk wx pb #[.string kk, .string V, .bool gg] 49 ∧ Ext w1 wx)
            case first =>
              have HAB : Hid (∀ W, Ext w1 W → W.cell? ⟨rb, 0, none⟩ = some (.slice ro R.length rc) ∧ W.cell? ⟨ab, 1, none⟩ = some (.string e.s)) := fun W hx => ⟨(HQ.out.1.ext hx).cell 0, (HAC.out _ _ _ _ _ _ (HY1.out.ext hx)).2.1⟩
              go_region_held3 (fun W => W.cell? ⟨rb, 0, none⟩ = some (.slice ro R.length rc) ∧ W.cell? ⟨ab, 1, none⟩ = some (.string e.s))
                (first | (go_keep; done) | exact HAB.out _ hX2 | exact HAB.out _ (hX2.alloc _) | exact HAB.out _ (((hX2.set (Nat.le_refl _) _).set (Nat.le_refl _) _).set (Nat.le_refl _) _) | exact HAB.out _ ((Ext.refl _).alloc _))
                (first | (go_at_call 32; refine (HRG.out _ ro rc (HY1.out.ext (by repeat (first | assumption | exact Ext.refl _ | refine Ext.drew ?_ | refine Ext.drewN ?_ _ | refine Ext.alloc ?_ _))) (HQ.out.2.ext2 (by repeat (first | assumption | exact Ext.refl _ | refine Ext.drew ?_ | refine Ext.drewN ?_ _ | refine Ext.alloc ?_ _)))).mono ?_; rintro e' w2 ⟨kk, gg, rfl, hx2⟩; have hX2 : Ext w1 w2 := Ext.trans (by repeat (first | assumption | exact Ext.refl _ | refine Ext.drew ?_ | refine Ext.drewN ?_ _ | refine Ext.alloc ?_ _)) hx2; (first | (have nbk : Blk w2 w1.heap.size #[.string ⟨#[]⟩, .string ⟨#[]⟩, .bool false] 49 := Blk.ext hx2 (Blk.new w1 #[.string ⟨#[]⟩, .string ⟨#[]⟩, .bool false] 49); have n0 : w2.cell? ⟨w1.heap.size, 0, none⟩ = some (.string ⟨#[]⟩) := nbk.cell 0; have n1 : w2.cell? ⟨w1.heap.size, 1, none⟩ = some (.string ⟨#[]⟩) := nbk.cell 1; have n2 : w2.cell? ⟨w1.heap.size, 2, none⟩ = some (.bool false) := nbk.cell 2; have f0 := nbk.free 0; have f1 := nbk.free 1; have f2 := nbk.free 2) | (have nbk : Blk w2 w1.heap.size #[.string ⟨#[]⟩, .string ⟨#[]⟩, .bool false] 49 := Blk.ext hx2 ((Blk.new w1 #[.string ⟨#[]⟩, .string ⟨#[]⟩, .bool false] 49).drew); have n0 : w2.cell? ⟨w1.heap.size, 0, none⟩ = some (.string ⟨#[]⟩) := nbk.cell 0; have n1 : w2.cell? ⟨w1.heap.size, 1, none⟩ = some (.string ⟨#[]⟩) := nbk.cell 1; have n2 : w2.cell? ⟨w1.heap.size, 2, none⟩ = some (.bool false) := nbk.cell 2; have f0 := nbk.free 0; have f1 := nbk.free 1; have f2 := nbk.free 2) | (have nbk : Blk w2 w1.heap.size #[.string ⟨#[]⟩, .string ⟨#[]⟩, .bool false] 49 := Blk.ext hx2 (Blk.new w1.drew #[.string ⟨#[]⟩, .string ⟨#[]⟩, .bool false] 49); have n0 : w2.cell? ⟨w1.heap.size, 0, none⟩ = some (.string ⟨#[]⟩) := nbk.cell 0; have n1 : w2.cell? ⟨w1.heap.size, 1, none⟩ = some (.string ⟨#[]⟩) := nbk.cell 1; have n2 : w2.cell? ⟨w1.heap.size, 2, none⟩ = some (.bool false) := nbk.cell 2; have f0 := nbk.free 0; have f1 := nbk.free 1; have f2 := nbk.free 2) | (have nbk : Blk w2 w1.heap.size #[.string ⟨#[]⟩, .string ⟨#[]⟩, .bool false] 49 := Blk.ext hx2 ((Blk.new w1.drew #[.string ⟨#[]⟩, .string ⟨#[]⟩, .bool false] 49).drew); have n0 : w2.cell? ⟨w1.heap.size, 0, none⟩ = some (.string ⟨#[]⟩) := nbk.cell 0; have n1 : w2.cell? ⟨w1.heap.size, 1, none⟩ = some (.string ⟨#[]⟩) := nbk.cell 1; have n2 : w2.cell? ⟨w1.heap.size, 2, none⟩ = some (.bool false) := nbk.cell 2; have f0 := nbk.free 0; have f1 := nbk.free 1; have f2 := nbk.free 2) | skip)))
              all_goals
                go_wp2_with fail
                go_meet
                first
                  | exact ⟨w2.heap.size, kk, gg, rfl, rfl, Blk.new _ _ _, hX2.alloc _⟩
                  | exact ⟨w1.heap.size, kk, gg, rfl, rfl, by simpa using ((nbk.set 0 (.string kk)).set 1 (.string V)).set 2 (.bool gg), ((hX2.set (Nat.le_refl _) _).set (Nat.le_refl _) _).set (Nat.le_refl _) _⟩
            case rest =>
              obtain ⟨pb, kk, gg, rfl, rfl, hP, hx2⟩ := hcut
              have hYc := HY1.out.ext hx2
              have p1 : wc.cell? ⟨pb, 1, none⟩ = some (.string V) := hP.cell 1
              have HRF : Hid (∀ W, Ext w1 W → W.cell? ⟨rb, 0, none⟩ = some (.slice ro R.length rc) ∧ EntsAt W ro R) := fun W hx => ⟨(HQ.out.1.ext hx).cell 0, HQ.out.2.ext2 hx⟩
              clear hP HQ HY1 HRG
              go_wp2_with (first
                | (go_at_call 33; refine (HRO.out _ hYc).mono ?_; rintro e' w3 ⟨so, sc, rfl, hE3, hY3, hx3⟩; have z := HRF.out w3 (hx2.trans hx3); have z1 := z.1)
                | (go_at_call 34; refine (HSE.out _ _ _ _ _ hY3 hE3 z.2).mono ?_; rintro e' w4 ⟨rfl, hY4⟩))
              go_roundg (acs.length - (j + 1))
              case measure => omega
              case rel => exact ⟨j + 1, ub, rfl, by omega, by go_num, rfl, by rw [← HRE.out]; exact hY4.drop⟩
        · have hxr := hY.x
          clear HRS HKS HK6 HLS HAS hY
          go_wp2_with fail
          go_ret
          exact ⟨rfl, hxr⟩
end Go.Proofs.YthndopokabceiaaGreatDoor
