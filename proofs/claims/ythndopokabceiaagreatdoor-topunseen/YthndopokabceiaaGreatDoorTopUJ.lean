/- TopU. -/
import Derived.Test.YthndopokabceiaaGreatDoorLawAJ
import Derived.LaidEqlPtr

/- TopUnseen. -/
namespace Go.Proofs.YthndopokabceiaaGreatDoor
open Go.RowKit Go.WideShapes

theorem ptr_ne {w : World} {cb db : Nat} {M M' : CM} (h : ¬ cb = db) (h1 : ChipAt w cb M) (h2 : ChipAt w db M') : (binOp .eql 31 (.pointer (some ⟨cb, 0, none⟩)) (.pointer (some ⟨db, 0, none⟩))).run Tryz.prog w = .ok (.bool false) w := by
  obtain ⟨⟨cs, fv, b1, _⟩, _⟩ := h1
  obtain ⟨⟨cs', fv', b2, _⟩, _⟩ := h2
  obtain ⟨j, hj, hz⟩ : ∃ j, Tryz.prog.info? 109 = some j ∧ j.size = 12578 := by
    have : (Tryz.prog.info? 109).map (·.size) = some 12578 := by kernel_rfl
    cases hh : Tryz.prog.info? 109 with
    | none => rw [hh] at this; cases this
    | some j => rw [hh] at this; exact ⟨j, rfl, by simpa using this⟩
  exact run_eql_ptr_other w (te := 109) Tryz.underlying31 hj (by omega) (fun e => h (by cases e; rfl)) b1.blk b2.blk
theorem FillAt.le {w wr : World} {sb cb n n' k k' : Nat} {R : List Ent} (h : FillAt w wr sb cb n k R) (hn : n ≤ n') (hk : k ≤ k') : FillAt w wr sb cb n' k' R := by
  obtain ⟨S, m, h1, h2⟩ := h.ex
  exact ⟨S, m, h1.le hn hk, h2⟩
theorem FillAt.x {w wr : World} {sb cb n k : Nat} {R : List Ent} (h : FillAt w wr sb cb n k R) : Ext w wr := by
  obtain ⟨_, _, _, h, _⟩ := h.ex; exact h
theorem FillAt.ext {w wr w' : World} {sb cb n k : Nat} {R : List Ent} (h : FillAt w wr sb cb n k R) (hx : Ext wr w') : FillAt w w' sb cb n k R := by
  obtain ⟨S, m, h1, h2, h3⟩ := h.ex
  exact ⟨S, m, h1.ext hx, h2.trans hx, h3⟩
theorem FillAt.wr {w wr : World} {sb cb n k : Nat} {R : List Ent} (h : FillAt w wr sb cb n k R) (hn : n ≤ 80000) {ao : Option Addr} {cap : Nat} {l : List Ent} (hl : EntsAt w ao l) :
    Calls Tryz.prog 26 #[.pointer (some ⟨sb, 0, none⟩), .slice ao l.length cap] wr fun e w' => e = .returned (errV (writeF R l)) ∧ FillAt w w' sb cb (n + 9) k (wrR R l) ∧ Ext w w' := by
  obtain ⟨S, m, h1, h2, h3⟩ := h.ex
  refine (h1.wr hn (Aside3.old hl h2 h3)).mono fun e w' hh => ⟨hh.1, ?_⟩
  obtain ⟨S', m', q1, q2, q3⟩ := hh.2.far h3 h2
  exact ⟨⟨S', m', q1, q2, q3⟩, q2⟩
theorem FillAt.do {w wr : World} {sb cb n k : Nat} {R : List Ent} (h : FillAt w wr sb cb n k R) (hn : n ≤ 80000) (e : ActE) (hk : k + wk1 e ≤ 6) (hl : EntsAt w e.ao e.es) :
    Calls Tryz.prog 37 #[.pointer (some ⟨cb, 0, none⟩), .pointer (some ⟨sb, 0, none⟩), .agg #[.string e.kind, .string e.s, .int .i64 e.a, .int .i64 e.b, .slice e.ao e.es.length e.cap]] wr fun r w' => r = .returned (doV R e) ∧ FillAt w w' sb cb (n + 9) (k + wk1 e) (doR R e) ∧ Ext w w' := by
  obtain ⟨S, m, h1, h2, h3⟩ := h.ex
  refine (do_any n wr S sb cb m k R e h1 hn hk (Aside3.old hl h2 h3)).mono fun r w' hh => ⟨hh.1, ?_⟩
  obtain ⟨S', m', q1, q2, q3⟩ := hh.2.far h3 h2
  exact ⟨⟨S', m', q1, q2, q3⟩, q2⟩
theorem storedH (w : World) (hg : GlobT w) : Hid (∀ W, Ext w W → Calls Tryz.prog 23 #[] W fun e w' => ∃ cb sb, e = .returned (.tuple #[.pointer (some ⟨cb, 0, none⟩), .pointer (some ⟨sb, 0, none⟩), .bool true]) ∧ FillAt W w' sb cb 4 0 [] ∧ W.heap.size ≤ cb ∧ Ext w w') := fun W hx => (stored_any W (hg.ext hx)).mono fun _ _ h => by
  obtain ⟨cb, sb, S, h1, h2, h3, h4⟩ := h.up
  obtain ⟨M, a, x, N, O, q, _⟩ := h2.ex
  exact ⟨cb, sb, h1, ⟨S, fm, h2, h3, h4⟩, h4 _ q.cS.1, hx.trans h3⟩
set_option maxRecDepth 20000 in
set_option maxHeartbeats 4000000 in
theorem topUnseen_any (ao : Option Addr) (cap : Nat) (acs : List ActE) (bo : Option Addr) (bap : Nat) (ots : List ActE) (w : World) (hg : GlobT w) (hl : acs.length ≤ 9223372036854775807) (has : ActsAt w ao acs) (hlo : ots.length ≤ 9223372036854775807) (hos : ActsAt w bo ots) :
    Calls Tryz.prog 4 #[.slice ao acs.length cap, .slice bo ots.length bap] w fun e w' => e = .returned (.bool true) ∧ Ext w w' := by
  have HW := worksH w hg
  cases hf : fillB acs with
  | false =>
    have HF := filledN ao cap acs w hl has hf
    clear has hf hg hos
    go_enter Tryz.func4, Tryz.ntmps4
    go_wp2_with (first
      | (go_at_call 35; refine HW.out.mono ?_; rintro e w1 ⟨rfl, hx1⟩)
      | (go_at_call 36; refine (HF.out _ hx1).mono ?_; rintro e w2 ⟨rfl, rfl⟩))
    go_ret
    exact ⟨rfl, hx1⟩
  | true =>
    have HF := filledY ao cap acs w hg hl has hf
    have h80 : acs.length ≤ 80 := by unfold fillB lightActs at hf; simp at hf; omega
    have HL : Hid (∀ W, Ext w W → Calls Tryz.prog 18 #[.slice bo ots.length bap, .int .i64 80] W fun e w' => e = .returned (.bool (lightActs ots 80)) ∧ W = w') := fun W hx => (lightActs_any bo bap ots 80 W (by omega) hlo (hos.ext hx)).mono fun _ _ h => ⟨h.1, h.2.symm⟩
    cases hli : lightActs ots 80 with
    | false =>
      rw [hli] at HL
      clear has hf hg hos hli
      generalize weakN acs = k at *
      generalize fillR acs = R at *
      go_enter Tryz.func4, Tryz.ntmps4
      go_wp2_with (first
        | (go_at_call 35; refine HW.out.mono ?_; rintro e w1 ⟨rfl, hx1⟩)
        | (go_at_call 36; refine (HF.out _ hx1).mono ?_; rintro e w2 ⟨cb, sb, S, m, rfl, hU2, hx2, hS2⟩)
        | (go_at_call 18; refine (HL.out _ hx2).mono ?_; rintro e w3 ⟨rfl, rfl⟩))
      go_ret
      exact ⟨rfl, hx2⟩
    | true =>
      have ho80 : ots.length ≤ 80 := by unfold lightActs at hli; simp at hli; exact hli.1
      have HWK : Hid (∀ W, Ext w W → Calls Tryz.prog 19 #[.slice bo ots.length bap] W fun e w' => e = .returned (.int .i64 (weakN ots : Int)) ∧ W = w') := fun W hx => (weak_any bo bap ots W (by omega) (hos.ext hx)).mono fun _ _ h => ⟨h.1, h.2.symm⟩
      rw [hli] at HL
      by_cases hw6 : (6 : Int) < (weakN ots : Int)
      · clear has hf hg hos hli
        generalize weakN acs = k at *
        generalize fillR acs = R at *
        generalize weakN ots = q at *
        go_enter Tryz.func4, Tryz.ntmps4
        go_wp2_with (first
          | (go_at_call 35; refine HW.out.mono ?_; rintro e w1 ⟨rfl, hx1⟩)
          | (go_at_call 36; refine (HF.out _ hx1).mono ?_; rintro e w2 ⟨cb, sb, S, m, rfl, hU2, hx2, hS2⟩)
          | (go_at_call 18; refine (HL.out _ hx2).mono ?_; rintro e w3 ⟨rfl, rfl⟩)
          | (go_at_call 19; refine (HWK.out _ hx2).mono ?_; rintro e w3 ⟨rfl, rfl⟩))
        go_ret
        exact ⟨rfl, hx2⟩
      · have HN : Hid (weakN ots ≤ 6) := by unfold Hid; omega
        have HST := storedH w hg
        have HSE : Hid (∀ W a1 a2 c1 c2, (fillR acs).length ≤ 40 → EntsAt W a1 (fillR acs) → EntsAt W a2 (fillR acs) → Ext w W → Calls Tryz.prog 34 #[.slice a1 (fillR acs).length c1, .slice a2 (fillR acs).length c2] W fun e w' => e = .returned (.bool true) ∧ Ext W w' ∧ Ext w w') := fun W a1 a2 c1 c2 h => (sameEH w _ (by omega)).out W a1 a2 c1 c2
        have HAS : Hid (ActsAt w ao acs) := has
        have HOS : Hid (ActsAt w bo ots) := hos
        have HR := rowsH w 800 (weakN acs) (fillR acs)
        have HR2 : Hid (∀ W n k S sb cb m, Ext w W → Up n W S sb cb m k (fillR acs) → Calls Tryz.prog 38 #[.pointer (some ⟨sb, 0, none⟩)] W fun e w' => ∃ ro rc, e = .returned (.slice ro (fillR acs).length rc) ∧ Aside2 w' S ro (fillR acs) ∧ Ext W w' ∧ Ext w w') := fun W n k S sb cb m hx hU => (rowsH w n k _).out W S sb cb m hx hU
        have HTF : Hid (∀ i : Nat, acs.length ≤ i → fillR (acs.take i) = fillR acs) := fun i hi => by rw [List.take_of_length_le hi]
        obtain ⟨RA, hRA⟩ : ∃ RA : Nat → List Ent, ∀ i, fillR (acs.take i) = RA i := ⟨_, fun _ => rfl⟩
        obtain ⟨KO, hKO⟩ : ∃ KO : Nat → Nat, ∀ i, weakN (ots.take i) = KO i := ⟨_, fun _ => rfl⟩
        have HRS : Hid (∀ i e, acs[i]? = some e → RA (i + 1) = if isWr e then wrR (RA i) e.es else RA i) := fun i e he => by rw [← hRA, ← hRA, fill_take he]; rfl
        have HR0 : Hid (RA 0 = []) := by unfold Hid; rw [← hRA]; rfl
        have HRE : Hid (∀ i, acs.length ≤ i → RA i = fillR acs) := fun i hi => by rw [← hRA]; exact HTF.out i hi
        have HKS : Hid (∀ i e, ots[i]? = some e → KO (i + 1) = KO i + wk1 e) := fun i e he => by rw [← hKO, ← hKO, weakN_take he]
        have HKM : Hid (∀ i, KO i ≤ KO (i + 1)) := fun i => by
          cases he : ots[i]? with
          | some e => rw [HKS.out i e he]; omega
          | none =>
            have h1 : ots.length ≤ i := by simpa using he
            have h2 : ots.length ≤ i + 1 := by omega
            rw [← hKO, ← hKO, List.take_of_length_le h1, List.take_of_length_le h2]
            exact Nat.le_refl _
        have HK6 : Hid (∀ i, KO i ≤ 6) := fun i => by rw [← hKO]; have := weakN_mono ots i; have := HN.out; omega
        have HK0 : Hid (KO 0 = 0) := by unfold Hid; rw [← hKO]; rfl
        clear HTF hRA hKO HN has hos hg hf hli hl hlo
        generalize weakN acs = k at *
        generalize fillR acs = R at *
        generalize weakN ots = q at *
        go_enter Tryz.func4, Tryz.ntmps4
        go_wp2_with (first
          | (go_at_call 35; refine HW.out.mono ?_; rintro e w1 ⟨rfl, hx1⟩)
          | (go_at_call 36; refine (HF.out _ hx1).mono ?_; rintro e w2 ⟨cb, sb, S, m, rfl, hU2, hx2, hS2⟩)
          | (go_at_call 18; refine (HL.out _ hx2).mono ?_; rintro e w3 ⟨rfl, rfl⟩)
          | (go_at_call 19; refine (HWK.out _ hx2).mono ?_; rintro e w3 ⟨rfl, rfl⟩)
          | (go_at_call 23; refine (HST.out _ hx2).mono ?_; rintro e w4 ⟨db, tb, rfl, hF4, hdb, hX4⟩; have hcd : (binOp .eql 31 (.pointer (some ⟨cb, 0, none⟩)) (.pointer (some ⟨db, 0, none⟩))).run Tryz.prog w4 = .ok (.bool false) w4 := (by obtain ⟨M, a, x, N, O, q, _⟩ := hU2.ex; obtain ⟨T, m', hT, hxT, _⟩ := hF4.ex; obtain ⟨M', a', x', N', O', q', _⟩ := hT.ex; have := q.lt _ q.cS.1; exact ptr_ne (by omega) (q.chip.ext hxT) q'.chip)))
        have HU2 : Hid (Up 800 w2 S sb cb m k R) := hU2
        have HX2 : Hid (Ext w w2) := hx2
        have HF4 : Hid (FillAt w2 w4 tb db (4 + 9 * (0 + 0)) (KO 0) (RA 0)) := by rw [HR0.out, HK0.out]; exact hF4
        clear hU2 hF4 HF HW HL HWK HST hw6 hcd hdb hX4 hS2 hx1
        go_loopw [10, 11] (fun kk i wr => ∃ j i' : Nat, i' ≤ acs.length ∧ j ≤ 80 + i' ∧ i = .int .i64 i' ∧ kk = .int .i64 j ∧ FillAt w2 wr tb db (4 + 9 * (i' + j)) (KO j) (RA i')) (fun _ i _ => acs.length - (intOf i).toNat)
        case atStart => exact ⟨0, 0, Nat.zero_le _, by omega, rfl, rfl, HF4.out⟩
        case round =>
          clear HF4
          obtain ⟨j, i, hi, hj, rfl, rfl, hFr⟩ := hrel
          by_cases hlt : i < acs.length
          · obtain ⟨b, off, e, rfl, he, c0, c1, c2, c3, c4, c5⟩ := HAS.out.get hlt
            have hxr := hFr.x
            have g0 := (hx2.trans hxr).cell c0
            by_cases hkw : (e.kind.toList == [119, 114, 105, 116, 101]) = true
            · have HRI : Hid (RA (i + 1) = wrR (RA i) e.es) := by unfold Hid; rw [HRS.out i e he, if_pos (show isWr e = true from hkw)]
              have HFR : Hid (FillAt w2 wr tb db (4 + 9 * (i + j)) (KO j) (RA i)) := hFr
              have HC4 : Hid (∀ W, Ext w2 W → W.cell? ⟨b, off + i * 5 + 4, none⟩ = some (.slice e.ao e.es.length e.cap)) := fun W hx => (HX2.out.trans hx).cell c4
              have HWT : Hid (∀ W n k R', n ≤ 80000 → FillAt w2 W tb db n k R' → Calls Tryz.prog 26 #[.pointer (some ⟨tb, 0, none⟩), .slice e.ao e.es.length e.cap] W fun r w' => (∃ v, r = .returned v) ∧ FillAt w2 w' tb db (n + 9) k (wrR R' e.es) ∧ Ext w2 w') := fun W n k R' hn hF => (hF.wr hn (c5.ents.ext2 HX2.out)).mono fun _ _ h => ⟨⟨_, h.1⟩, h.2⟩
              clear he c0 c1 c2 c3 c4 c5 hFr
              go_wp2_with fail
              go_loopw [10] (fun kk wx => ∃ j' : Nat, j' ≤ 80 + i ∧ kk = .int .i64 j' ∧ FillAt w2 wx tb db (4 + 9 * (i + j')) (KO j') (RA i)) (fun kk _ => 200 - (intOf kk).toNat)
              case atStart => exact ⟨j, hj, rfl, HFR.out⟩
              case round =>
                clear HFR hj g0 hxr
                obtain ⟨j', hj', rfl, hFx⟩ := hrel
                have hxx := hFx.x
                have d4 := HC4.out _ hxx
                by_cases hjl : j' < ots.length
                · obtain ⟨ob, oo, o, rfl, ho, o0, o1, o2, o3, o4, o5⟩ := HOS.out.get hjl
                  have p0 := (hx2.trans hxx).cell o0
                  have p1 := (hx2.trans hxx).cell o1
                  have p2 := (hx2.trans hxx).cell o2
                  have p3 := (hx2.trans hxx).cell o3
                  have p4 := (hx2.trans hxx).cell o4
                  by_cases how : (o.kind.toList == [119, 114, 105, 116, 101]) = true
                  · have HFX : Hid (FillAt w2 wr tb db (4 + 9 * (i + j')) (KO j') (RA i)) := hFx
                    have HWX : Hid (Calls Tryz.prog 26 #[.pointer (some ⟨tb, 0, none⟩), .slice e.ao e.es.length e.cap] wr fun r w' => (∃ v, r = .returned v) ∧ FillAt w2 w' tb db (4 + 9 * (i + j') + 9) (KO j') (wrR (RA i) e.es) ∧ Ext w2 w') := HWT.out _ _ _ _ (by omega) hFx
                    clear ho o0 o1 o2 o3 o4 o5 hFx p1 p2 p3 p4 HWT
                    go_wp2_with (go_at_call 26; refine HWX.out.mono ?_; rintro r w6 ⟨⟨v, rfl⟩, hF6, hX6⟩)
                    go_roundw
                    case rel => exact ⟨j' + 1, i + 1, by omega, by omega, by go_num, by go_num, by rw [HRI.out]; exact hF6.le (by omega) (HKM.out j')⟩
                    case measure => simp [intOf]; omega
                  · have how' : (o.kind.toList == [119, 114, 105, 116, 101]) = false := by simpa using how
                    have HDX : Hid (Calls Tryz.prog 37 #[.pointer (some ⟨db, 0, none⟩), .pointer (some ⟨tb, 0, none⟩), .agg #[.string o.kind, .string o.s, .int .i64 o.a, .int .i64 o.b, .slice o.ao o.es.length o.cap]] wr fun r w' => r = .returned .nilIface ∧ FillAt w2 w' tb db (4 + 9 * (i + j') + 9) (KO (j' + 1)) (RA i) ∧ Ext w2 w') := by
                      have hks := HKS.out j' o ho
                      have hk6 := HK6.out (j' + 1)
                      refine (hFx.do (by omega) o (by omega) (o5.ents.ext2 HX2.out)).mono fun r w' h => ?_
                      have hv : doV (RA i) o = .nilIface := by unfold doV isWr; rw [if_neg how]
                      have hd : doR (RA i) o = RA i := by unfold doR isWr; rw [if_neg how]
                      rw [hv, hd, ← hks] at h
                      exact h
                    clear ho o0 o1 o2 o3 o4 o5 hFx HWT how
                    go_wp2_with (go_at_call 37; refine HDX.out.mono ?_; rintro r w6 ⟨rfl, hF6, hX6⟩)
                    go_roundw
                    case rel => exact ⟨j' + 1, by omega, by go_num, hF6.le (by omega) (Nat.le_refl _)⟩
                    case measure => simp [intOf]; omega
                · have HWX : Hid (Calls Tryz.prog 26 #[.pointer (some ⟨tb, 0, none⟩), .slice e.ao e.es.length e.cap] wr fun r w' => (∃ v, r = .returned v) ∧ FillAt w2 w' tb db (4 + 9 * (i + j') + 9) (KO j') (wrR (RA i) e.es) ∧ Ext w2 w') := HWT.out _ _ _ _ (by omega) hFx
                  clear hFx HWT
                  go_wp2_with (go_at_call 26; refine HWX.out.mono ?_; rintro r w6 ⟨⟨v, rfl⟩, hF6, hX6⟩)
                  go_roundw
                  case rel => exact ⟨j' + 1, i + 1, by omega, by omega, by go_num, by go_num, by rw [HRI.out]; exact hF6.le (by omega) (HKM.out j')⟩
                  case measure => simp [intOf]; omega
            · have hkw' : (e.kind.toList == [119, 114, 105, 116, 101]) = false := by simpa using hkw
              have HRI : Hid (RA (i + 1) = RA i) := by unfold Hid; rw [HRS.out i e he, if_neg (show ¬ isWr e = true from hkw)]
              have HFR : Hid (FillAt w2 wr tb db (4 + 9 * (i + j)) (KO j) (RA i)) := hFr
              clear he c0 c1 c2 c3 c4 c5 hFr hkw
              go_wp2_with fail
              go_roundw
              case rel => exact ⟨j, i + 1, by omega, by omega, by go_num, rfl, by rw [HRI.out]; exact HFR.out.le (by omega) (Nat.le_refl _)⟩
              case measure => simp [intOf]; omega
          · obtain ⟨T, m', hT, hxr, hTS⟩ := hFr.ex
            rw [HRE.out i (by omega)] at hT
            have hUr := HU2.out.ext hxr
            have hXr := HX2.out.trans hxr
            have hfew := hUr.few
            clear hFr HAS HOS HRS HRE HKS HKM HK6 HU2 HX2 HR0 HK0
            go_wp2_with (first
              | (go_at_call 34; refine (HSE.out _ _ _ _ _ hfew hR5.at_ hR6.at_ hX6).mono ?_; rintro e w7 ⟨rfl, hx7, hX7⟩)
              | (go_at_call 38; refine (HR2.out _ _ _ _ _ _ _ hX5 hT5).mono ?_; rintro e w6 ⟨ro6, rc6, rfl, hR6, hx6, hX6⟩; have hR5 := hR4.ext hx6)
              | (go_at_call 38; refine (HR.out _ _ _ _ _ hXr hUr).mono ?_; rintro e w5 ⟨ro5, rc5, rfl, hR4, hx5, hX5⟩; have hT5 := hT.ext hx5))
            go_ret
            exact ⟨rfl, hX7⟩
end Go.Proofs.YthndopokabceiaaGreatDoor
