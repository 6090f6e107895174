/- BtwT. -/
import Derived.Test.YthndopokabceiaaGreatDoorBtwBJ
import Derived.Test.YthndopokabceiaaGreatDoorFalAJ
import Derived.BigQuiet

/- TopBetween. -/
namespace Go.Proofs.YthndopokabceiaaGreatDoor
open Go.RowKit Go.WideShapes

/-- An operation that is guarded, and wanted, is one that isn't guarded. -/
theorem wpList_unguard {P : Program} {ops : Array Oper} {rest : List Oper} {o : Oper} {a : Act} {w : World} {Q : Exit → Act → World → Prop} (hgd : Region.wanted o (yielded ops a.tmps) = true) (h : wpList P ops Q ({ o with guard := none } :: rest) a w) : wpList P ops Q (o :: rest) a w := by
  unfold wpList at h ⊢
  rw [if_pos hgd]
  have h0 : Region.wanted { o with guard := none } (yielded ops a.tmps) = true := rfl
  rw [if_pos h0] at h
  exact h
theorem filter_two {p p1 p2 : Ent → Bool} : ∀ {R : List Ent}, Ris R → (∀ e, p e = (p1 e || p2 e)) → (∀ e, p1 e = true → p2 e = false) → (∀ x y, Lt x.key y.key → p2 x = true → p1 y = false) → R.filter p = R.filter p1 ++ R.filter p2
  | [], _, _, _, _ => rfl
  | e :: R, hr, h1, h2, h3 => by
    have hr' := hr
    unfold Ris at hr'
    rw [List.pairwise_cons] at hr'
    have ih := filter_two (R := R) hr'.2 h1 h2 h3
    by_cases c1 : p1 e = true
    · have c2 := h2 e c1
      have c0 : p e = true := by rw [h1, c1]; rfl
      rw [List.filter_cons_of_pos c0, List.filter_cons_of_pos c1, List.filter_cons_of_neg (by rw [c2]; decide), ih]
      rfl
    · by_cases c2 : p2 e = true
      · have c0 : p e = true := by rw [h1, c2]; simp
        have cn : R.filter p1 = [] := by
          rw [List.filter_eq_nil_iff]
          intro y hy
          rw [h3 e y (hr'.1 y hy) c2]
          decide
        rw [List.filter_cons_of_pos c0, List.filter_cons_of_neg c1, List.filter_cons_of_pos c2, ih, cn]
        rfl
      · have c0 : ¬ p e = true := by rw [h1]; simp [c1, c2]
        rw [List.filter_cons_of_neg c0, List.filter_cons_of_neg c1, List.filter_cons_of_neg c2, ih]
theorem lt_or_not (a b : ByteArray) : Op.bytesLess a.toList b.toList = true ∨ Op.bytesLess a.toList b.toList = false := by
  cases Op.bytesLess a.toList b.toList <;> simp
theorem less_nil (l : List UInt8) : Op.bytesLess l [] = false := by cases l <;> rfl
theorem le_or {a b : ByteArray} (h : Op.bytesLess b.toList a.toList = false) : Op.bytesLess a.toList b.toList = true ∨ a.toList = b.toList := by
  rcases Lt.tri a b with h' | rfl | h'
  · exact .inl h'
  · exact .inr rfl
  · unfold Lt at h'; rw [h'] at h; cases h
/-- Not above: below, or the same. -/
theorem nless_trans {a b c : ByteArray} (h1 : Op.bytesLess b.toList a.toList = false) (h2 : Op.bytesLess c.toList b.toList = false) : Op.bytesLess c.toList a.toList = false := by
  refine Lt.nless fun h => ?_
  rcases Lt.tri a b with h' | rfl | h'
  · have := h.trans h'
    unfold Lt at this; rw [this] at h2; cases h2
  · unfold Lt at h; rw [h] at h2; cases h2
  · unfold Lt at h'; rw [h'] at h1; cases h1
theorem btw_two {R : List Ent} (hr : Ris R) {a b c : ByteArray} (hab : Op.bytesLess b.toList a.toList = false) (hbc : Op.bytesLess c.toList b.toList = false) (hb : ¬ b.toList = []) (hc : ¬ c.toList = []) : btwE R b c ++ btwE R a b = btwE R a c := by
  unfold btwE
  rw [← List.reverse_append]
  congr 1
  have eb : (b.toList == []) = false := by rw [beq_eq_false_iff_ne]; exact hb
  have ec : (c.toList == []) = false := by rw [beq_eq_false_iff_ne]; exact hc
  symm
  refine filter_two hr (fun e => ?_) (fun e h => ?_) (fun x y hxy h => ?_)
  · unfold btwQ
    rw [eb, ec]
    simp only [Bool.false_or]
    rcases lt_or_not e.key b with h1 | h1
    · have h2 : Op.bytesLess e.key.toList c.toList = true := by
        rcases Lt.tri e.key c with h | h | h
        · exact h
        · rw [h] at h1; rw [h1] at hbc; cases hbc
        · have : Lt c b := Lt.trans h h1
          unfold Lt at this; rw [this] at hbc; cases hbc
      rw [h1, h2]; simp
    · have h2 : Op.bytesLess e.key.toList a.toList = false := nless_trans hab h1
      rw [h1, h2]; simp
  · unfold btwQ at h ⊢
    rw [eb] at h
    simp only [Bool.false_or, Bool.and_eq_true] at h
    rw [h.2]; rfl
  · unfold btwQ at h ⊢
    rw [eb]
    simp only [Bool.and_eq_true, Bool.not_eq_true'] at h
    have : Op.bytesLess y.key.toList b.toList = false := Lt.nless fun hy => by
      have := Lt.trans hxy hy
      unfold Lt at this; rw [this] at h; exact absurd h.1 (by simp)
    rw [this]; simp
theorem btw_every (R : List Ent) : btwE R ⟨#[]⟩ ⟨#[]⟩ = R.reverse := by
  unfold btwE
  congr 1
  rw [List.filter_eq_self]
  intro e _
  unfold btwQ
  have he : (⟨#[]⟩ : ByteArray).toList = [] := by kernel_rfl
  rw [he]
  cases e.key.toList <;> rfl
set_option maxRecDepth 20000 in
set_option maxHeartbeats 8000000 in
theorem topBetween_any (ao : Option Addr) (cap : Nat) (acs : List ActE) (a b c : ByteArray) (w : World) (hg : GlobT w) (hl : acs.length ≤ 9223372036854775807) (has : ActsAt w ao acs) :
    Calls Tryz.prog 15 #[.slice ao acs.length cap, .string a, .string b, .string c] w fun e w' => e = .returned (.bool true) ∧ Ext w w' := by
  have HW := worksH w hg
  cases hf : fillB acs with
  | false =>
    have HF := filledN ao cap acs w hl has hf
    clear has hf hg
    go_enter Tryz.func15, Tryz.ntmps15
    go_wp2_with (first
      | (go_at_call 35; refine HW.out.mono ?_; rintro e w1 ⟨rfl, hx1⟩)
      | (go_at_call 36; refine (HF.out _ hx1).mono ?_; rintro e w2 ⟨rfl, rfl⟩))
    go_ret
    exact ⟨rfl, hx1⟩
  | true =>
    have HF := filledY ao cap acs w hg hl has hf
    generalize weakN acs = k at *
    generalize fillR acs = R at *
    have HR := rowsH w 800 k R
    clear has hf hg
    by_cases hA : a.size ≤ 20
    rotate_left
    · have hA' : (20 : Int) < (a.size : Int) := by omega
      go_enter Tryz.func15, Tryz.ntmps15
      go_wp2_with (first
        | (go_at_call 35; refine HW.out.mono ?_; rintro e w1 ⟨rfl, hx1⟩)
        | (go_at_call 36; refine (HF.out _ hx1).mono ?_; rintro e w2 ⟨cb, sb, S, m, rfl, hU2, hx2, hS2⟩))
      go_ret
      exact ⟨rfl, hx2⟩
    have hA' : ¬ (20 : Int) < (a.size : Int) := by omega
    by_cases hB : b.size ≤ 20
    rotate_left
    · have hB' : (20 : Int) < (b.size : Int) := by omega
      go_enter Tryz.func15, Tryz.ntmps15
      go_wp2_with (first
        | (go_at_call 35; refine HW.out.mono ?_; rintro e w1 ⟨rfl, hx1⟩)
        | (go_at_call 36; refine (HF.out _ hx1).mono ?_; rintro e w2 ⟨cb, sb, S, m, rfl, hU2, hx2, hS2⟩))
      go_ret
      exact ⟨rfl, hx2⟩
    have hB' : ¬ (20 : Int) < (b.size : Int) := by omega
    by_cases hC : c.size ≤ 20
    rotate_left
    · have hC' : (20 : Int) < (c.size : Int) := by omega
      go_enter Tryz.func15, Tryz.ntmps15
      go_wp2_with (first
        | (go_at_call 35; refine HW.out.mono ?_; rintro e w1 ⟨rfl, hx1⟩)
        | (go_at_call 36; refine (HF.out _ hx1).mono ?_; rintro e w2 ⟨cb, sb, S, m, rfl, hU2, hx2, hS2⟩))
      go_ret
      exact ⟨rfl, hx2⟩
    have hC' : ¬ (20 : Int) < (c.size : Int) := by omega
    clear hA hB hC
    by_cases hAB : Op.bytesLess b.toList a.toList = true
    · have h1 : Op.bytesLess a.toList b.toList = false := Lt.nless (Lt.asymm hAB)
      have h2 : (a.toList == b.toList) = false := beq_ne (Lt.ne hAB).symm
      have h3 : ¬ a.toList = b.toList := by simpa using h2
      clear hAB
      go_enter Tryz.func15, Tryz.ntmps15
      go_wp2_with (first
        | (go_at_call 35; refine HW.out.mono ?_; rintro e w1 ⟨rfl, hx1⟩)
        | (go_at_call 36; refine (HF.out _ hx1).mono ?_; rintro e w2 ⟨cb, sb, S, m, rfl, hU2, hx2, hS2⟩))
      go_ret
      exact ⟨rfl, hx2⟩
    have hAB1 : Op.bytesLess b.toList a.toList = false := by simpa using hAB
    clear hAB
    have hg1 := gt_less a b
    rw [hAB1] at hg1
    by_cases hBC : Op.bytesLess c.toList b.toList = true
    · have h1 : Op.bytesLess b.toList c.toList = false := Lt.nless (Lt.asymm hBC)
      have h2 : (b.toList == c.toList) = false := beq_ne (Lt.ne hBC).symm
      have h3 : ¬ b.toList = c.toList := by simpa using h2
      have h4 : Op.bytesLess a.toList b.toList = true ∨ a.toList = b.toList := le_or hAB1
      have h5 : (Op.bytesLess a.toList b.toList || a.toList == b.toList) = true := by simpa using h4
      clear hBC
      go_enter Tryz.func15, Tryz.ntmps15
      go_wp2_with (first
        | (go_at_call 35; refine HW.out.mono ?_; rintro e w1 ⟨rfl, hx1⟩)
        | (go_at_call 36; refine (HF.out _ hx1).mono ?_; rintro e w2 ⟨cb, sb, S, m, rfl, hU2, hx2, hS2⟩))
      go_ret
      exact ⟨rfl, hx2⟩
    have hBC1 : Op.bytesLess c.toList b.toList = false := by simpa using hBC
    clear hBC
    have h4 : Op.bytesLess a.toList b.toList = true ∨ a.toList = b.toList := le_or hAB1
    have h5 : (Op.bytesLess a.toList b.toList || a.toList == b.toList) = true := by simpa using h4
    have h6 : Op.bytesLess b.toList c.toList = true ∨ b.toList = c.toList := le_or hBC1
    have h7 : (Op.bytesLess b.toList c.toList || b.toList == c.toList) = true := by simpa using h6
    have hg2 := gt_less b c
    rw [hBC1] at hg2
    by_cases hB0 : b.toList = []
    · have hB9 : b.toList.isEmpty = true := by rw [List.isEmpty_iff]; exact hB0
      clear hg1 hg2 hAB1 hBC1 hB0 h4 h6
      go_enter Tryz.func15, Tryz.ntmps15
      go_wp2_with (first
        | (go_at_call 35; refine HW.out.mono ?_; rintro e w1 ⟨rfl, hx1⟩)
        | (go_at_call 36; refine (HF.out _ hx1).mono ?_; rintro e w2 ⟨cb, sb, S, m, rfl, hU2, hx2, hS2⟩))
      go_ret
      exact ⟨rfl, hx2⟩
    have hB1 : b.toList.isEmpty = false := by rw [List.isEmpty_eq_false_iff]; exact hB0
    by_cases hC0 : c.toList = []
    · exfalso
      rcases h6 with h | h
      · rw [hC0, less_nil] at h; cases h
      · exact hB0 (by rw [h, hC0])
    have hC1 : c.toList.isEmpty = false := by rw [List.isEmpty_eq_false_iff]; exact hC0
    have HBW : Hid (∀ W S sb cb m x y, Up 800 W S sb cb m k R → Calls Tryz.prog 47 #[.pointer (some ⟨sb, 0, none⟩), .string x, .string y] W fun e w' => ∃ xo xc, e = .returned (.tuple #[.slice xo (btwE R x y).length xc, .nilIface]) ∧ EntsAt w' xo (btwE R x y) ∧ Ext W w') := fun W S sb cb m x y h => (between_any 800 W S sb cb m k R x y h).mono fun _ _ hh => by
      obtain ⟨po, pc, q1, q2, q3, _⟩ := hh.ex
      exact ⟨po, pc, q1, q2, q3⟩
    have HBA : Hid (∀ W S sb cb m, Up 800 W S sb cb m k R → Calls Tryz.prog 47 #[.pointer (some ⟨sb, 0, none⟩), .string ⟨#[]⟩, .string ⟨#[]⟩] W fun e w' => ∃ xo xc, e = .returned (.tuple #[.slice xo R.length xc, .nilIface]) ∧ EntsAt w' xo R.reverse ∧ Ext W w') := fun W S sb cb m h => (between_any 800 W S sb cb m k R ⟨#[]⟩ ⟨#[]⟩ h).mono fun _ _ hh => by
      obtain ⟨po, pc, q1, q2, q3, _⟩ := hh.ex
      rw [btw_every] at q1 q2
      rw [List.length_reverse] at q1
      exact ⟨po, pc, q1, q2, q3⟩
    have HTW : Hid (Ris R → btwE R b c ++ btwE R a b = btwE R a c) := fun hr => btw_two hr hAB1 hBC1 hB0 hC0
    have HLN : Hid (∀ x y, (btwE R x y).length ≤ R.length) := fun x y => by unfold btwE; rw [List.length_reverse]; exact List.length_filter_le _ _
    clear hAB1 hBC1
    have t1 : True := trivial
    have t2 : True := trivial
    have t3 : True := trivial
    go_enter Tryz.func15, Tryz.ntmps15
    go_upto_region 12 with (first
      | (go_at_call 35; refine HW.out.mono ?_; rintro e w1 ⟨rfl, hx1⟩)
      | (go_at_call 36; refine (HF.out _ hx1).mono ?_; rintro e w2 ⟨cb, sb, S, m, rfl, hU2, hx2, hS2⟩; have HU : Hid (Up 800 w2 S sb cb m k R) := hU2; clear hU2 hS2)
      | (go_at_call 47; have _t := t1; refine (HBW.out _ S sb cb m a b HU.out).mono ?_; rintro e w3 ⟨xo, xc, rfl, hE3, hx3⟩; clear t1)
      | (go_at_call 47; have _t := t2; refine (HBW.out _ S sb cb m b c (HU.out.ext hx3)).mono ?_; rintro e w4 ⟨yo, yc, rfl, hE4, hx4⟩; clear t2)
      | (go_at_call 47; have _t := t3; refine (HBW.out _ S sb cb m a c (HU.out.ext (hx3.trans hx4))).mono ?_; rintro e w5 ⟨zo, zc, rfl, hE5, hx5⟩; clear t3)
      | (go_at_call 47; refine (HBA.out _ S sb cb m (HU.out.ext ((hx3.trans hx4).trans hx5))).mono ?_; rintro e w6 ⟨lo, lc, rfl, hE6, hx6⟩)
      | (go_at_call 38; refine (HR.out _ S sb cb m (hx2.trans (((hx3.trans hx4).trans hx5).trans hx6)) (HU.out.ext (((hx3.trans hx4).trans hx5).trans hx6))).mono ?_; rintro e w7 ⟨ro, rc, rfl, hA7, hx7, hX7⟩))
    clear hA' hB' hC' h4 h5 h6 h7 hg1 hg2 hB0 hB1 hC0 hC1
    have hfew := HU.out.few
    have HTZ := HTW.out HU.out.plain.1
    have hl1 := HLN.out a b
    have hl2 := HLN.out b c
    have HE3 : Hid (EntsAt w7 xo (btwE R a b)) := hE3.ext (((hx4.trans hx5).trans hx6).trans hx7)
    have HE4 : Hid (EntsAt w7 yo (btwE R b c)) := hE4.ext ((hx5.trans hx6).trans hx7)
    have HE5 : Hid (EntsAt w7 zo (btwE R a c)) := hE5.ext (hx6.trans hx7)
    have HE6 : Hid (EntsAt w7 lo R.reverse) := hE6.ext hx7
    have HE7 : Hid (EntsAt w7 ro R) := hA7.at_
    clear hE3 hE4 hE5 hE6 hA7 hx1 hx2 hx3 hx4 hx5 hx6 hx7 HU HR HBW HBA HTW HLN HF HW
    rw [← HTZ] at HE5 ⊢
    clear HTZ
    generalize btwE R a b = X at *
    generalize btwE R b c = Y at *
    have hgetR : ∀ j, j < R.length → R.reverse[j]? = R[R.length - 1 - j]? := fun j hj => by rw [List.getElem?_reverse hj]
    have HGR : Hid (∀ j, j < R.length → R.reverse[j]? = R[R.length - 1 - j]?) := hgetR
    clear hgetR
    have hr64 : (R.length : Int) ≤ 40 := by omega
    go_wp2_with fail
    go_loopw [21] (fun i wr => ∃ j q : Nat, j ≤ R.length ∧ i = .int .i64 j ∧ wr = w7.drewN q) (fun i _ => R.length - (intOf i).toNat)
    case atStart => exact ⟨0, 0, Nat.zero_le _, rfl, rfl⟩
    case round =>
      obtain ⟨j, q, hj, rfl, rfl⟩ := hrel
      by_cases hlt : j < R.length
      · obtain ⟨b, off, key, val, gone, rfl, he, g1, g2, g3⟩ := HE6.out.get (show j < R.reverse.length by rw [List.length_reverse]; exact hlt)
        obtain ⟨b', off', key', val', gone', rfl, he', f1, f2, f3⟩ := HE7.out.get (show R.length - 1 - j < R.length by omega)
        rw [HGR.out j hlt, he'] at he
        cases he
        have hne : ∀ W : World, (binOp .neq 49 (.agg #[.string key, .string val, .bool gone]) (.agg #[.string key, .string val, .bool gone])).run Tryz.prog W = .ok (.bool false) W := fun W => by rw [ent_neq]; simp
        have hix : (R.length : Int) - 1 - (j : Int) = ((R.length - 1 - j : Nat) : Int) := by omega
        have hix2 : ((R.length - 1 - j : Nat) : Int) < (R.length : Int) := by omega
        have hjl : (j : Int) < (R.length : Int) := by omega
        clear he' HE3 HE4 HE5 HE6 HE7 HGR
        go_wp2
        go_quiet (fail)
        go_wp2
        go_roundw
        case rel => exact ⟨j + 1, _, by omega, by go_num, rfl⟩
        case measure => simp [intOf]; omega
      · have hjR : j = R.length := by omega
        subst hjR
        have HSM : Hid (∀ W xo cx, EntsAt W xo (Y ++ X) → EntsAt W zo (Y ++ X) → Calls Tryz.prog 34 #[.slice xo (Y.length + X.length) cx, .slice zo (Y.length + X.length) zc] W fun e w' => e = .returned (.bool true) ∧ Ext W w') := fun W xo cx h1 h2 => by
          rw [← List.length_append]
          exact (sameEntries_eq xo zo cx zc (Y ++ X) W (by rw [List.length_append]; omega) h1 h2).mono fun _ _ h => ⟨h.1, by obtain ⟨q, rfl⟩ := h.2; exact (Ext.refl W).drewN q⟩
        have hlYX : Y.length + X.length ≤ 100000 := by omega
        have hlY : ([] : List Ent).length + Y.length ≤ 100000 := by simp; omega
        have hxd : Ext w7 (w7.drewN q) := (Ext.refl w7).drewN q
        have hE3 := HE3.out.ext hxd
        have hE4 := HE4.out.ext hxd
        have hE5 := HE5.out.ext hxd
        have HXW : Hid (Ext w (w7.drewN q)) := hX7.trans hxd
        clear HE3 HE4 HE5 HE6 HE7 HGR hj hlt hl1 hl2 hfew hr64 hxd hX7
        generalize w7.drewN q = w8 at *
        have t1 : True := trivial
        go_wp2_with (first
          | (at_builtin; have _t := t1; refine wpList_unguard (by rfl) ?_; refine wpList_app_ents rfl _ _ rfl w8 _ [] (by rfl) (Lst.nil (Ext.refl w8)) yo yc Y (by rfl) hE4 hlY ?_; intro v9 w9 hL9; rw [List.nil_append] at hL9; have hE3' := hE3.ext hL9.ext; clear t1)
          | (at_builtin; refine wpList_unguard (by rfl) ?_; refine wpList_app_ents rfl _ _ rfl w8 _ Y (by rfl) hL9 xo xc X (by rfl) hE3' hlYX ?_; intro v10 w10 hL10; obtain ⟨ao10, c10, hv10, hA10⟩ := hL10.at; subst hv10; have hE5' := hE5.ext hL10.ext; have hx10 := hL10.ext)
          | (go_at_call 34; refine (HSM.out _ ao10 c10 hA10 hE5').mono ?_; rintro e w11 ⟨rfl, hx11⟩))
        go_ret
        exact ⟨rfl, (HXW.out.trans hx10).trans hx11⟩
end Go.Proofs.YthndopokabceiaaGreatDoor
