/- TopS. -/
import Derived.Test.YthndopokabceiaaGreatDoorScnBJ

/- TopPages. -/
namespace Go.Proofs.YthndopokabceiaaGreatDoor
open Go.RowKit Go.WideShapes

theorem i64_and7 (n : Int) : bits .and .i64 n 7 = n % 8 := by
  have h7 : (BitVec.ofInt 64 7).toNat = 2 ^ 3 - 1 := by decide
  have key : (BitVec.ofInt 64 n &&& BitVec.ofInt 64 7).toNat = (n % ((2 ^ 64 : Nat) : Int)).toNat % 2 ^ 3 := by
    rw [BitVec.toNat_and, BitVec.toNat_ofInt, h7, Nat.and_two_pow_sub_one_eq_mod]
  show IntKind.i64.wrap ((BitVec.ofInt 64 n &&& BitVec.ofInt 64 7).toNat : Nat) = n % 8
  rw [key, IntKind.wrap_i64]
  omega
/-- The key behind which the next page begins. -/
def aftK (R : List Ent) (t : Nat) : ByteArray := match t with | 0 => ⟨#[]⟩ | t + 1 => match R[t]? with | some e => e.key | none => ⟨#[]⟩
theorem aft_from {R : List Ent} (hr : Ris R) (hf : ∀ e ∈ R, faultE e = 0) {t : Nat} (ht : t ≤ R.length) : From (gtK R (aftK R t)) R.length t := by
  have hp := hr
  unfold Ris at hp
  rw [List.pairwise_iff_getElem] at hp
  cases t with
  | zero =>
    refine ⟨ht, fun i hi => by omega, fun i _ hi => ?_⟩
    unfold gtK aftK
    rw [List.getElem?_eq_getElem hi]
    have h0 := hf _ (List.getElem_mem hi)
    have hne : R[i].key.toList ≠ [] := fun e => by
      unfold faultE faultB at h0
      rw [if_pos (.inl e)] at h0
      exact absurd h0 (by decide)
    have he : (⟨#[]⟩ : ByteArray).toList = [] := by kernel_rfl
    show Op.bytesLess (⟨#[]⟩ : ByteArray).toList R[i].key.toList = true
    rw [he]
    cases hk : R[i].key.toList with
    | nil => exact absurd hk hne
    | cons a l => rfl
  | succ t =>
    have hk : aftK R (t + 1) = (R[t]'(by omega)).key := by
      unfold aftK
      simp only
      rw [List.getElem?_eq_getElem (by omega)]
    rw [hk]
    refine ⟨ht, fun i hi => ?_, fun i h1 h2 => ?_⟩
    · unfold gtK
      rw [List.getElem?_eq_getElem (by omega)]
      refine Lt.nless ?_
      rcases Nat.lt_or_eq_of_le (show i ≤ t by omega) with h' | rfl
      · exact (hp i t (by omega) (by omega) h').asymm
      · exact Lt.irrefl _
    · unfold gtK
      rw [List.getElem?_eq_getElem h2]
      exact hp t i (by omega) h2 (by omega)
theorem page_next {R : List Ent} (hr : Ris R) (hf : ∀ e ∈ R, faultE e = 0) {t : Nat} (ht : t ≤ R.length) (n : Int) : pgE R (aftK R t) n = (R.drop t).take n.toNat := by
  unfold pgE
  rw [from_filter (aft_from hr hf ht) (fun i e he => by unfold gtK; rw [he])]
theorem page_step {R : List Ent} {t q : Nat} (ht : t < R.length) : ∃ L e, ((R.drop t).take (1 + q)).length = L + 1 ∧ ((R.drop t).take (1 + q))[L]? = some e ∧ e.key = aftK R (t + (L + 1)) ∧ R.take t ++ (R.drop t).take (1 + q) = R.take (t + (L + 1)) ∧ L ≤ q ∧ t + (L + 1) ≤ R.length := by
  have hl : ((R.drop t).take (1 + q)).length = min (1 + q) (R.length - t) := by simp
  refine ⟨min (1 + q) (R.length - t) - 1, R[t + (min (1 + q) (R.length - t) - 1)]'(by omega), by rw [hl]; omega, ?_, ?_, ?_, by omega, by omega⟩
  · rw [List.getElem?_take, if_pos (by omega), List.getElem?_drop, List.getElem?_eq_getElem (by omega)]
  · rw [show t + (min (1 + q) (R.length - t) - 1 + 1) = t + (min (1 + q) (R.length - t) - 1) + 1 by omega]
    unfold aftK
    simp only
    rw [List.getElem?_eq_getElem (by omega)]
  · rw [← List.take_add]
    rw [show min (1 + q) (R.length - t) - 1 + 1 = min (1 + q) (R.length - t) by omega]
    rcases Nat.le_total (1 + q) (R.length - t) with h | h
    · rw [Nat.min_eq_left h]
    · rw [Nat.min_eq_right h, List.take_of_length_le (by omega), List.take_of_length_le (by omega)]
/-- An append of entries, and what it leaves as it was. -/
theorem wpList_app_entsG {w : World} {ops : Array Oper} {rest : List Oper} {o : Oper} {a : Act} {Q : Exit → Act → World → Prop} (hgd : o.guard = none) (s x : Operand)
    (ho : o.op = .call { callee := .builtin .append, args := #[s, x], argTypes := #[37, 37] })
    (W0 : World) (v : Value) (es : List Ent) (hs : a.eval s = v) (hl : Lst W0 w v es) (ao : Option Addr) (c : Nat) (fs : List Ent) (hx : a.eval x = .slice ao fs.length c)
    (hfs : EntsAt w ao fs) (hn : es.length + fs.length ≤ 100000)
    (h : ∀ v' w', Lst W0 w' v' (es ++ fs) → w.grownBy w' v.ownBlock → wpList Tryz.prog ops Q rest (a.put o.dst v') w') : wpList Tryz.prog ops Q (o :: rest) a w := by
  obtain ⟨i0, hi, hz0, hz1, hz2⟩ := info_parts Tryz.info49
  refine wpList_append_any hgd s x 37 ho W0.heap.size 49 i0 (.agg #[.string ⟨#[]⟩, .string ⟨#[]⟩, .bool false]) 3 40 Tryz.underlying37 hi hz0 hz1 hz2 rfl (by decide) v es.length (rowOf es) hs hl.own ao fs.length c (rowOf fs) hx (rowOf_length fs) hfs.row (rowOf_one fs) ?_ ?_ hl.ext.size ?_
  · unfold maxLen; omega
  · omega
  · intro v' w' p q
    refine h v' w' ⟨?_, hl.ext.grown q (own_ge hl.own)⟩ q
    rw [rowOf_app, List.length_append]; exact p
set_option maxRecDepth 20000 in
set_option maxHeartbeats 4000000 in
theorem topPages_any (ao : Option Addr) (cap : Nat) (acs : List ActE) (many : Int) (w : World) (hg : GlobT w) (hl : acs.length ≤ 9223372036854775807) (has : ActsAt w ao acs) :
    Calls Tryz.prog 14 #[.slice ao acs.length cap, .int .i64 many] w fun e w' => e = .returned (.bool true) ∧ Ext w w' := by
  have HW := worksH w hg
  cases hf : fillB acs with
  | false =>
    have HF := filledN ao cap acs w hl has hf
    clear has hf hg
    go_enter Tryz.func14, Tryz.ntmps14
    go_wp2_with (first
      | (go_at_call 35; refine HW.out.mono ?_; rintro e w1 ⟨rfl, hx1⟩)
      | (go_at_call 36; refine (HF.out _ hx1).mono ?_; rintro e w2 ⟨rfl, rfl⟩))
    go_ret
    exact ⟨rfl, hx1⟩
  | true =>
    have HF := filledY ao cap acs w hg hl has hf
    generalize weakN acs = k at *
    generalize fillR acs = R at *
    have HR := rowsH w 800 k R
    obtain ⟨q, hq⟩ : ∃ q : Nat, many % 8 = (q : Int) := ⟨(many % 8).toNat, by omega⟩
    have hq7 : q ≤ 7 := by omega
    have h7 : bits .and .i64 many 7 = (q : Int) := by rw [i64_and7, hq]
    have HSE : Hid (R.length ≤ 40 → ∀ W a1 a2 c1 c2, EntsAt W a1 R → EntsAt W a2 R → Ext w W → Calls Tryz.prog 34 #[.slice a1 R.length c1, .slice a2 R.length c2] W fun e w' => e = .returned (.bool true) ∧ Ext W w' ∧ Ext w w') := fun h => (sameEH w R (by omega)).out
    clear has hf hg hq
    go_enter Tryz.func14, Tryz.ntmps14
    go_wp2_with (first
      | (go_at_call 35; refine HW.out.mono ?_; rintro e w1 ⟨rfl, hx1⟩)
      | (go_at_call 36; refine (HF.out _ hx1).mono ?_; rintro e w2 ⟨cb, sb, S, m, rfl, hU2, hx2, hS2⟩))
    have hfew := hU2.few
    have HP : Hid (Ris R ∧ ∀ e ∈ R, faultE e = 0) := ⟨hU2.plain.1, hU2.plain.2.2⟩
    have HU2 : Hid (Up 800 w2 S sb cb m k R ∧ Ext w w2) := ⟨hU2, hx2⟩
    have HPG : Hid (∀ W (t : Nat), Ext w2 W → t ≤ R.length → Calls Tryz.prog 46 #[.pointer (some ⟨sb, 0, none⟩), .string (aftK R t), .int .i64 (1 + (q : Int))] W fun e w' => ∃ po pc, e = .returned (.tuple #[.slice po ((R.drop t).take (1 + q)).length pc, .nilIface]) ∧ EntsAt w' po ((R.drop t).take (1 + q)) ∧ Ext W w' ∧ ∀ p, po = some p → W.heap.size ≤ p.block) := fun W t hx ht => (page_any 800 W S sb cb m k R (aftK R t) (1 + (q : Int)) (HU2.out.1.ext hx)).mono fun _ _ hh => by
      obtain ⟨po, pc, h1, h2, h3, h4⟩ := hh.ex
      rw [page_next HP.out.1 HP.out.2 ht, show (1 + (q : Int)).toNat = 1 + q by omega] at h1 h2
      exact ⟨po, pc, h1, h2, h3, h4⟩
    clear hU2 hS2 HF HW hx1 hx2
    have hn : wrap64 (1 + (q : Int)) = 1 + (q : Int) := by unfold wrap64; omega
    go_loopw [9, 10, 11] (fun af al i wr => ∃ j t : Nat, j ≤ t ∧ t ≤ R.length ∧ i = .int .i64 j ∧ af = .string (aftK R t) ∧ Lst w2 wr al (R.take t)) (fun _ _ i _ => 50 - (intOf i).toNat)
    case atStart => exact ⟨0, 0, Nat.le_refl _, Nat.zero_le _, rfl, rfl, by simpa using Lst.nil (Ext.refl w2)⟩
    case round =>
      obtain ⟨j, t, hjt, ht, rfl, rfl, hL⟩ := hrel
      have hj50 : (j : Int) < 50 := by omega
      have HC : Hid (Calls Tryz.prog 46 #[.pointer (some ⟨sb, 0, none⟩), .string (aftK R t), .int .i64 (1 + (q : Int))] wr fun e w' => ∃ po pc, e = .returned (.tuple #[.slice po ((R.drop t).take (1 + q)).length pc, .nilIface]) ∧ EntsAt w' po ((R.drop t).take (1 + q)) ∧ Ext wr w' ∧ ∀ p, po = some p → wr.heap.size ≤ p.block) := HPG.out wr t hL.ext ht
      by_cases htl : t < R.length
      · obtain ⟨L, e, h1, h2, h3, h4, h5, h6⟩ := page_step (q := q) htl
        have HP4 : Hid (R.take t ++ (R.drop t).take (1 + q) = R.take (t + (L + 1)) ∧ e.key = aftK R (t + (L + 1)) ∧ (R.take t).length ≤ 40) := ⟨h4, h3, by simp; omega⟩
        have HPE : Hid (∀ W po, EntsAt W po ((R.drop t).take (1 + q)) → ∃ b off, po = some ⟨b, off, none⟩ ∧ W.cell? ⟨b, off + L * 3, none⟩ = some (.string e.key)) := fun W po hE => by
          obtain ⟨b, off, ek, ev, eg, e1, he, g1, _⟩ := hE.get (show L < _ by omega)
          rw [h2] at he
          cases he
          exact ⟨b, off, e1, g1⟩
        have HP1 : Hid (((R.drop t).take (1 + q)).length = L + 1) := h1
        clear h1 h2 h3 h4
        generalize (R.drop t).take (1 + q) = P at *
        rw [HP1.out] at HC
        have hng : ¬ ((1 : Int) + (q : Int) < ((L + 1 : Nat) : Int)) := by omega
        have hng' : ¬ ((1 : Int) + (q : Int) < (L : Int) + 1) := by omega
        have hLi : ((L + 1 : Nat) : Int) - 1 = (L : Int) := by omega
        have hLi' : (L : Int) + 1 - 1 = (L : Int) := by omega
        clear HPG HSE HR
        go_upto_region 17 with (go_at_call 46; refine HC.out.mono ?_; rintro e' w3 ⟨po, pc, rfl, hE3, hx3, hN3⟩)
        obtain ⟨pb, pf, rfl, g1⟩ := HPE.out _ _ hE3
        have hL3 := hL.more hx3
        have hnb : ∀ k, u10.ownBlock = some k → ¬ pb = k := fun k hk => by
          have h1 := (hL.own.lt k hk).2
          have h2 := hN3 _ rfl
          dsimp only at h2
          omega
        have HG1 : Hid (w3.cell? ⟨pb, pf + L * 3, none⟩ = some (.string e.key)) := g1
        have hpl : pb < w3.heap.size := by
          rcases Nat.lt_or_ge pb w3.heap.size with h' | h'
          · exact h'
          · simp [World.cell?, Array.getElem?_eq_none h'] at g1
        clear g1
        go_wp2_with (at_builtin; refine wpList_app_entsG rfl _ _ rfl w2 _ (R.take t) rfl hL3 (some ⟨pb, pf, none⟩) pc P (by rw [HP1.out]; rfl) ?c1 ?c2 ?_)
        case c1 => exact hE3
        case c2 => have := HP4.out.2.2; have := HP1.out; omega
        intro v4 w4 hL4 hgr
        have g4 : w4.cell? ⟨pb, pf + L * 3, none⟩ = some (.string e.key) := by
          rw [← HG1.out]
          exact World.grownBy.cell_far hgr _ hpl (fun h => hnb pb h.symm rfl)
        clear hL3 hE3 hgr hnb hN3 hL
        rw [HP4.out.1] at hL4
        go_wp2_with fail
        go_roundw
        case rel => exact ⟨j + 1, t + (L + 1), by omega, h6, by go_num, by rw [← HP4.out.2.1], hL4⟩
        case measure => simp [intOf]; omega
      · have htR : t = R.length := by omega
        subst htR
        rw [List.drop_length] at HC
        simp only [List.take_nil, List.length_nil] at HC
        have hLR : Lst w2 wr u10 R := by rw [List.take_length] at hL; exact hL
        obtain ⟨al, ac, rfl, hA⟩ := hLR.at
        have hLx := hLR.ext
        clear HPG hL hLR
        go_wp2_with (first
          | (go_at_call 46; refine HC.out.mono ?_; rintro e' w3 ⟨po, pc, rfl, hE3, hx3, hN3⟩; have hU3 := HU2.out.1.ext (hLx.trans hx3); have hX3 := HU2.out.2.trans (hLx.trans hx3); have hA3 := hA.ext2 hx3)
          | (go_at_call 38; refine (HR.out _ _ _ _ _ hX3 hU3).mono ?_; rintro e' w4 ⟨ro4, rc4, rfl, hR4, hx4, hX4⟩; have hA4 := hA3.ext2 hx4)
          | (go_at_call 34; refine (HSE.out hfew _ _ _ _ _ hA4 hR4.at_ hX4).mono ?_; rintro e' w5 ⟨rfl, hx5, hX5⟩))
        go_ret
        exact ⟨rfl, hX5⟩
end Go.Proofs.YthndopokabceiaaGreatDoor
