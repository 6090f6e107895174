/- ScnR. -/
import Derived.Test.YthndopokabceiaaGreatDoorBtwBJ

/- The document's Paged and Between. -/
namespace Go.Proofs.YthndopokabceiaaGreatDoor
open Go.RowKit Go.WideShapes

def gtQ (after : ByteArray) (e : Ent) : Bool := Op.bytesLess after.toList e.key.toList
theorem pgE_gtQ (R : List Ent) (after : ByteArray) (many : Int) : pgE R after many = (R.filter (gtQ after)).take many.toNat := rfl
theorem filter_snoc {q : Ent → Bool} {es : List Ent} {k : Nat} {e : Ent} (he : es[k]? = some e) : (es.take (k + 1)).filter q = if q e then (es.take k).filter q ++ [e] else (es.take k).filter q := by
  rw [List.take_add_one, he, List.filter_append]
  cases h : q e <;> simp [h]
theorem filter_len (q : Ent → Bool) (es : List Ent) (k : Nat) : ((es.take k).filter q).length ≤ k := Nat.le_trans (List.length_filter_le _ _) (by simp; omega)
theorem page_end {R : List Ent} {after : ByteArray} {many : Int} {k : Nat} (h : R.length ≤ k ∧ ((((R.take k).filter (gtQ after)).length : Int) ≤ max many 0) ∨ (many ≤ (((R.take k).filter (gtQ after)).length : Int) ∧ (((R.take k).filter (gtQ after)).length : Int) ≤ max many 0)) : pgE R after many = (R.take k).filter (gtQ after) := by
  rw [pgE_gtQ]
  rcases h with ⟨h1, h2⟩ | ⟨h1, h2⟩
  · rw [List.take_of_length_le h1] at h2 ⊢
    exact List.take_of_length_le (by omega)
  · have e : R.filter (gtQ after) = (R.take k).filter (gtQ after) ++ (R.drop k).filter (gtQ after) := by
      rw [← List.filter_append, List.take_append_drop]
    rw [e, List.take_append_of_le_length (by omega), List.take_of_length_le (by omega)]
set_option maxRecDepth 20000 in
set_option maxHeartbeats 2000000 in
theorem rpaged_any (ao : Option Addr) (cap : Nat) (es : List Ent) (after : ByteArray) (many : Int) (w : World) (hl : es.length ≤ 1000) (hes : EntsAt w ao es) :
    Calls Tryz.prog 48 #[.slice ao es.length cap, .string after, .int .i64 many] w fun e w' => ∃ v, e = .returned v ∧ Lst w w' v (pgE es after many) := by
  have HE : Hid (∀ k, (es.length ≤ k ∧ ((((es.take k).filter (gtQ after)).length : Int) ≤ max many 0) ∨ (many ≤ (((es.take k).filter (gtQ after)).length : Int) ∧ (((es.take k).filter (gtQ after)).length : Int) ≤ max many 0)) → pgE es after many = (es.take k).filter (gtQ after)) := fun k h => page_end h
  generalize pgE es after many = res at *
  go_enter Tryz.func48, Tryz.ntmps48
  go_wp2
  go_loopw [7, 8] (fun v i wr => ∃ (k : Nat), k ≤ es.length ∧ i = .int .i64 k ∧ Lst w wr v ((es.take k).filter (gtQ after)) ∧ (((es.take k).filter (gtQ after)).length : Int) ≤ max many 0) (fun _ i _ => es.length - (intOf i).toNat)
  case atStart => exact ⟨0, Nat.zero_le _, rfl, Lst.nil (Ext.refl _), by simp; omega⟩
  case round =>
    obtain ⟨k, hk, rfl, hL, hm⟩ := hrel
    by_cases hlt : k < es.length
    · obtain ⟨b, off, ek, ev, eg, rfl, he, h1, h2, h3⟩ := hes.get hlt
      have HS : Hid ((es.take (k + 1)).filter (gtQ after) = if gtQ after ⟨ek, ev, eg⟩ then (es.take k).filter (gtQ after) ++ [⟨ek, ev, eg⟩] else (es.take k).filter (gtQ after)) := filter_snoc he
      have hll := filter_len (gtQ after) es k
      have g1 := hL.ext.cell h1
      have g2 := hL.ext.cell h2
      have g3 := hL.ext.cell h3
      have hg := gt_less ek after
      have HEK := HE.out k
      clear h1 h2 h3 he hes HE
      obtain ⟨v0, c0, hv0, _⟩ := hL.at
      subst hv0
      by_cases hmm : (((es.take k).filter (gtQ after)).length : Int) < many
      · generalize (es.take k).filter (gtQ after) = done at *
        have hkl : (k : Int) < (es.length : Int) := by omega
        cases hq : Op.bytesLess after.toList ek.toList with
        | false =>
          have HS' : Hid ((es.take (k + 1)).filter (gtQ after) = done) := by rw [Hid, HS.out, if_neg (by unfold gtQ; dsimp only; rw [hq]; simp)]
          rw [hq] at hg
          clear HS hq HEK
          go_wp2
          go_roundw
          case rel => exact ⟨k + 1, by omega, by go_num, by rw [HS'.out]; exact ⟨hL, hm⟩⟩
          case measure => simp [intOf]; omega
        | true =>
          have HS' : Hid ((es.take (k + 1)).filter (gtQ after) = done ++ [⟨ek, ev, eg⟩]) := by rw [Hid, HS.out, if_pos (by unfold gtQ; dsimp only; exact hq)]
          rw [hq] at hg
          clear HS hq HEK
          go_wp2_with (at_builtin; refine wpList_app_ent rfl _ _ rfl w _ done rfl ?c1 _ ek ev eg rfl ?c2 ?c3 ?_)
          case c1 => exact hL.alloc _
          case c2 => exact Blk.new' _ _ _ (by simp)
          case c3 => omega
          intro v2 w2 hL2
          clear hL g1 g2 g3
          go_wp2
          go_roundw
          case rel => exact ⟨k + 1, by omega, by go_num, by rw [HS'.out]; exact ⟨hL2, by rw [List.length_append]; simp; omega⟩⟩
          case measure => simp [intOf]; omega
      · have HR : Hid (Lst w wr (.slice v0 ((es.take k).filter (gtQ after)).length c0) res) := by
          rw [HEK (.inr ⟨by omega, hm⟩)]; exact hL
        clear HS HEK hL g1 g2 g3 hg
        generalize (es.take k).filter (gtQ after) = done at *
        go_wp2
        go_ret
        exact ⟨_, rfl, HR.out⟩
    · obtain ⟨v0, c0, hv0, _⟩ := hL.at
      subst hv0
      have HR : Hid (Lst w wr (.slice v0 ((es.take k).filter (gtQ after)).length c0) res) := by
        rw [HE.out k (.inl ⟨by omega, hm⟩)]; exact hL
      clear HE hL hes
      generalize (es.take k).filter (gtQ after) = done at *
      go_wp2
      go_ret
      exact ⟨_, rfl, HR.out⟩
theorem drop_snoc {q : Ent → Bool} {es : List Ent} {k : Nat} {e : Ent} (he : es[k]? = some e) : ((es.drop k).filter q).reverse = if q e then ((es.drop (k + 1)).filter q).reverse ++ [e] else ((es.drop (k + 1)).filter q).reverse := by
  have h := (List.getElem?_eq_some_iff.1 he)
  obtain ⟨hk, rfl⟩ := h
  rw [List.drop_eq_getElem_cons hk, List.filter_cons]
  cases h : q es[k] with
  | true => rw [if_pos rfl, if_pos rfl, List.reverse_cons]
  | false => rw [if_neg (by simp), if_neg (by simp)]
set_option maxRecDepth 20000 in
set_option maxHeartbeats 2000000 in
theorem rbetween_any (ao : Option Addr) (cap : Nat) (es : List Ent) (fk tk : ByteArray) (w : World) (hl : es.length ≤ 1000) (hes : EntsAt w ao es) :
    Calls Tryz.prog 49 #[.slice ao es.length cap, .string fk, .string tk] w fun e w' => ∃ v, e = .returned v ∧ Lst w w' v (btwE es fk tk) := by
  have HE : Hid (((es.drop 0).filter (btwQ fk tk)).reverse = btwE es fk tk) := by rw [Hid, List.drop_zero]; rfl
  generalize btwE es fk tk = res at *
  go_enter Tryz.func49, Tryz.ntmps49
  go_wp2
  go_loopw [7, 8] (fun v i wr => ∃ (k : Nat), k ≤ es.length ∧ i = .int .i64 ((k : Int) - 1) ∧ Lst w wr v (((es.drop k).filter (btwQ fk tk)).reverse)) (fun _ i _ => ((intOf i) + 1).toNat)
  case atStart => exact ⟨es.length, Nat.le_refl _, rfl, by rw [List.drop_length]; exact Lst.nil (Ext.refl _)⟩
  case round =>
    obtain ⟨k, hk, rfl, hL⟩ := hrel
    cases k with
    | zero =>
      obtain ⟨v0, c0, hv0, _⟩ := hL.at
      subst hv0
      have HR : Hid (Lst w wr (.slice v0 (((es.drop 0).filter (btwQ fk tk)).reverse).length c0) res) := by
        rw [← HE.out]; exact hL
      clear HE hL hes
      generalize ((es.drop 0).filter (btwQ fk tk)).reverse = done at *
      go_wp2
      go_ret
      exact ⟨_, rfl, HR.out⟩
    | succ k =>
      obtain ⟨b, off, ek, ev, eg, rfl, he, h1, h2, h3⟩ := hes.get (show k < es.length by omega)
      have HS : Hid (((es.drop k).filter (btwQ fk tk)).reverse = if btwQ fk tk ⟨ek, ev, eg⟩ then ((es.drop (k + 1)).filter (btwQ fk tk)).reverse ++ [⟨ek, ev, eg⟩] else ((es.drop (k + 1)).filter (btwQ fk tk)).reverse) := drop_snoc he
      have hll : (((es.drop (k + 1)).filter (btwQ fk tk)).reverse).length ≤ 1000 := by
        rw [List.length_reverse]; exact Nat.le_trans (List.length_filter_le _ _) (by simp; omega)
      have g1 := hL.ext.cell h1
      have g2 := hL.ext.cell h2
      have g3 := hL.ext.cell h3
      clear h1 h2 h3 he hes HE
      obtain ⟨v0, c0, hv0, _⟩ := hL.at
      subst hv0
      generalize ((es.drop (k + 1)).filter (btwQ fk tk)).reverse = done at *
      have hkl : (k : Int) < (es.length : Int) := by omega
      have hki : ((k + 1 : Nat) : Int) - 1 = (k : Int) := by omega
      rw [hki]
      clear hki
      cases hq1 : Op.bytesLess ek.toList fk.toList with
      | true =>
        have HS' : Hid (((es.drop k).filter (btwQ fk tk)).reverse = done) := by rw [Hid, HS.out, if_neg (by unfold btwQ; dsimp only; rw [hq1]; simp)]
        clear HS
        go_wp2
        go_roundw
        case rel => exact ⟨k, by omega, rfl, by rw [HS'.out]; exact hL⟩
        case measure => simp [intOf]
      | false =>
        cases ht : tk.toList.isEmpty with
        | true =>
          have HS' : Hid (((es.drop k).filter (btwQ fk tk)).reverse = done ++ [⟨ek, ev, eg⟩]) := by
            rw [Hid, HS.out, if_pos]
            unfold btwQ; dsimp only; rw [hq1, List.isEmpty_iff.1 ht]; rfl
          clear HS
          go_wp2_with (at_builtin; refine wpList_app_ent rfl _ _ rfl w _ done rfl ?c1 _ ek ev eg rfl ?c2 ?c3 ?_)
          case c1 => exact hL.alloc _
          case c2 => exact Blk.new' _ _ _ (by simp)
          case c3 => omega
          intro v2 w2 hL2
          clear hL g1 g2 g3
          go_wp2
          go_roundw
          case rel => exact ⟨k, by omega, rfl, by rw [HS'.out]; exact hL2⟩
          case measure => simp [intOf]
        | false =>
          have htk : (tk.toList == []) = false := by rw [beq_eq_false_iff_ne]; intro h; rw [h] at ht; cases ht
          cases hq2 : Op.bytesLess ek.toList tk.toList with
          | true =>
            have HS' : Hid (((es.drop k).filter (btwQ fk tk)).reverse = done ++ [⟨ek, ev, eg⟩]) := by
              rw [Hid, HS.out, if_pos]
              unfold btwQ; dsimp only; rw [hq1, hq2]; simp
            clear HS htk
            go_wp2_with (at_builtin; refine wpList_app_ent rfl _ _ rfl w _ done rfl ?c1 _ ek ev eg rfl ?c2 ?c3 ?_)
            case c1 => exact hL.alloc _
            case c2 => exact Blk.new' _ _ _ (by simp)
            case c3 => omega
            intro v2 w2 hL2
            clear hL g1 g2 g3
            go_wp2
            go_roundw
            case rel => exact ⟨k, by omega, rfl, by rw [HS'.out]; exact hL2⟩
            case measure => simp [intOf]
          | false =>
            have HS' : Hid (((es.drop k).filter (btwQ fk tk)).reverse = done) := by
              rw [Hid, HS.out, if_neg]
              unfold btwQ; dsimp only; rw [hq1, hq2, htk]; simp
            clear HS htk
            go_wp2
            go_roundw
            case rel => exact ⟨k, by omega, rfl, by rw [HS'.out]; exact hL⟩
            case measure => simp [intOf]
end Go.Proofs.YthndopokabceiaaGreatDoor
