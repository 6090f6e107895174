/- BatF BatG BatH ConA ConB. -/
import Derived.Test.YtkibgflbidkalaaGreatDoorBatEJ
import Derived.BigRegion
import Derived.Deep.Cut
import Derived.Test.YtkibgflbidkalaaGreatDoorRstAJ
import Derived.BigQuiet

/- Changes as a text: the document's texts, and changes of them. -/
namespace Go.Proofs.YtkibgflbidkalaaGreatDoor
open Go.RowKit Go.WideShapes

theorem join_snoc (ws : List (List UInt8)) (x : List UInt8) (h : ws ≠ []) : Lib.join (ws ++ [x]) [32] = Lib.join ws [32] ++ 32 :: x := by
  cases ws with
  | nil => exact absurd rfl h
  | cons y r =>
    rw [List.cons_append, Lib.join_cons, Lib.join_cons]
    simp [Lib.joinTail, List.append_assoc]
theorem joinE_data (es : List Ent) : (joinE es).data.toList = Lib.join ((wordsE es).map (·.data.toList)) [32] := by
  unfold joinE; simp
theorem joinE_first (es : List Ent) (e : Ent) (h : es[0]? = some e) : joinE (es.take (0 + 1)) = joinE (es.take 0) ++ wordE e.key e.val e.gone := by
  apply ba_eq
  rw [joinE_data, wordsE_take es 0 e h]
  have e0 : joinE (es.take 0) = ⟨#[]⟩ := rfl
  rw [e0]
  simp [wordsE, Lib.join_one]
theorem joinE_next (es : List Ent) (k : Nat) (e : Ent) (hk : 0 < k) (h : es[k]? = some e) : joinE (es.take (k + 1)) = joinE (es.take k) ++ ⟨#[32]⟩ ++ wordE e.key e.val e.gone := by
  have hl := (List.getElem?_eq_some_iff.1 h).1
  have hwl : ((wordsE (es.take k)).map (·.data.toList)).length = k := by simp [wordsE]; omega
  apply ba_eq
  rw [joinE_data, wordsE_take es k e h, List.map_append, List.map_cons, List.map_nil, join_snoc _ _ (fun hh => by rw [hh] at hwl; simp at hwl; omega)]
  simp [joinE_data]
theorem wordE_gone (k v : ByteArray) (T : ByteArray) : T ++ wordE k v true = T ++ k := rfl
theorem wordE_here (k v : ByteArray) (T : ByteArray) : T ++ wordE k v false = T ++ k ++ ⟨#[61]⟩ ++ v := by
  apply ba_eq
  simp [wordE]
theorem ba_size_app (a b : ByteArray) : (a ++ b).size = a.size + b.size := by simp
set_option maxRecDepth 20000 in
set_option maxHeartbeats 8000000 in
theorem rtext_any (ao : Option Addr) (cap : Nat) (es : List Ent) (w : World) (hl : es.length ≤ 9223372036854775807) (hes : EntsAt w ao es) (hsm : Small es) :
    Calls Tryz.prog 36 #[.slice ao es.length cap] w fun e w' => e = .returned (.tuple #[.string (textT es).1, .int .i64 (textT es).2]) ∧ Ext w w' := by
  by_cases hn : es.length = 0 ∨ 4 < es.length
  · have HF : Hid (textT es = (⟨#[]⟩, 2)) := by unfold textT Hid; rw [if_pos hn]
    rw [HF.out]
    clear hes
    rcases hn with h0 | h0
    · have h0' : (es.length : Int) < 1 := by omega
      go_enter Tryz.func36, Tryz.ntmps36
      go_wp2
      go_ret2
      exact ⟨rfl, Ext.refl _⟩
    · have h0' : ¬ (es.length : Int) < 1 := by omega
      have h1' : (4 : Int) < (es.length : Int) := by omega
      go_enter Tryz.func36, Tryz.ntmps36
      go_wp2
      go_ret2
      exact ⟨rfl, Ext.refl _⟩
  · have h0' : ¬ (es.length : Int) < 1 := by omega
    have h1' : ¬ (4 : Int) < (es.length : Int) := by omega
    have hll : es.length ≤ 4 := by omega
    have HF : Hid (textT es = if ¬ textS es = 0 then (⟨#[]⟩, textS es) else (joinE es, 0)) := by unfold textT Hid; rw [if_neg hn]
    clear hn
    go_enter Tryz.func36, Tryz.ntmps36
    go_wp2_with fail
    go_loopw [4, 5] (fun t i wr => ∃ (k : Nat) (T : ByteArray), k ≤ es.length ∧ i = .int .i64 k ∧ t = .string T ∧ T = joinE (es.take k) ∧ T.size ≤ 100 * k ∧ textS es = textS (es.drop k) ∧ Ext w wr) (fun _ i _ => es.length - (intOf i).toNat)
    case atStart => exact ⟨0, ⟨#[]⟩, Nat.zero_le _, rfl, rfl, rfl, Nat.zero_le _, rfl, Ext.refl _⟩
    case round =>
      obtain ⟨k, T, hk, rfl, rfl, hT, hTs, hsc, hx⟩ := hrel
      by_cases hlt : k < es.length
      · obtain ⟨b, off, ek, ev, eg, rfl, he, h1, h2, h3⟩ := hes.get hlt
        have hst := textS_step es k ⟨ek, ev, eg⟩ he
        dsimp only at hst
        rw [hst] at hsc
        have g1 := hx.cell h1
        have g2 := hx.cell h2
        have g3 := hx.cell h3
        have hs2 := hsm _ (List.mem_of_getElem? he)
        dsimp only at hs2
        have hbl : b < wr.heap.size := by
          rcases Nat.lt_or_ge b wr.heap.size with h' | h'
          · exact h'
          · simp [World.cell?, Array.getElem?_eq_none h'] at g1
        have HPK : Hid (∀ W, Calls Tryz.prog 69 #[.string ek] W fun e w' => e = .returned (.bool (plainS ek)) ∧ w' = W) := fun W => rplain_any ek W hs2.1
        have HPV : Hid (∀ W, Calls Tryz.prog 69 #[.string ev] W fun e w' => e = .returned (.bool (plainS ev)) ∧ w' = W) := fun W => rplain_any ev W hs2.2
        have HFA : Hid (∀ W, Calls Tryz.prog 68 #[.agg #[.string ek, .string ev, .bool eg]] W fun e w' => e = .returned (.int .i64 (faultB ek ev eg)) ∧ Ext W w') := fun W => (fault_any ek ev eg W).mono fun _ w' hh => ⟨hh.1, by obtain ⟨c, rfl⟩ := hh.2; exact (Ext.refl _).alloc _⟩
        have HC : Hid (∀ W, Ext wr W → W.cell? ⟨b, off + k * 3, none⟩ = some (.string ek) ∧ W.cell? ⟨b, off + k * 3 + 1, none⟩ = some (.string ev) ∧ W.cell? ⟨b, off + k * 3 + 2, none⟩ = some (.bool eg)) := fun W hxx => ⟨hxx.cell g1, hxx.cell g2, hxx.cell g3⟩
        have HE : Hid (es[k]? = some (⟨ek, ev, eg⟩ : Ent)) := he
        clear h1 h2 h3 he hes hst hs2 hsm
        by_cases hf : faultB ek ev eg = 0
        · rw [hf] at HFA
          by_cases hp : plainS ek = true ∧ plainS ev = true
          · have hck : checkC ek ev eg = 0 := by unfold checkC; rw [if_neg (by simp [hf]), if_pos (by simp [hp.1, hp.2])]
            rw [hck, if_neg (by simp)] at hsc
            obtain ⟨hk8, hv16⟩ := checkC_ok hck
            rw [hp.1] at HPK
            rw [hp.2] at HPV
            have HSC : Hid (textS es = textS (es.drop (k + 1))) := hsc
            clear hsc hck hp hf
            by_cases hk0 : k = 0
            · have HJ : Hid (joinE (es.take (k + 1)) = T ++ wordE ek ev eg) := by rw [Hid, hT]; have h0 := HE.out; rw [hk0] at h0 ⊢; exact joinE_first es _ h0
              have hk1 : ¬ (0 : Int) < (k : Int) := by omega
              clear hk0
              clear hT HE
              have t1 : True := trivial
              cases eg with
              | true =>
                rw [wordE_gone] at HJ
                go_wp2_with (first
                  | (go_at_call 68; refine (HFA.out _).mono ?_; rintro e w2 ⟨rfl, hx2⟩; obtain ⟨c1, c2, c3⟩ := HC.out w2 hx2)
                  | (go_at_call 69; have _t := t1; refine (HPK.out _).mono ?_; rintro e w3 ⟨rfl, rfl⟩; clear t1)
                  | (go_at_call 69; refine (HPV.out _).mono ?_; rintro e w4 ⟨rfl, rfl⟩))
                go_roundw
                case rel => exact ⟨k + 1, _, by omega, by go_num, rfl, HJ.out.symm, by simp only [ba_size_app]; omega, HSC.out, hx.trans hx2⟩
                case measure => simp [intOf]; omega
              | false =>
                rw [wordE_here] at HJ
                go_wp2_with (first
                  | (go_at_call 68; refine (HFA.out _).mono ?_; rintro e w2 ⟨rfl, hx2⟩; obtain ⟨c1, c2, c3⟩ := HC.out w2 hx2)
                  | (go_at_call 69; have _t := t1; refine (HPK.out _).mono ?_; rintro e w3 ⟨rfl, rfl⟩; clear t1)
                  | (go_at_call 69; refine (HPV.out _).mono ?_; rintro e w4 ⟨rfl, rfl⟩))
                go_roundw
                case rel => exact ⟨k + 1, _, by omega, by go_num, rfl, HJ.out.symm, by simp only [ba_size_app]; have : (⟨#[61]⟩ : ByteArray).size = 1 := rfl; omega, HSC.out, hx.trans hx2⟩
                case measure => simp [intOf]; omega
            · have HJ : Hid (joinE (es.take (k + 1)) = T ++ ⟨#[32]⟩ ++ wordE ek ev eg) := by rw [Hid, hT]; exact joinE_next es k _ (by omega) HE.out
              have hk1 : (0 : Int) < (k : Int) := by omega
              clear hT HE
              have t1 : True := trivial
              cases eg with
              | true =>
                rw [wordE_gone] at HJ
                go_wp2_with (first
                  | (go_at_call 68; refine (HFA.out _).mono ?_; rintro e w2 ⟨rfl, hx2⟩; obtain ⟨c1, c2, c3⟩ := HC.out w2 hx2)
                  | (go_at_call 69; have _t := t1; refine (HPK.out _).mono ?_; rintro e w3 ⟨rfl, rfl⟩; clear t1)
                  | (go_at_call 69; refine (HPV.out _).mono ?_; rintro e w4 ⟨rfl, rfl⟩))
                go_roundw
                case rel => exact ⟨k + 1, _, by omega, by go_num, rfl, HJ.out.symm, by simp only [ba_size_app]; have : (⟨#[32]⟩ : ByteArray).size = 1 := rfl; omega, HSC.out, hx.trans hx2⟩
                case measure => simp [intOf]; omega
              | false =>
                rw [wordE_here] at HJ
                go_wp2_with (first
                  | (go_at_call 68; refine (HFA.out _).mono ?_; rintro e w2 ⟨rfl, hx2⟩; obtain ⟨c1, c2, c3⟩ := HC.out w2 hx2)
                  | (go_at_call 69; have _t := t1; refine (HPK.out _).mono ?_; rintro e w3 ⟨rfl, rfl⟩; clear t1)
                  | (go_at_call 69; refine (HPV.out _).mono ?_; rintro e w4 ⟨rfl, rfl⟩))
                go_roundw
                case rel => exact ⟨k + 1, _, by omega, by go_num, rfl, HJ.out.symm, by simp only [ba_size_app]; have : (⟨#[61]⟩ : ByteArray).size = 1 := rfl; have : (⟨#[32]⟩ : ByteArray).size = 1 := rfl; omega, HSC.out, hx.trans hx2⟩
                case measure => simp [intOf]; omega
          · have hck : checkC ek ev eg = 3 := by unfold checkC; rw [if_neg (by simp [hf]), if_neg (by simpa using hp)]
            rw [hck, if_pos (by decide)] at hsc
            have HR : Hid (textT es = (⟨#[]⟩, 3)) := by rw [Hid, HF.out, hsc, if_pos (by decide)]
            clear hsc hck hT HE hf HF
            have t1 : True := trivial
            cases hpk : plainS ek with
            | true =>
              rw [hpk] at HPK hp
              have hpv : plainS ev = false := by simpa using hp
              rw [hpv] at HPV
              clear hp hpk hpv
              go_wp2_with (first
                | (go_at_call 68; refine (HFA.out _).mono ?_; rintro e w2 ⟨rfl, hx2⟩; obtain ⟨c1, c2, c3⟩ := HC.out w2 hx2)
                | (go_at_call 69; have _t := t1; refine (HPK.out _).mono ?_; rintro e w3 ⟨rfl, rfl⟩; clear t1)
                | (go_at_call 69; refine (HPV.out _).mono ?_; rintro e w4 ⟨rfl, rfl⟩))
              go_ret2
              exact ⟨by rw [HR.out]; rfl, hx.trans hx2⟩
            | false =>
              rw [hpk] at HPK
              clear hp hpk
              generalize plainS ev = pv at *
              go_wp2_with (first
                | (go_at_call 68; refine (HFA.out _).mono ?_; rintro e w2 ⟨rfl, hx2⟩; obtain ⟨c1, c2, c3⟩ := HC.out w2 hx2)
                | (go_at_call 69; have _t := t1; refine (HPK.out _).mono ?_; rintro e w3 ⟨rfl, rfl⟩; clear t1)
                | (go_at_call 69; refine (HPV.out _).mono ?_; rintro e w4 ⟨rfl, rfl⟩))
              go_ret2
              exact ⟨by rw [HR.out]; rfl, hx.trans hx2⟩
        · have hpos : 0 < faultB ek ev eg := by rcases faultB_cases ek ev eg with h | h | h <;> omega
          have hck : checkC ek ev eg = faultB ek ev eg := by unfold checkC; rw [if_pos hf]
          rw [hck, if_pos hf] at hsc
          have HR : Hid (textT es = (⟨#[]⟩, faultB ek ev eg)) := by rw [Hid, HF.out, hsc, if_pos hf]
          clear hsc hck hT HE hf HF
          generalize faultB ek ev eg = f at *
          go_wp2_with (go_at_call 68; refine (HFA.out _).mono ?_; rintro e w2 ⟨rfl, hx2⟩)
          go_ret2
          exact ⟨by rw [HR.out]; rfl, hx.trans hx2⟩
      · have hkl : k = es.length := by omega
        subst hkl
        rw [List.drop_length] at hsc
        rw [List.take_length] at hT
        have HR : Hid (textT es = (T, 0)) := by rw [Hid, HF.out, if_neg (by rw [hsc]; simp [textS]), hT]
        clear hsc hT hes HF
        go_wp2
        go_ret2
        exact ⟨by rw [HR.out]; rfl, hx⟩
theorem chg_none {x : ByteArray} (h : (61 : UInt8) ∉ x.data.toList) : changeE x = ⟨x, ⟨#[]⟩, true⟩ := by
  unfold changeE cutE Lib.cut
  rw [idx_none 61 _ h, if_neg (by decide)]
  simp
theorem chg_cut {x : ByteArray} {j : Nat} (hj : j < x.size) (hc : x[j] = 61) (h : (61 : UInt8) ∉ x.data.toList.take j) : changeE x = ⟨x.extract 0 j, x.extract (j + 1) x.size, false⟩ := by
  have hl : x.data.toList.length = x.size := by rw [Lib.size_eq]
  have e : x.data.toList = x.data.toList.take j ++ 61 :: x.data.toList.drop (j + 1) := by
    conv => lhs; rw [← List.take_append_drop j x.data.toList]
    congr 1
    rw [List.drop_eq_getElem_cons (by omega)]
    congr 1
  have hi : Lib.index x.data.toList [61] = (j : Int) := by
    rw [e, idx_some 61 _ _ h, List.length_take]
    omega
  unfold changeE cutE Lib.cut
  rw [hi, if_pos (by omega), Int.toNat_natCast]
  simp only [Bool.not_true, Ent.mk.injEq, and_true]
  refine ⟨ba_eq ?_, ba_eq ?_⟩
  · rw [toL_take]; simp
  · rw [toL_take, List.take_of_length_le (by omega)]; simp
end Go.Proofs.YtkibgflbidkalaaGreatDoor

/- Changes as a text: the document's changes of a text. -/
namespace Go.Proofs.YtkibgflbidkalaaGreatDoor
open Go.RowKit Go.WideShapes

theorem wordsL_le (s : ByteArray) : (wordsL s).length ≤ s.size + 1 := by
  have := splitL_len s.data.toList
  rw [Lib.size_eq]
  simpa [wordsL] using this
theorem splitL_sub : ∀ (s : List UInt8) (x : List UInt8), x ∈ splitL s → x.length ≤ s.length
  | [], x, h => by simp [splitL] at h; subst h; exact Nat.le_refl _
  | c :: r, x, h => by
    unfold splitL at h
    have ih := splitL_sub r
    split at h
    · rcases List.mem_cons.1 h with rfl | h
      · simp
      · have := ih x h; simp; omega
    · split at h
      · simp at h; subst h; simp
      · rename_i y ys hy
        rw [hy] at ih
        rcases List.mem_cons.1 h with rfl | h
        · have := ih y (by simp); simp; omega
        · have := ih x (by simp [h]); simp; omega
theorem wordsL_size (s x : ByteArray) (h : x ∈ wordsL s) : x.size ≤ s.size := by
  obtain ⟨l, hl, rfl⟩ := List.mem_map.1 h
  have := splitL_sub _ l hl
  rw [Lib.size_eq, Lib.size_eq]
  simpa using this
theorem Lst.set {W0 w : World} {v : Value} {es : List Ent} (h : Lst W0 w v es) {eb : Nat} (hne : ∀ g, v.ownBlock = some g → g < eb) (hb : W0.heap.size ≤ eb) (i : Nat) (u : Value) : Lst W0 (w.setCell ⟨eb, i, none⟩ u) v es := by
  refine ⟨⟨h.own.1, ?_⟩, h.ext.set (p := ⟨eb, i, none⟩) hb u⟩
  rcases h.own.2 with hn | ⟨g, cap, cur, rfl, hb, hgg, rest⟩
  · exact .inl hn
  · refine .inr ⟨g, cap, cur, rfl, hb, ?_, rest⟩
    have := hne g rfl
    rw [Below.heap_setCell _ _ _ _ (show g ≠ (⟨eb, i, none⟩ : Addr).block by show g ≠ eb; omega)]
    exact hgg
structure RfE (w w' : World) (e : Ending) (r : Option (List Ent)) : Prop where
  ex : ∃ v, e = .returned (.tuple #[v, .int .i64 (match r with | none => 4 | some _ => 0)]) ∧ Lst w w' v (r.getD [])
theorem mem_take_snoc {x : ByteArray} {j : Nat} (hj : j < x.size) (hc : ¬ x[j] = 61) (h : (61 : UInt8) ∉ x.data.toList.take j) : (61 : UInt8) ∉ x.data.toList.take (j + 1) := by
  rw [take_byteP x j hj]
  intro hm
  rcases List.mem_append.1 hm with hm | hm
  · exact h hm
  · simp at hm; exact hc hm.symm
theorem textS_pos : ∀ es : List Ent, 0 ≤ textS es
  | [] => Int.le_refl _
  | e :: es => by
    unfold textS
    split
    · unfold checkC
      split
      · rcases faultB_cases e.key e.val e.gone with h | h | h <;> omega
      · split <;> decide
    · exact textS_pos es
theorem textT_pos (es : List Ent) : 0 ≤ (textT es).2 := by
  unfold textT
  split
  · decide
  · split
    · exact textS_pos es
    · exact Int.le_refl _
set_option maxRecDepth 20000 in
set_option maxHeartbeats 8000000 in
theorem rbatch_any (s : ByteArray) (w : World) (hs : s.size ≤ 900) :
    Calls Tryz.prog 15 #[.string s] w fun e w' => RfE w w' e (parseE s) := by
  have HSP : Hid (Calls Tryz.prog 14 #[.string s] w fun e w' => ∃ v, e = .returned v ∧ Sls w w' v (wordsL s)) := rsplit_any s w (by omega)
  have hwl : (wordsL s).length ≤ 901 := by have := wordsL_le s; omega
  have HSZ : Hid (∀ x ∈ wordsL s, x.size ≤ 900) := fun x hx => by have := wordsL_size s x hx; omega
  have HP1 : Hid ((textT (chgsE s)).2 = 0 → parseE s = some (chgsE s)) := fun h => if_pos h
  have HP2 : Hid (¬ (textT (chgsE s)).2 = 0 → parseE s = none) := fun h => if_neg h
  unfold chgsE at HP1 HP2
  generalize parseE s = res at *
  generalize wordsL s = ws at *
  go_enter Tryz.func15, Tryz.ntmps15
  go_wp2_with (go_at_call 14; refine HSP.out.mono ?_; rintro e w1 ⟨v, rfl, hS1⟩; obtain ⟨wo, wc, rfl, hSA⟩ := hS1.at; have HX1 : Ext w w1 := hS1.ext)
  clear HSP hS1
  have HSA : Hid (StrsAt w1 wo ws) := hSA
  clear hSA
  go_loopw [5, 6] (fun v i wr => ∃ (k : Nat), k ≤ ws.length ∧ i = .int .i64 k ∧ Lst w1 wr v ((ws.take k).map changeE)) (fun _ i _ => ws.length - (intOf i).toNat)
  case atStart => exact ⟨0, Nat.zero_le _, rfl, Lst.nil (Ext.refl _)⟩
  case round =>
    obtain ⟨k, hk, rfl, hL⟩ := hrel
    by_cases hlt : k < ws.length
    · obtain ⟨b, off, x, rfl, hx, hcx⟩ := (HSA.out.ext hL.ext).get hlt
      have hxs := HSZ.out x (List.mem_of_getElem? hx)
      have HST : Hid ((ws.take (k + 1)).map changeE = (ws.take k).map changeE ++ [changeE x]) := by
        rw [Hid, List.take_add_one, hx]; simp
      have HLN : Hid (((ws.take k).map changeE).length ≤ 100000) := by rw [Hid]; simp; omega
      have hbl : b < wr.heap.size := by
        rcases Nat.lt_or_ge b wr.heap.size with h' | h'
        · exact h'
        · simp [World.cell?, Array.getElem?_eq_none h'] at hcx
      clear hx
      generalize (ws.take k).map changeE = done at *
      go_upto_region 7 with fail
      have hEB : Blk (wr.alloc (.cells #[.string x, .string ⟨#[]⟩, .bool true] 56)) wr.heap.size #[.string x, .string ⟨#[]⟩, .bool true] 56 := Blk.new _ _ _
      have hL2 := hL.alloc (.cells #[.string x, .string ⟨#[]⟩, .bool true] 56)
      have hcx2 : (wr.alloc (.cells #[.string x, .string ⟨#[]⟩, .bool true] 56)).cell? ⟨b, off + k, none⟩ = some (.string x) := ((Ext.refl wr).alloc _).cell hcx
      have heb : w1.heap.size ≤ wr.heap.size := hL.ext.size
      have HNE : Hid (∀ g, Value.ownBlock _ = some g → g < wr.heap.size) := fun g hg => (hL.own.lt g hg).2
      clear hL hcx
      generalize wr.alloc (.cells #[.string x, .string ⟨#[]⟩, .bool true] 56) = w2 at *
      generalize wr.heap.size = eb at *
      have hebl := hEB.lt
      have HEB : Hid (Blk w2 eb #[.string x, .string ⟨#[]⟩, .bool true] 56) := hEB
      have c0 : w2.cell? ⟨eb, 0, none⟩ = some (.string x) := hEB.cell 0
      have c1 : w2.cell? ⟨eb, 1, none⟩ = some (.string ⟨#[]⟩) := hEB.cell 1
      have c2 : w2.cell? ⟨eb, 2, none⟩ = some (.bool true) := hEB.cell 2
      have f0 := hEB.free 0
      have f1 := hEB.free 1
      have f2 := hEB.free 2
      clear hEB
      go_wp2_with fail
      go_loop [8] (fun i => ∃ j : Nat, j ≤ x.size ∧ i = .int .i64 j ∧ Hid ((61 : UInt8) ∉ x.data.toList.take j)) (fun i => x.size - (intOf i).toNat)
      case atStart => exact ⟨0, Nat.zero_le _, rfl, by rw [Hid]; simp⟩
      case round =>
        obtain ⟨j, hj, rfl, hno⟩ := hrel
        by_cases hjt : j < x.size
        · by_cases hc : x[j] = 61
          · have HCH : Hid (changeE x = ⟨x.extract 0 j, x.extract (j + 1) x.size, false⟩) := chg_cut hjt hc hno.out
            have hc' : ((x[j].toNat : Int) == 61) = true := by rw [hc]; rfl
            clear hc hno
            go_upto_region 11 with fail
            go_region
            have E2 := (((HEB.out.set 0 (.string (x.extract 0 j))).set 1 (.string (x.extract (j + 1) x.size))).set 2 (.bool false)).drew
            have hL3 := (((hL2.set HNE.out heb 0 (.string (x.extract 0 j))).set HNE.out heb 1 (.string (x.extract (j + 1) x.size))).set HNE.out heb 2 (.bool false)).drew
            clear c0 c1 c2 f0 f1 f2 hcx2 HEB hL2
            generalize (((w2.setCell ⟨eb, 0, none⟩ (.string (x.extract 0 j))).setCell ⟨eb, 1, none⟩ (.string (x.extract (j + 1) x.size))).setCell ⟨eb, 2, none⟩ (.bool false)).drew = w3 at *
            have d0 : w3.cell? ⟨eb, 0, none⟩ = some (.string (x.extract 0 j)) := E2.cell 0
            have d1 : w3.cell? ⟨eb, 1, none⟩ = some (.string (x.extract (j + 1) x.size)) := E2.cell 1
            have d2 : w3.cell? ⟨eb, 2, none⟩ = some (.bool false) := E2.cell 2
            clear E2
            generalize x.extract 0 j = kk at *
            generalize x.extract (j + 1) x.size = vv at *
            go_wp2_with (at_builtin; refine wpList_app_ent rfl _ _ rfl w1 _ done rfl ?c1 _ kk vv false rfl ?c2 ?c3 ?_)
            case c1 => exact hL3.alloc _
            case c2 => exact Blk.new' _ _ _ (by first | rfl | simp)
            case c3 => exact HLN.out
            intro v4 w4 hL4
            rw [← HCH.out] at hL4
            go_wp2
            go_roundw
            case rel => exact ⟨k + 1, by omega, by go_num, by rw [HST.out]; exact hL4⟩
            case measure => simp [intOf]; omega
          · have HNO : Hid ((61 : UInt8) ∉ x.data.toList.take (j + 1)) := mem_take_snoc hjt hc hno.out
            have hc' : ((x[j].toNat : Int) == 61) = false := by
              rw [beq_eq_false_iff_ne]
              intro e
              exact hc (UInt8.toNat_inj.1 (by show x[j].toNat = 61; omega))
            clear hc hno
            go_wp2_with fail
            go_round
            case rel => exact ⟨j + 1, by omega, by go_num, HNO⟩
            case measure => simp [intOf]; omega
        · have HCH : Hid (changeE x = ⟨x, ⟨#[]⟩, true⟩) := chg_none (by have := hno.out; rwa [List.take_of_length_le (by rw [← Lib.size_eq]; omega)] at this)
          clear hno
          go_wp2_with (at_builtin; refine wpList_app_ent rfl _ _ rfl w1 _ done rfl ?c1 _ x ⟨#[]⟩ true rfl ?c2 ?c3 ?_)
          case c1 => exact hL2.alloc _
          case c2 => exact Blk.new' _ _ _ (by first | rfl | simp)
          case c3 => exact HLN.out
          intro v3 w3 hL3
          rw [← HCH.out] at hL3
          go_wp2
          go_roundw
          case rel => exact ⟨k + 1, by omega, by go_num, by rw [HST.out]; exact hL3⟩
          case measure => simp [intOf]; omega
    · rw [List.take_of_length_le (by omega)] at hL
      obtain ⟨ao, cap, rfl, hE⟩ := hL.at
      have HTX : Hid (Calls Tryz.prog 36 #[.slice ao (ws.map changeE).length cap] wr fun e w' => e = .returned (.tuple #[.string (textT (ws.map changeE)).1, .int .i64 (textT (ws.map changeE)).2]) ∧ Ext wr w') := rtext_any ao cap (ws.map changeE) wr (by simp; omega) hE (fun e he => by
        obtain ⟨x, hx, rfl⟩ := List.mem_map.1 he
        have h1 := HSZ.out x hx
        have h2 := changeE_le x
        omega)
      have HPOS : Hid (0 ≤ (textT (ws.map changeE)).2) := textT_pos _
      have HLX : Hid (∀ W, Ext wr W → Lst w W (.slice ao (ws.map changeE).length cap) (ws.map changeE)) := fun W hxx => (hL.upon hxx).back HX1
      clear hE hL HSA HSZ
      generalize ws.map changeE = done at *
      generalize textT done = tt at *
      obtain ⟨tx, f⟩ := tt
      by_cases hf : f = 0
      · subst hf
        have hr := HP1.out rfl
        subst hr
        go_wp2_with (go_at_call 36; refine HTX.out.mono ?_; rintro e w2 ⟨rfl, hx2⟩)
        go_ret2
        exact ⟨_, rfl, HLX.out _ hx2⟩
      · have hr := HP2.out hf
        subst hr
        have hfp : 0 < f := by have := HPOS.out; dsimp only at this; omega
        go_wp2_with (go_at_call 36; refine HTX.out.mono ?_; rintro e w2 ⟨rfl, hx2⟩)
        go_ret2
        exact ⟨_, rfl, Lst.nil (HLX.out _ hx2).ext⟩
end Go.Proofs.YtkibgflbidkalaaGreatDoor

/- Changes as a text: what the laws walk with. -/
namespace Go.Proofs.YtkibgflbidkalaaGreatDoor
open Go.RowKit Go.WideShapes

end Go.Proofs.YtkibgflbidkalaaGreatDoor

/- A session's words: told, number; the document's natural, fault. -/
namespace Go.Proofs.YtkibgflbidkalaaGreatDoor
open Go.RowKit Go.WideShapes

def okT : ByteArray := ⟨#[111, 107]⟩
def errT (n : Nat) : ByteArray := ⟨#[101, 114, 114, 111, 114, 32, UInt8.ofNat (48 + n)]⟩
theorem errT_is {n : Nat} (h : n < 10) : (⟨#[101, 114, 114, 111, 114, 32]⟩ ++ ⟨(Lib.decDigits n).toArray⟩ : ByteArray) = errT n := by
  unfold Lib.decDigits
  rw [dif_pos h]
  apply ba_eq
  simp [errT]
theorem told_err (n : Nat) (v : Value) (w : World) (hn : n < 10) :
    Calls Tryz.prog 28 #[.iface 39 (.int .i64 (n : Int)), v] w fun e w' => e = .returned (.string (errT n)) ∧ w = w' := by
  have hta : ∀ (v : Value) (w : World), (Instr.typeAssert (.iface 39 v) 25 39 true).run Tryz.prog w = .ok (.tuple #[v, .bool true]) w := fun _ _ => by kernel_rfl
  have HI : Hid (∀ W, Calls Tryz.prog 53 #[.int .i64 (n : Int)] W fun e w' => e = .returned (.string ⟨(Lib.decDigits n).toArray⟩) ∧ W = w') := fun W => (Tryz.strconv_Itoa_small n (by omega) W).mono fun _ _ h => ⟨h.1, h.2.symm⟩
  have HE : Hid ((⟨#[101, 114, 114, 111, 114, 32]⟩ ++ ⟨(Lib.decDigits n).toArray⟩ : ByteArray) = errT n) := errT_is hn
  have hdd : (⟨(Lib.decDigits n).toArray⟩ : ByteArray).size ≤ 10 := by unfold Lib.decDigits; rw [dif_pos hn]; show (1 : Nat) ≤ 10; decide
  generalize (⟨(Lib.decDigits n).toArray⟩ : ByteArray) = dd at *
  go_enter Tryz.func28, Tryz.ntmps28
  go_wp2_with (go_at_call 53; refine (HI.out _).mono ?_; rintro e w1 ⟨rfl, rfl⟩)
  go_ret
  exact ⟨by first | rfl | (rw [← HE.out]; rfl), rfl⟩
theorem told_nil (b o c : Nat) (xs : List ByteArray) (w : World) (hcells : ∀ (j : Nat) x, xs[j]? = some x → w.cell? ⟨b, o + j, none⟩ = some (.string x)) (hb : b < w.heap.size) (hN : xs.length ≤ 1000) (hc : xs.length ≤ c) (hlen : (Lib.join (xs.map (·.data.toList)) [32]).length ≤ 100000) :
    Calls Tryz.prog 28 #[.nilIface, .slice (some ⟨b, o, none⟩) xs.length c] w fun e w' => e = .returned (.string ⟨(Lib.join (xs.map (·.data.toList)) [32]).toArray⟩) ∧ Ext w w' := by
  have hta : ∀ (w : World), (Instr.typeAssert .nilIface 25 39 true).run Tryz.prog w = .ok (.tuple #[.int .i64 0, .bool false]) w := fun _ => by kernel_rfl
  have HJ : Hid (Calls Tryz.prog 54 #[.slice (some ⟨b, o, none⟩) xs.length c, .string ⟨#[32]⟩] w fun e w' => e = .returned (.string ⟨(Lib.join (xs.map (·.data.toList)) [32]).toArray⟩) ∧ Ext w w') := (Tryz.strings_Join b o c xs ⟨#[32]⟩ w hcells hb (by omega) hc (Nat.le_trans hlen (by decide))).mono fun _ _ h => ⟨h.1, ⟨h.2⟩⟩
  clear hcells hlen
  generalize (⟨(Lib.join (xs.map (·.data.toList)) [32]).toArray⟩ : ByteArray) = res at *
  go_enter Tryz.func28, Tryz.ntmps28
  go_wp2_with (go_at_call 54; refine HJ.out.mono ?_; rintro e w1 ⟨rfl, hx1⟩)
  go_ret
  exact ⟨rfl, hx1⟩
theorem join_single (x : ByteArray) : (⟨(Lib.join ([x].map (·.data.toList)) [32]).toArray⟩ : ByteArray) = x := by
  apply ba_eq
  rw [List.map_cons, List.map_nil, Lib.join_one]
theorem told_one (b : Nat) (x : ByteArray) (w : World) (h : Blk w b #[.string x] 9) (hx : x.size ≤ 100000) :
    Calls Tryz.prog 28 #[.nilIface, .slice (some ⟨b, 0, none⟩) 1 1] w fun e w' => e = .returned (.string x) ∧ Ext w w' := by
  have := told_nil b 0 1 [x] w (fun j y hj => by
    match j, hj with
    | 0, hj => simp at hj; subst hj; exact h.cell 0
    | j + 1, hj => simp at hj) h.lt (by simp) (by simp) (by rw [List.map_cons, List.map_nil, Lib.join_one, ← Lib.size_eq]; exact hx)
  rw [join_single] at this
  exact this
def digC (c : UInt8) : Bool := decide (48 ≤ c.toNat) && decide (c.toNat ≤ 57)
def valL (l : List UInt8) : Nat := l.foldl (fun a c => 10 * a + (c.toNat - 48)) 0
theorem valL_snoc (l : List UInt8) (c : UInt8) : valL (l ++ [c]) = 10 * valL l + (c.toNat - 48) := by unfold valL; rw [List.foldl_append]; rfl
theorem foldl_val : ∀ (l : List UInt8) (a : Nat), l.foldl (fun a c => 10 * a + (c.toNat - 48)) a = a * 10 ^ l.length + valL l
  | [], a => by simp [valL]
  | c :: r, a => by
    rw [List.foldl_cons, foldl_val r]
    have : valL (c :: r) = (c.toNat - 48) * 10 ^ r.length + valL r := by
      unfold valL
      rw [List.foldl_cons, foldl_val r]
      simp [valL]
    rw [this, List.length_cons, Nat.pow_succ, Nat.add_mul]
    have : 10 * a * 10 ^ r.length = a * (10 ^ r.length * 10) := by rw [Nat.mul_comm 10 a, Nat.mul_assoc, Nat.mul_comm 10 (10 ^ r.length)]
    omega
theorem valL_cons (c : UInt8) (r : List UInt8) : valL (c :: r) = (c.toNat - 48) * 10 ^ r.length + valL r := by
  unfold valL
  rw [List.foldl_cons, foldl_val r]
  simp [valL]
theorem valL_lt : ∀ (l : List UInt8), l.all digC = true → valL l < 10 ^ l.length
  | [], _ => by simp [valL]
  | c :: r, h => by
    rw [List.all_cons, Bool.and_eq_true] at h
    have ih := valL_lt r h.2
    have hc : c.toNat - 48 ≤ 9 := by have := h.1; unfold digC at this; simp at this; omega
    rw [valL_cons, List.length_cons, Nat.pow_succ]
    have : (c.toNat - 48) * 10 ^ r.length ≤ 9 * 10 ^ r.length := Nat.mul_le_mul_right _ hc
    omega
def numO (s : ByteArray) : Option Nat :=
  if s.size = 0 ∨ 3 < s.size ∨ (1 < s.size ∧ s.data.toList.head? = some 48) ∨ s.data.toList.all digC = false then none else some (valL s.data.toList)
def natI (s : ByteArray) : Int :=
  if s.size = 0 ∨ 9 < s.size ∨ (1 < s.size ∧ s.data.toList.head? = some 48) ∨ s.data.toList.all digC = false then -1 else if 999 < valL s.data.toList then -1 else valL s.data.toList
theorem nat_num (s : ByteArray) : natI s = match numO s with | some n => (n : Int) | none => -1 := by
  have hl : s.data.toList.length = s.size := by rw [Lib.size_eq]
  unfold natI numO
  by_cases h0 : s.size = 0
  · rw [if_pos (.inl h0), if_pos (.inl h0)]
  by_cases h1 : 1 < s.size ∧ s.data.toList.head? = some 48
  · rw [if_pos (.inr (.inr (.inl h1))), if_pos (.inr (.inr (.inl h1)))]
  by_cases h2 : s.data.toList.all digC = false
  · rw [if_pos (.inr (.inr (.inr h2))), if_pos (.inr (.inr (.inr h2)))]
  have h2' : s.data.toList.all digC = true := by simpa using h2
  have hlt := valL_lt _ h2'
  rw [hl] at hlt
  by_cases h3 : 3 < s.size
  · rw [if_pos (.inr (.inl h3) : s.size = 0 ∨ 3 < s.size ∨ _)]
    by_cases h9 : 9 < s.size
    · rw [if_pos (.inr (.inl h9))]
    · have hA : ¬ (s.size = 0 ∨ 9 < s.size ∨ (1 < s.size ∧ s.data.toList.head? = some 48) ∨ s.data.toList.all digC = false) := by
        rintro (h | h | h | h)
        · exact h0 h
        · exact h9 h
        · exact h1 h
        · exact h2 h
      rw [if_neg hA, if_pos]
      cases hd : s.data.toList with
      | nil => rw [hd] at hl; simp at hl; omega
      | cons c r =>
        rw [hd] at hl h1 h2'
        rw [valL_cons]
        have hc48 : ¬ c = 48 := fun e => h1 ⟨by omega, by rw [e]; rfl⟩
        rw [List.all_cons, Bool.and_eq_true] at h2'
        have hc : 1 ≤ c.toNat - 48 := by
          have := h2'.1
          unfold digC at this
          simp at this
          have : ¬ c.toNat = 48 := fun e => hc48 (UInt8.toNat_inj.1 (by rw [e]; rfl))
          omega
        have hr : 3 ≤ r.length := by simp at hl; omega
        have h10 : 10 ^ 3 ≤ 10 ^ r.length := Nat.pow_le_pow_right (by omega) hr
        have : 1 * 10 ^ r.length ≤ (c.toNat - 48) * 10 ^ r.length := Nat.mul_le_mul_right _ hc
        omega
  · have h999 : valL s.data.toList < 1000 := Nat.lt_of_lt_of_le hlt (Nat.pow_le_pow_right (n := 10) (by decide) (show s.size ≤ 3 by omega))
    have h99 : ¬ 999 < valL s.data.toList := by omega
    have hA : ¬ (s.size = 0 ∨ 9 < s.size ∨ (1 < s.size ∧ s.data.toList.head? = some 48) ∨ s.data.toList.all digC = false) := by
      rintro (h | h | h | h)
      · exact h0 h
      · omega
      · exact h1 h
      · exact h2 h
    have hB : ¬ (s.size = 0 ∨ 3 < s.size ∨ (1 < s.size ∧ s.data.toList.head? = some 48) ∨ s.data.toList.all digC = false) := by
      rintro (h | h | h | h)
      · exact h0 h
      · exact h3 h
      · exact h1 h
      · exact h2 h
    rw [if_neg hA, if_neg hB, if_neg h99]
theorem dig_stop {s : ByteArray} {k : Nat} (h : k < s.size) (hc : digC s[k] = false) : s.data.toList.all digC = false := by
  rw [List.all_eq_false]
  refine ⟨s[k], ?_, by simp [hc]⟩
  have : s.data.toList[k]'(by simpa using h) = s[k] := rfl
  rw [← this]
  exact List.getElem_mem _
theorem head_is {s : ByteArray} (h : 0 < s.size) : s.data.toList.head? = some s[0] := by
  rw [List.head?_eq_getElem?, List.getElem?_eq_getElem (by rw [← Lib.size_eq]; exact h)]; rfl
theorem val_take {s : ByteArray} {k : Nat} (hk : k ≤ s.size) (ha : (s.data.toList.take k).all digC = true) : valL (s.data.toList.take k) < 10 ^ k := by
  have := valL_lt _ ha
  rw [List.length_take, show min k s.data.toList.length = k by rw [← Lib.size_eq]; omega] at this
  exact this
set_option maxRecDepth 20000 in
set_option maxHeartbeats 2000000 in
theorem cnumber_loop (s : ByteArray) (w : World) (hs : s.size ≤ 3) (hr : numO s = if s.data.toList.all digC = false then none else some (valL s.data.toList)) (h0 : 0 < s.size) (h1 : (s.size = 1) ∨ (1 < s.size ∧ ¬ s[0] = 48)) :
    Calls Tryz.prog 64 #[.string s] w fun e w' => e = .returned (.tuple #[.int .i64 (((numO s).getD 0 : Nat) : Int), .bool (numO s).isSome]) ∧ w = w' := by
  have HN : Hid (s.data.toList.all digC = false → numO s = none) := fun h => by rw [hr, if_pos h]
  have HY : Hid (s.data.toList.all digC = true → numO s = some (valL s.data.toList)) := fun h => by rw [hr, if_neg (by rw [h]; simp)]
  have he : s.toList.isEmpty = false := by
    rw [List.isEmpty_eq_false_iff]
    intro e
    rw [ByteArray.toList_eq] at e
    have := congrArg List.length e
    rw [← Lib.size_eq] at this
    have h00 : s.size = 0 := this
    omega
  have h01 : (0 : Int) < (s.size : Int) := by omega
  have h3 : ¬ (3 : Int) < (s.size : Int) := by omega
  have hgo : ((s.size = 1) ∨ (1 < s.size ∧ ((s[0].toNat : Int) == 48) = false)) := by
    rcases h1 with h | ⟨h, h'⟩
    · exact .inl h
    · refine .inr ⟨h, ?_⟩
      rw [beq_eq_false_iff_ne]
      intro e
      refine h' (UInt8.toNat_inj.1 ?_)
      show s[0].toNat = 48
      exact Int.ofNat_inj.1 e
  clear hr h1
  generalize numO s = res at *
  rcases hgo with hgo | ⟨hgo, hgo'⟩
  all_goals
    first | (have h11 : ¬ (1 : Int) < (s.size : Int) := by omega) | (have h11 : (1 : Int) < (s.size : Int) := by omega)
    go_enter Tryz.func64, Tryz.ntmps64
    go_wp2_with fail
    go_loop [4, 25] (fun n i => ∃ k : Nat, k ≤ s.size ∧ i = .int .i64 k ∧ n = .int .i64 (valL (s.data.toList.take k) : Nat) ∧ Hid ((s.data.toList.take k).all digC = true)) (fun _ i => s.size - (intOf i).toNat)
    case atStart => exact ⟨0, Nat.zero_le _, rfl, rfl, rfl⟩
    case round =>
      obtain ⟨k, hk, rfl, rfl, ha⟩ := hrel
      have hv := val_take hk ha.out
      have hv9 : valL (s.data.toList.take k) < 1000 := Nat.lt_of_lt_of_le hv (Nat.pow_le_pow_right (n := 10) (by decide) (show k ≤ 3 by omega))
      clear hv
      by_cases hlt : k < s.size
      · have HT : Hid (valL (s.data.toList.take (k + 1)) = 10 * valL (s.data.toList.take k) + (s[k].toNat - 48)) := by rw [Hid, take_byteP s k hlt, valL_snoc]
        cases hc : digC s[k] with
        | false =>
          have hn := HN.out (dig_stop hlt hc)
          subst hn
          have hc' : (s[k].toNat : Int) < 48 ∨ 57 < (s[k].toNat : Int) := by unfold digC at hc; simp at hc; omega
          clear hc HT ha
          generalize valL (s.data.toList.take k) = q at *
          rcases hc' with h1 | h1
          all_goals
            go_wp2_with fail
            go_ret2
            exact ⟨rfl, rfl⟩
        | true =>
          have HA : Hid ((s.data.toList.take (k + 1)).all digC = true) := by rw [Hid, take_byteP s k hlt, List.all_append, ha.out]; simp [hc]
          have h1 : (48 : Int) ≤ (s[k].toNat : Int) := by unfold digC at hc; simp at hc; omega
          have h2 : (s[k].toNat : Int) ≤ 57 := by unfold digC at hc; simp at hc; omega
          have HS : Hid (((valL (s.data.toList.take (k + 1)) : Nat) : Int) = 10 * ((valL (s.data.toList.take k) : Nat) : Int) + ((s[k].toNat : Int) - 48)) := by rw [Hid, HT.out]; omega
          clear hc HT ha
          generalize valL (s.data.toList.take k) = q at *
          go_wp2_with fail
          go_round
          case rel => exact ⟨k + 1, by omega, by go_num, by rw [HS.out], HA⟩
          case measure => simp [intOf]; omega
      · rw [List.take_of_length_le (by rw [← Lib.size_eq]; omega)] at ha hv9 ⊢
        have hy := HY.out ha.out
        subst hy
        clear ha HN HY
        go_wp2_with fail
        go_ret2
        exact ⟨rfl, rfl⟩
theorem cnumber_none (s : ByteArray) (w : World) (hs : s.size ≤ 1000) (h : s.size = 0 ∨ 3 < s.size ∨ (1 < s.size ∧ s.data.toList.head? = some 48)) :
    Calls Tryz.prog 64 #[.string s] w fun e w' => e = .returned (.tuple #[.int .i64 0, .bool false]) ∧ w = w' := by
  rcases h with h | h | ⟨h, hh⟩
  · have he : s.toList.isEmpty = true := by
      rw [List.isEmpty_iff, ByteArray.toList_eq]
      exact List.eq_nil_of_length_eq_zero (by rw [← Lib.size_eq]; exact h)
    go_enter Tryz.func64, Tryz.ntmps64
    go_wp2_with fail
    go_ret2
    exact ⟨rfl, rfl⟩
  · have he : s.toList.isEmpty = false := by
      rw [List.isEmpty_eq_false_iff]
      intro e
      rw [ByteArray.toList_eq] at e
      have := congrArg List.length e
      rw [← Lib.size_eq] at this
      have h00 : s.size = 0 := this
      omega
    have h3 : (3 : Int) < (s.size : Int) := by omega
    go_enter Tryz.func64, Tryz.ntmps64
    go_wp2_with fail
    go_ret2
    exact ⟨rfl, rfl⟩
  · by_cases h3 : 3 < s.size
    · have he : s.toList.isEmpty = false := by
        rw [List.isEmpty_eq_false_iff]
        intro e
        rw [ByteArray.toList_eq] at e
        have := congrArg List.length e
        rw [← Lib.size_eq] at this
        have h00 : s.size = 0 := this
        omega
      have h3 : (3 : Int) < (s.size : Int) := by omega
      go_enter Tryz.func64, Tryz.ntmps64
      go_wp2_with fail
      go_ret2
      exact ⟨rfl, rfl⟩
    · have he : s.toList.isEmpty = false := by
        rw [List.isEmpty_eq_false_iff]
        intro e
        rw [ByteArray.toList_eq] at e
        have := congrArg List.length e
        rw [← Lib.size_eq] at this
        have h00 : s.size = 0 := this
        omega
      have h3' : ¬ (3 : Int) < (s.size : Int) := by omega
      have h11 : (1 : Int) < (s.size : Int) := by omega
      have h01 : (0 : Int) < (s.size : Int) := by omega
      have h0 : 0 < s.size := by omega
      have hz : ((s[0].toNat : Int) == 48) = true := by
        rw [head_is h0] at hh
        rw [Option.some.inj hh]; rfl
      go_enter Tryz.func64, Tryz.ntmps64
      go_wp2_with fail
      go_ret2
      exact ⟨rfl, rfl⟩
theorem cnumber_any (s : ByteArray) (w : World) (hs : s.size ≤ 1000) :
    Calls Tryz.prog 64 #[.string s] w fun e w' => e = .returned (.tuple #[.int .i64 (((numO s).getD 0 : Nat) : Int), .bool (numO s).isSome]) ∧ w = w' := by
  by_cases h : s.size = 0 ∨ 3 < s.size ∨ (1 < s.size ∧ s.data.toList.head? = some 48)
  · have : numO s = none := by
      unfold numO
      rw [if_pos]
      rcases h with h | h | h
      · exact .inl h
      · exact .inr (.inl h)
      · exact .inr (.inr (.inl h))
    rw [this]
    exact cnumber_none s w hs h
  · have h0 : 0 < s.size := by
      rcases Nat.eq_zero_or_pos s.size with h' | h'
      · exact absurd (.inl h') h
      · exact h'
    have h3 : ¬ 3 < s.size := fun h' => h (.inr (.inl h'))
    have h1 : ¬ (1 < s.size ∧ s.data.toList.head? = some 48) := fun h' => h (.inr (.inr h'))
    refine cnumber_loop s w (by omega) ?_ h0 ?_
    · unfold numO
      by_cases ha : s.data.toList.all digC = false
      · rw [if_pos (.inr (.inr (.inr ha))), if_pos ha]
      · rw [if_neg ha, if_neg]
        rintro (h' | h' | h' | h')
        · omega
        · exact h3 h'
        · exact h1 h'
        · exact ha h'
    · by_cases hs1 : s.size = 1
      · exact .inl hs1
      · refine .inr ⟨by omega, fun e => h1 ⟨by omega, ?_⟩⟩
        rw [head_is h0, e]
end Go.Proofs.YtkibgflbidkalaaGreatDoor

/- A session's words: the document's numbers, errors, rows as a text. -/
namespace Go.Proofs.YtkibgflbidkalaaGreatDoor
open Go.RowKit Go.WideShapes

theorem conv_one (w : World) (c : UInt8) : (convert 118 9 (.slice (some ⟨w.heap.size, 0, none⟩) 1 1)).run Tryz.prog (w.alloc (.cells #[.int .u8 (c.toNat : Int)] 5)) = .ok (.string ⟨#[c]⟩) (w.alloc (.cells #[.int .u8 (c.toNat : Int)] 5)) :=
  run_convert_bytes_back (P := Tryz.prog) (w.alloc (.cells #[.int .u8 (c.toNat : Int)] 5)) 118 9 5 ⟨w.heap.size, 0, none⟩ 1 [c] Tryz.underlying118 Tryz.underlying5 Tryz.underlying9 (fun j hj => by
    have hB : Blk (w.alloc (.cells #[.int .u8 (c.toNat : Int)] 5)) w.heap.size #[.int .u8 (c.toNat : Int)] 5 := Blk.new _ _ _
    match j, hj with
    | 0, _ => exact hB.cell 0
    | j + 1, hj => simp at hj)
set_option maxRecDepth 20000 in
set_option maxHeartbeats 2000000 in
theorem decimal_any (n : Nat) (w : World) (hn : n < 10) :
    Calls Tryz.prog 35 #[.int .i64 (n : Int)] w fun e w' => e = .returned (.string ⟨#[UInt8.ofNat (48 + n)]⟩) ∧ Ext w w' := by
  have hx : ∀ o, Ext w (w.alloc o) := fun o => (Ext.refl w).alloc o
  have hcv := conv_one w
  match n, hn with
  | 0, _ => have hc := hcv 48; simp at hc; clear hcv; go_enter Tryz.func35, Tryz.ntmps35; go_wp2_with fail; go_ret; exact ⟨rfl, hx _⟩
  | 1, _ => have hc := hcv 49; simp at hc; clear hcv; go_enter Tryz.func35, Tryz.ntmps35; go_wp2_with fail; go_ret; exact ⟨rfl, hx _⟩
  | 2, _ => have hc := hcv 50; simp at hc; clear hcv; go_enter Tryz.func35, Tryz.ntmps35; go_wp2_with fail; go_ret; exact ⟨rfl, hx _⟩
  | 3, _ => have hc := hcv 51; simp at hc; clear hcv; go_enter Tryz.func35, Tryz.ntmps35; go_wp2_with fail; go_ret; exact ⟨rfl, hx _⟩
  | 4, _ => have hc := hcv 52; simp at hc; clear hcv; go_enter Tryz.func35, Tryz.ntmps35; go_wp2_with fail; go_ret; exact ⟨rfl, hx _⟩
  | 5, _ => have hc := hcv 53; simp at hc; clear hcv; go_enter Tryz.func35, Tryz.ntmps35; go_wp2_with fail; go_ret; exact ⟨rfl, hx _⟩
  | 6, _ => have hc := hcv 54; simp at hc; clear hcv; go_enter Tryz.func35, Tryz.ntmps35; go_wp2_with fail; go_ret; exact ⟨rfl, hx _⟩
  | 7, _ => have hc := hcv 55; simp at hc; clear hcv; go_enter Tryz.func35, Tryz.ntmps35; go_wp2_with fail; go_ret; exact ⟨rfl, hx _⟩
  | 8, _ => have hc := hcv 56; simp at hc; clear hcv; go_enter Tryz.func35, Tryz.ntmps35; go_wp2_with fail; go_ret; exact ⟨rfl, hx _⟩
  | 9, _ => have hc := hcv 57; simp at hc; clear hcv; go_enter Tryz.func35, Tryz.ntmps35; go_wp2_with fail; go_ret; exact ⟨rfl, hx _⟩
  | n + 10, h => exact absurd h (by omega)
theorem rfaultN_any (n : Nat) (w : World) (hn : n < 10) :
    Calls Tryz.prog 13 #[.int .i64 (n : Int)] w fun e w' => e = .returned (.string (errT n)) ∧ Ext w w' := by
  have HD : Hid (Calls Tryz.prog 35 #[.int .i64 (n : Int)] w fun e w' => e = .returned (.string ⟨#[UInt8.ofNat (48 + n)]⟩) ∧ Ext w w') := decimal_any n w hn
  have hdd : (⟨#[UInt8.ofNat (48 + n)]⟩ : ByteArray).size ≤ 10 := by show (1 : Nat) ≤ 10; decide
  have HE : Hid ((⟨#[101, 114, 114, 111, 114, 32]⟩ ++ ⟨#[UInt8.ofNat (48 + n)]⟩ : ByteArray) = errT n) := by apply ba_eq; simp [errT]
  generalize (⟨#[UInt8.ofNat (48 + n)]⟩ : ByteArray) = dd at *
  go_enter Tryz.func13, Tryz.ntmps13
  go_wp2_with (go_at_call 35; refine HD.out.mono ?_; rintro e w1 ⟨rfl, hx1⟩)
  go_ret
  exact ⟨by first | rfl | (rw [← HE.out]; rfl), hx1⟩
set_option maxRecDepth 20000 in
set_option maxHeartbeats 2000000 in
theorem natural_any (s : ByteArray) (w : World) (hs : s.size ≤ 1000) :
    Calls Tryz.prog 19 #[.string s, .int .i64 999] w fun e w' => e = .returned (.int .i64 (natI s)) ∧ w = w' := by
  by_cases h0 : s.size = 0
  · have hr : natI s = -1 := by unfold natI; rw [if_pos (.inl h0)]
    rw [hr]
    have h1 : (s.size : Int) < 1 := by omega
    go_enter Tryz.func19, Tryz.ntmps19
    go_wp2_with fail
    go_ret
    exact ⟨rfl, rfl⟩
  have hl1 : ¬ (s.size : Int) < 1 := by omega
  by_cases h9 : 9 < s.size
  · have hr : natI s = -1 := by unfold natI; rw [if_pos (.inr (.inl h9))]
    rw [hr]
    have h1 : (9 : Int) < (s.size : Int) := by omega
    go_enter Tryz.func19, Tryz.ntmps19
    go_wp2_with fail
    go_ret
    exact ⟨rfl, rfl⟩
  have hl9 : ¬ (9 : Int) < (s.size : Int) := by omega
  have h0' : 0 < s.size := by omega
  have h01 : (0 : Int) < (s.size : Int) := by omega
  by_cases hz1 : s[0] = 48 ∧ 1 < s.size
  · obtain ⟨hz, h1⟩ := hz1
    have hz' : ((s[0].toNat : Int) == 48) = true := by rw [hz]; rfl
    have hr : natI s = -1 := by unfold natI; rw [if_pos (.inr (.inr (.inl ⟨h1, by rw [head_is h0', hz]⟩)))]
    rw [hr]
    have h11 : (1 : Int) < (s.size : Int) := by omega
    clear hz
    go_enter Tryz.func19, Tryz.ntmps19
    go_wp2_with fail
    go_ret
    exact ⟨rfl, rfl⟩
  have HN : Hid (s.data.toList.all digC = false → natI s = -1) := fun h => by unfold natI; rw [if_pos (.inr (.inr (.inr h)))]
  have HY : Hid (s.data.toList.all digC = true → natI s = if 999 < valL s.data.toList then (-1 : Int) else ((valL s.data.toList : Nat) : Int)) := fun h => by
    unfold natI
    rw [if_neg]
    rintro (h' | h' | h' | h')
    · exact h0 h'
    · exact h9 h'
    · obtain ⟨h1, h2⟩ := h'
      rw [head_is h0'] at h2
      exact hz1 ⟨Option.some.inj h2, h1⟩
    · rw [h] at h'; cases h'
  generalize natI s = res at *
  have hgo : (((s[0].toNat : Int) == 48) = true ∧ ¬ (1 : Int) < (s.size : Int)) ∨ ((s[0].toNat : Int) == 48) = false := by
    by_cases hz : s[0] = 48
    · refine .inl ⟨by rw [hz]; rfl, ?_⟩
      have : ¬ 1 < s.size := fun h => hz1 ⟨hz, h⟩
      omega
    · refine .inr ?_
      rw [beq_eq_false_iff_ne]
      intro e
      refine hz (UInt8.toNat_inj.1 ?_)
      show s[0].toNat = 48
      exact Int.ofNat_inj.1 e
  clear hz1 h0 h9
  rcases hgo with ⟨g1, g2⟩ | g1
  all_goals
    go_enter Tryz.func19, Tryz.ntmps19
    go_wp2_with fail
    go_loop [5, 6] (fun n i => ∃ k : Nat, k ≤ s.size ∧ i = .int .i64 k ∧ n = .int .i64 (valL (s.data.toList.take k) : Nat) ∧ Hid ((s.data.toList.take k).all digC = true)) (fun _ i => s.size - (intOf i).toNat)
    case atStart => exact ⟨0, Nat.zero_le _, rfl, rfl, rfl⟩
    case round =>
      obtain ⟨k, hk, rfl, rfl, ha⟩ := hrel
      have hv := val_take hk ha.out
      have hv9 : valL (s.data.toList.take k) < 1000000000 := Nat.lt_of_lt_of_le hv (Nat.pow_le_pow_right (n := 10) (by decide) (show k ≤ 9 by omega))
      clear hv
      by_cases hlt : k < s.size
      · have HT : Hid (valL (s.data.toList.take (k + 1)) = 10 * valL (s.data.toList.take k) + (s[k].toNat - 48)) := by rw [Hid, take_byteP s k hlt, valL_snoc]
        cases hc : digC s[k] with
        | false =>
          have hn := HN.out (dig_stop hlt hc)
          subst hn
          have hc' : (s[k].toNat : Int) < 48 ∨ 57 < (s[k].toNat : Int) := by unfold digC at hc; simp at hc; omega
          clear hc HT ha HY HN
          generalize valL (s.data.toList.take k) = q at *
          rcases hc' with h1 | h1
          all_goals
            go_wp2_with fail
            go_ret
            exact ⟨rfl, rfl⟩
        | true =>
          have HA : Hid ((s.data.toList.take (k + 1)).all digC = true) := by rw [Hid, take_byteP s k hlt, List.all_append, ha.out]; simp [hc]
          have h1 : (48 : Int) ≤ (s[k].toNat : Int) := by unfold digC at hc; simp at hc; omega
          have h2 : (s[k].toNat : Int) ≤ 57 := by unfold digC at hc; simp at hc; omega
          have HS : Hid (((valL (s.data.toList.take (k + 1)) : Nat) : Int) = 10 * ((valL (s.data.toList.take k) : Nat) : Int) + ((s[k].toNat : Int) - 48)) := by rw [Hid, HT.out]; omega
          clear hc HT ha
          generalize valL (s.data.toList.take k) = q at *
          go_wp2_with fail
          go_round
          case rel => exact ⟨k + 1, by omega, by go_num, by rw [HS.out], HA⟩
          case measure => simp [intOf]; omega
      · rw [List.take_of_length_le (by rw [← Lib.size_eq]; omega)] at ha hv9 ⊢
        have hy := HY.out ha.out
        clear ha HN HY
        by_cases hb : (999 : Int) < (valL s.data.toList : Nat)
        · have hy' : res = -1 := by rw [hy, if_pos (by omega)]
          subst hy'
          clear hy
          go_wp2_with fail
          go_ret
          exact ⟨rfl, rfl⟩
        · have hy' : res = (valL s.data.toList : Nat) := by rw [hy, if_neg (by omega)]
          subst hy'
          clear hy
          go_wp2_with fail
          go_ret
          exact ⟨rfl, rfl⟩
def rowE (e : Ent) : ByteArray := e.key ++ ⟨#[61]⟩ ++ e.val
def rowsT (R : List Ent) : ByteArray := match R with
  | [] => ⟨#[45]⟩
  | _ => ⟨(Lib.join ((R.map rowE).map (·.data.toList)) [32]).toArray⟩
def linesT (R : List Ent) : ByteArray := ⟨(Lib.join ((R.map rowE).map (·.data.toList)) [32]).toArray⟩
theorem linesT_nil : linesT [] = ⟨#[]⟩ := rfl
theorem linesT_first (R : List Ent) (e : Ent) (h : R[0]? = some e) : linesT (R.take (0 + 1)) = linesT (R.take 0) ++ rowE e := by
  apply ba_eq
  have e0 : R.take (0 + 1) = [e] := by
    cases R with
    | nil => simp at h
    | cons a r => simp at h; subst h; rfl
  rw [e0]
  show (Lib.join (([e].map rowE).map (·.data.toList)) [32]).toArray.toList = _
  rw [List.map_cons, List.map_nil, List.map_cons, List.map_nil, Lib.join_one]
  simp [linesT, Lib.join]
theorem linesT_next (R : List Ent) (k : Nat) (e : Ent) (hk : 0 < k) (h : R[k]? = some e) : linesT (R.take (k + 1)) = linesT (R.take k) ++ ⟨#[32]⟩ ++ rowE e := by
  have hl := (List.getElem?_eq_some_iff.1 h).1
  have hwl : (((R.take k).map rowE).map (·.data.toList)).length = k := by simp; omega
  apply ba_eq
  have e0 : R.take (k + 1) = R.take k ++ [e] := by rw [List.take_add_one, h]; rfl
  rw [e0]
  unfold linesT
  rw [List.map_append, List.map_append]
  simp only [List.map_cons, List.map_nil]
  rw [join_snoc _ _ (fun hh => by rw [hh] at hwl; simp at hwl; omega)]
  simp
theorem linesT_size {R : List Ent} (h : ∀ e ∈ R, e.key.size ≤ 8 ∧ e.val.size ≤ 16) (k : Nat) : (linesT (R.take k)).size ≤ 26 * k := by
  induction k with
  | zero => show (0 : Nat) ≤ _; omega
  | succ k ih =>
    cases hk : R[k]? with
    | none =>
      have : R.take (k + 1) = R.take k := by rw [List.take_add_one, hk]; simp
      rw [this]; omega
    | some e =>
      have he := h e (List.mem_of_getElem? hk)
      have hr : (rowE e).size ≤ 25 := by unfold rowE; rw [ba_size_app, ba_size_app]; have : (⟨#[61]⟩ : ByteArray).size = 1 := rfl; omega
      cases k with
      | zero =>
        rw [linesT_first R e hk, ba_size_app]
        have : (linesT (R.take 0)).size = 0 := rfl
        omega
      | succ j =>
        rw [linesT_next R (j + 1) e (by omega) hk, ba_size_app, ba_size_app]
        have : (⟨#[32]⟩ : ByteArray).size = 1 := rfl
        omega
theorem rowsT_some {R : List Ent} (h : R ≠ []) : rowsT R = linesT R := by
  cases R with
  | nil => exact absurd rfl h
  | cons a r => rfl
theorem linesT_ne {R : List Ent} (h : R ≠ []) : (linesT R).toList.isEmpty = false := by
  rw [List.isEmpty_eq_false_iff]
  intro e
  rw [ByteArray.toList_eq] at e
  cases R with
  | nil => exact h rfl
  | cons a r =>
    have h1 : (61 : UInt8) ∈ (linesT (a :: r)).data.toList := by
      show (61 : UInt8) ∈ (Lib.join (((a :: r).map rowE).map (·.data.toList)) [32]).toArray.toList
      rw [List.map_cons, List.map_cons, Lib.join_cons]
      simp [rowE]
    rw [e] at h1
    cases h1
set_option maxRecDepth 20000 in
set_option maxHeartbeats 4000000 in
theorem rtold_any (ao : Option Addr) (cap : Nat) (R : List Ent) (w : World) (hl : R.length ≤ 40) (hR : EntsAt w ao R) (hs : ∀ e ∈ R, e.key.size ≤ 8 ∧ e.val.size ≤ 16) :
    Calls Tryz.prog 17 #[.slice ao R.length cap] w fun e w' => e = .returned (.string (rowsT R)) ∧ Ext w w' := by
  have HSZ : Hid (∀ k, (linesT (R.take k)).size ≤ 26 * k) := linesT_size hs
  have HES : Hid (∀ e ∈ R, e.key.size ≤ 8 ∧ e.val.size ≤ 16) := hs
  clear hs
  go_enter Tryz.func17, Tryz.ntmps17
  go_wp2_with fail
  go_loopw [3, 4] (fun t i wr => ∃ (k q : Nat), k ≤ R.length ∧ i = .int .i64 k ∧ t = .string (linesT (R.take k)) ∧ wr = w.drewN q) (fun _ i _ => R.length - (intOf i).toNat)
  case atStart => exact ⟨0, 0, Nat.zero_le _, rfl, rfl, rfl⟩
  case round =>
    obtain ⟨k, q, hk, rfl, rfl, rfl⟩ := hrel
    by_cases hlt : k < R.length
    · obtain ⟨b, off, key, val, gone, rfl, he, h1, h2, h3⟩ := hR.get hlt
      have hz := HSZ.out k
      obtain ⟨hk8, hv16⟩ := HES.out _ (List.mem_of_getElem? he)
      dsimp only at hk8 hv16
      have hkl : (k : Int) < (R.length : Int) := by omega
      by_cases hk0 : k = 0
      · have HL : Hid (linesT (R.take (k + 1)) = linesT (R.take k) ++ key ++ ⟨#[61]⟩ ++ val) := by
          rw [Hid]
          rw [hk0] at he ⊢
          rw [linesT_first R _ he]
          apply ba_eq; simp [rowE]
        have hk1 : ¬ (0 : Int) < (k : Int) := by omega
        clear he hR HSZ HES h3 hk0
        generalize linesT (R.take k) = T at *
        go_wp2
        go_quiet (fail)
        go_wp2
        go_roundw
        case rel => exact ⟨k + 1, _, by omega, by go_num, by rw [HL.out], rfl⟩
        case measure => simp [intOf]; omega
      · have hk1 : (0 : Int) < (k : Int) := by omega
        have HL : Hid (linesT (R.take (k + 1)) = linesT (R.take k) ++ ⟨#[32]⟩ ++ key ++ ⟨#[61]⟩ ++ val) := by
          rw [Hid, linesT_next R k _ (by omega) he]
          apply ba_eq; simp [rowE]
        clear he hR HSZ HES h3
        generalize linesT (R.take k) = T at *
        go_wp2
        go_quiet (fail)
        go_wp2
        go_roundw
        case rel => exact ⟨k + 1, _, by omega, by go_num, by rw [HL.out], rfl⟩
        case measure => simp [intOf]; omega
    · clear hR HSZ HES
      rw [List.take_of_length_le (by omega)]
      by_cases hne : R = []
      · subst hne
        rw [linesT_nil]
        go_wp2
        go_ret
        exact ⟨rfl, (Ext.refl _).drewN _⟩
      · have h1 := linesT_ne hne
        have h2 : Hid (rowsT R = linesT R) := rowsT_some hne
        generalize linesT R = T at *
        go_wp2
        go_ret
        exact ⟨by rw [h2.out]; rfl, (Ext.refl _).drewN _⟩
end Go.Proofs.YtkibgflbidkalaaGreatDoor
