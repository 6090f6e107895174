/- BatF. -/
import Derived.Test.YthndopokabceiaaDoorBatEJ
import Derived.BigRegion

/- Changes as a text: the document's texts, and changes of them. -/
namespace Go.Proofs.YthndopokabceiaaDoor
open Go.RowKit Go.WideShapes

theorem join_snoc (ws : List (List UInt8)) (x : List UInt8) (h : ws ≠ []) : Lib.join (ws ++ [x]) [32] = Lib.join ws [32] ++ 32 :: x := by
  cases ws with
  | nil => exact absurd rfl h
  | cons y r =>
    rw [List.cons_append, Lib.join_cons, Lib.join_cons]
    simp [Lib.joinTail, List.append_assoc]
theorem joinE_data (es : List Ent) : (joinE es).data.toList = Lib.join ((wordsE es).map (·.data.toList)) [32] := by
  unfold joinE; simp
theorem joinE_first (es : List Ent) (e : Ent) (h : es[0]? = some e) : joinE (es.take (0 + 1)) = joinE (es.take 0) ++ wordE e.key e.val e.gone := by
  apply ba_eq
  rw [joinE_data, wordsE_take es 0 e h]
  have e0 : joinE (es.take 0) = ⟨#[]⟩ := rfl
  rw [e0]
  simp [wordsE, Lib.join_one]
theorem joinE_next (es : List Ent) (k : Nat) (e : Ent) (hk : 0 < k) (h : es[k]? = some e) : joinE (es.take (k + 1)) = joinE (es.take k) ++ ⟨#[32]⟩ ++ wordE e.key e.val e.gone := by
  have hl := (List.getElem?_eq_some_iff.1 h).1
  have hwl : ((wordsE (es.take k)).map (·.data.toList)).length = k := by simp [wordsE]; omega
  apply ba_eq
  rw [joinE_data, wordsE_take es k e h, List.map_append, List.map_cons, List.map_nil, join_snoc _ _ (fun hh => by rw [hh] at hwl; simp at hwl; omega)]
  simp [joinE_data]
theorem wordE_gone (k v : ByteArray) (T : ByteArray) : T ++ wordE k v true = T ++ k := rfl
theorem wordE_here (k v : ByteArray) (T : ByteArray) : T ++ wordE k v false = T ++ k ++ ⟨#[61]⟩ ++ v := by
  apply ba_eq
  simp [wordE]
theorem ba_size_app (a b : ByteArray) : (a ++ b).size = a.size + b.size := by simp
set_option maxRecDepth 20000 in
set_option maxHeartbeats 8000000 in
theorem rtext_any (ao : Option Addr) (cap : Nat) (es : List Ent) (w : World) (hl : es.length ≤ 9223372036854775807) (hes : EntsAt w ao es) (hsm : Small es) :
    Calls Tryd.prog 24 #[.slice ao es.length cap] w fun e w' => e = .returned (.tuple #[.string (textT es).1, .int .i64 (textT es).2]) ∧ Ext w w' := by
  by_cases hn : es.length = 0 ∨ 4 < es.length
  · have HF : Hid (textT es = (⟨#[]⟩, 2)) := by unfold textT Hid; rw [if_pos hn]
    rw [HF.out]
    clear hes
    rcases hn with h0 | h0
    · have h0' : (es.length : Int) < 1 := by omega
      go_enter Tryd.func24, Tryd.ntmps24
      go_wp2
      go_ret2
      exact ⟨rfl, Ext.refl _⟩
    · have h0' : ¬ (es.length : Int) < 1 := by omega
      have h1' : (4 : Int) < (es.length : Int) := by omega
      go_enter Tryd.func24, Tryd.ntmps24
      go_wp2
      go_ret2
      exact ⟨rfl, Ext.refl _⟩
  · have h0' : ¬ (es.length : Int) < 1 := by omega
    have h1' : ¬ (4 : Int) < (es.length : Int) := by omega
    have hll : es.length ≤ 4 := by omega
    have HF : Hid (textT es = if ¬ textS es = 0 then (⟨#[]⟩, textS es) else (joinE es, 0)) := by unfold textT Hid; rw [if_neg hn]
    clear hn
    go_enter Tryd.func24, Tryd.ntmps24
    go_wp2_with fail
    go_loopw [4, 5] (fun t i wr => ∃ (k : Nat) (T : ByteArray), k ≤ es.length ∧ i = .int .i64 k ∧ t = .string T ∧ T = joinE (es.take k) ∧ T.size ≤ 100 * k ∧ textS es = textS (es.drop k) ∧ Ext w wr) (fun _ i _ => es.length - (intOf i).toNat)
    case atStart => exact ⟨0, ⟨#[]⟩, Nat.zero_le _, rfl, rfl, rfl, Nat.zero_le _, rfl, Ext.refl _⟩
    case round =>
      obtain ⟨k, T, hk, rfl, rfl, hT, hTs, hsc, hx⟩ := hrel
      by_cases hlt : k < es.length
      · obtain ⟨b, off, ek, ev, eg, rfl, he, h1, h2, h3⟩ := hes.get hlt
        have hst := textS_step es k ⟨ek, ev, eg⟩ he
        dsimp only at hst
        rw [hst] at hsc
        have g1 := hx.cell h1
        have g2 := hx.cell h2
        have g3 := hx.cell h3
        have hs2 := hsm _ (List.mem_of_getElem? he)
        dsimp only at hs2
        have hbl : b < wr.heap.size := by
          rcases Nat.lt_or_ge b wr.heap.size with h' | h'
          · exact h'
          · simp [World.cell?, Array.getElem?_eq_none h'] at g1
        have HPK : Hid (∀ W, Calls Tryd.prog 58 #[.string ek] W fun e w' => e = .returned (.bool (plainS ek)) ∧ w' = W) := fun W => rplain_any ek W hs2.1
        have HPV : Hid (∀ W, Calls Tryd.prog 58 #[.string ev] W fun e w' => e = .returned (.bool (plainS ev)) ∧ w' = W) := fun W => rplain_any ev W hs2.2
        have HFA : Hid (∀ W, Calls Tryd.prog 57 #[.agg #[.string ek, .string ev, .bool eg]] W fun e w' => e = .returned (.int .i64 (faultB ek ev eg)) ∧ Ext W w') := fun W => (fault_any ek ev eg W).mono fun _ w' hh => ⟨hh.1, by obtain ⟨c, rfl⟩ := hh.2; exact (Ext.refl _).alloc _⟩
        have HC : Hid (∀ W, Ext wr W → W.cell? ⟨b, off + k * 3, none⟩ = some (.string ek) ∧ W.cell? ⟨b, off + k * 3 + 1, none⟩ = some (.string ev) ∧ W.cell? ⟨b, off + k * 3 + 2, none⟩ = some (.bool eg)) := fun W hxx => ⟨hxx.cell g1, hxx.cell g2, hxx.cell g3⟩
        have HE : Hid (es[k]? = some (⟨ek, ev, eg⟩ : Ent)) := he
        clear h1 h2 h3 he hes hst hs2 hsm
        by_cases hf : faultB ek ev eg = 0
        · rw [hf] at HFA
          by_cases hp : plainS ek = true ∧ plainS ev = true
          · have hck : checkC ek ev eg = 0 := by unfold checkC; rw [if_neg (by simp [hf]), if_pos (by simp [hp.1, hp.2])]
            rw [hck, if_neg (by simp)] at hsc
            obtain ⟨hk8, hv16⟩ := checkC_ok hck
            rw [hp.1] at HPK
            rw [hp.2] at HPV
            have HSC : Hid (textS es = textS (es.drop (k + 1))) := hsc
            clear hsc hck hp hf
            by_cases hk0 : k = 0
            · have HJ : Hid (joinE (es.take (k + 1)) = T ++ wordE ek ev eg) := by rw [Hid, hT]; have h0 := HE.out; rw [hk0] at h0 ⊢; exact joinE_first es _ h0
              have hk1 : ¬ (0 : Int) < (k : Int) := by omega
              clear hk0
              clear hT HE
              have t1 : True := trivial
              cases eg with
              | true =>
                rw [wordE_gone] at HJ
                go_wp2_with (first
                  | (go_at_call 57; refine (HFA.out _).mono ?_; rintro e w2 ⟨rfl, hx2⟩; obtain ⟨c1, c2, c3⟩ := HC.out w2 hx2)
                  | (go_at_call 58; have _t := t1; refine (HPK.out _).mono ?_; rintro e w3 ⟨rfl, rfl⟩; clear t1)
                  | (go_at_call 58; refine (HPV.out _).mono ?_; rintro e w4 ⟨rfl, rfl⟩))
                go_roundw
                case rel => exact ⟨k + 1, _, by omega, by go_num, rfl, HJ.out.symm, by simp only [ba_size_app]; omega, HSC.out, hx.trans hx2⟩
                case measure => simp [intOf]; omega
              | false =>
                rw [wordE_here] at HJ
                go_wp2_with (first
                  | (go_at_call 57; refine (HFA.out _).mono ?_; rintro e w2 ⟨rfl, hx2⟩; obtain ⟨c1, c2, c3⟩ := HC.out w2 hx2)
                  | (go_at_call 58; have _t := t1; refine (HPK.out _).mono ?_; rintro e w3 ⟨rfl, rfl⟩; clear t1)
                  | (go_at_call 58; refine (HPV.out _).mono ?_; rintro e w4 ⟨rfl, rfl⟩))
                go_roundw
                case rel => exact ⟨k + 1, _, by omega, by go_num, rfl, HJ.out.symm, by simp only [ba_size_app]; have : (⟨#[61]⟩ : ByteArray).size = 1 := rfl; omega, HSC.out, hx.trans hx2⟩
                case measure => simp [intOf]; omega
            · have HJ : Hid (joinE (es.take (k + 1)) = T ++ ⟨#[32]⟩ ++ wordE ek ev eg) := by rw [Hid, hT]; exact joinE_next es k _ (by omega) HE.out
              have hk1 : (0 : Int) < (k : Int) := by omega
              clear hT HE
              have t1 : True := trivial
              cases eg with
              | true =>
                rw [wordE_gone] at HJ
                go_wp2_with (first
                  | (go_at_call 57; refine (HFA.out _).mono ?_; rintro e w2 ⟨rfl, hx2⟩; obtain ⟨c1, c2, c3⟩ := HC.out w2 hx2)
                  | (go_at_call 58; have _t := t1; refine (HPK.out _).mono ?_; rintro e w3 ⟨rfl, rfl⟩; clear t1)
                  | (go_at_call 58; refine (HPV.out _).mono ?_; rintro e w4 ⟨rfl, rfl⟩))
                go_roundw
                case rel => exact ⟨k + 1, _, by omega, by go_num, rfl, HJ.out.symm, by simp only [ba_size_app]; have : (⟨#[32]⟩ : ByteArray).size = 1 := rfl; omega, HSC.out, hx.trans hx2⟩
                case measure => simp [intOf]; omega
              | false =>
                rw [wordE_here] at HJ
                go_wp2_with (first
                  | (go_at_call 57; refine (HFA.out _).mono ?_; rintro e w2 ⟨rfl, hx2⟩; obtain ⟨c1, c2, c3⟩ := HC.out w2 hx2)
                  | (go_at_call 58; have _t := t1; refine (HPK.out _).mono ?_; rintro e w3 ⟨rfl, rfl⟩; clear t1)
                  | (go_at_call 58; refine (HPV.out _).mono ?_; rintro e w4 ⟨rfl, rfl⟩))
                go_roundw
                case rel => exact ⟨k + 1, _, by omega, by go_num, rfl, HJ.out.symm, by simp only [ba_size_app]; have : (⟨#[61]⟩ : ByteArray).size = 1 := rfl; have : (⟨#[32]⟩ : ByteArray).size = 1 := rfl; omega, HSC.out, hx.trans hx2⟩
                case measure => simp [intOf]; omega
          · have hck : checkC ek ev eg = 3 := by unfold checkC; rw [if_neg (by simp [hf]), if_neg (by simpa using hp)]
            rw [hck, if_pos (by decide)] at hsc
            have HR : Hid (textT es = (⟨#[]⟩, 3)) := by rw [Hid, HF.out, hsc, if_pos (by decide)]
            clear hsc hck hT HE hf HF
            have t1 : True := trivial
            cases hpk : plainS ek with
            | true =>
              rw [hpk] at HPK hp
              have hpv : plainS ev = false := by simpa using hp
              rw [hpv] at HPV
              clear hp hpk hpv
              go_wp2_with (first
                | (go_at_call 57; refine (HFA.out _).mono ?_; rintro e w2 ⟨rfl, hx2⟩; obtain ⟨c1, c2, c3⟩ := HC.out w2 hx2)
                | (go_at_call 58; have _t := t1; refine (HPK.out _).mono ?_; rintro e w3 ⟨rfl, rfl⟩; clear t1)
                | (go_at_call 58; refine (HPV.out _).mono ?_; rintro e w4 ⟨rfl, rfl⟩))
              go_ret2
              exact ⟨by rw [HR.out]; rfl, hx.trans hx2⟩
            | false =>
              rw [hpk] at HPK
              clear hp hpk
              generalize plainS ev = pv at *
              go_wp2_with (first
                | (go_at_call 57; refine (HFA.out _).mono ?_; rintro e w2 ⟨rfl, hx2⟩; obtain ⟨c1, c2, c3⟩ := HC.out w2 hx2)
                | (go_at_call 58; have _t := t1; refine (HPK.out _).mono ?_; rintro e w3 ⟨rfl, rfl⟩; clear t1)
                | (go_at_call 58; refine (HPV.out _).mono ?_; rintro e w4 ⟨rfl, rfl⟩))
              go_ret2
              exact ⟨by rw [HR.out]; rfl, hx.trans hx2⟩
        · have hpos : 0 < faultB ek ev eg := by rcases faultB_cases ek ev eg with h | h | h <;> omega
          have hck : checkC ek ev eg = faultB ek ev eg := by unfold checkC; rw [if_pos hf]
          rw [hck, if_pos hf] at hsc
          have HR : Hid (textT es = (⟨#[]⟩, faultB ek ev eg)) := by rw [Hid, HF.out, hsc, if_pos hf]
          clear hsc hck hT HE hf HF
          generalize faultB ek ev eg = f at *
          go_wp2_with (go_at_call 57; refine (HFA.out _).mono ?_; rintro e w2 ⟨rfl, hx2⟩)
          go_ret2
          exact ⟨by rw [HR.out]; rfl, hx.trans hx2⟩
      · have hkl : k = es.length := by omega
        subst hkl
        rw [List.drop_length] at hsc
        rw [List.take_length] at hT
        have HR : Hid (textT es = (T, 0)) := by rw [Hid, HF.out, if_neg (by rw [hsc]; simp [textS]), hT]
        clear hsc hT hes HF
        go_wp2
        go_ret2
        exact ⟨by rw [HR.out]; rfl, hx⟩
theorem chg_none {x : ByteArray} (h : (61 : UInt8) ∉ x.data.toList) : changeE x = ⟨x, ⟨#[]⟩, true⟩ := by
  unfold changeE cutE Lib.cut
  rw [idx_none 61 _ h, if_neg (by decide)]
  simp
theorem chg_cut {x : ByteArray} {j : Nat} (hj : j < x.size) (hc : x[j] = 61) (h : (61 : UInt8) ∉ x.data.toList.take j) : changeE x = ⟨x.extract 0 j, x.extract (j + 1) x.size, false⟩ := by
  have hl : x.data.toList.length = x.size := by rw [Lib.size_eq]
  have e : x.data.toList = x.data.toList.take j ++ 61 :: x.data.toList.drop (j + 1) := by
    conv => lhs; rw [← List.take_append_drop j x.data.toList]
    congr 1
    rw [List.drop_eq_getElem_cons (by omega)]
    congr 1
  have hi : Lib.index x.data.toList [61] = (j : Int) := by
    rw [e, idx_some 61 _ _ h, List.length_take]
    omega
  unfold changeE cutE Lib.cut
  rw [hi, if_pos (by omega), Int.toNat_natCast]
  simp only [Bool.not_true, Ent.mk.injEq, and_true]
  refine ⟨ba_eq ?_, ba_eq ?_⟩
  · rw [toL_take]; simp
  · rw [toL_take, List.take_of_length_le (by omega)]; simp
end Go.Proofs.YthndopokabceiaaDoor
