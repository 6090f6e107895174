/- BatC. -/
import Derived.Test.YthndopokabceiaaDoorBatBJ

/- Changes as a text: plain words: texts cut at blanks, words cut at the sign. -/
namespace Go.Proofs.YthndopokabceiaaDoor
open Go.RowKit Go.WideShapes

theorem idx_none (c : UInt8) : ∀ (s : List UInt8), c ∉ s → Lib.index s [c] = -1
  | [], _ => rfl
  | b :: l, h => by
    simp only [List.mem_cons, not_or] at h
    unfold Lib.index
    rw [idx_none c l h.2, if_neg (by simp [List.isPrefixOf, h.1])]
    rfl
theorem idx_some (c : UInt8) : ∀ (x r : List UInt8), c ∉ x → Lib.index (x ++ c :: r) [c] = x.length
  | [], r, _ => by simp [Lib.index, List.isPrefixOf]
  | b :: l, r, h => by
    simp only [List.mem_cons, not_or] at h
    have ih := idx_some c l r h.2
    rw [List.cons_append]
    unfold Lib.index
    rw [ih, if_neg (by simp [List.isPrefixOf, h.1]), if_neg (by rw [beq_iff_eq]; omega)]
    simp
/-- A text is all free of a sign, or is cut at the first one. -/
theorem first_sign (c : UInt8) : ∀ (s : List UInt8), c ∉ s ∨ ∃ x r, s = x ++ c :: r ∧ c ∉ x
  | [] => .inl (by simp)
  | b :: l => by
    by_cases hb : b = c
    · exact .inr ⟨[], l, by simp [hb], by simp⟩
    · rcases first_sign c l with h | ⟨x, r, h1, h2⟩
      · exact .inl (by simp [h, Ne.symm hb])
      · exact .inr ⟨b :: x, r, by simp [h1], by simp [h2, Ne.symm hb]⟩
/-- A text, cut at all blanks. -/
def splitL : List UInt8 → List (List UInt8)
  | [] => [[]]
  | c :: r => if c = 32 then [] :: splitL r else match splitL r with
    | [] => [[c]]
    | x :: xs => (c :: x) :: xs
theorem splitL_none : ∀ (s : List UInt8), (32 : UInt8) ∉ s → splitL s = [s]
  | [], _ => rfl
  | b :: l, h => by
    simp only [List.mem_cons, not_or] at h
    unfold splitL
    rw [if_neg (Ne.symm h.1), splitL_none l h.2]
theorem splitL_some : ∀ (x r : List UInt8), (32 : UInt8) ∉ x → splitL (x ++ 32 :: r) = x :: splitL r
  | [], r, _ => by simp [splitL]
  | b :: l, r, h => by
    simp only [List.mem_cons, not_or] at h
    rw [List.cons_append]
    conv => lhs; unfold splitL
    rw [if_neg (Ne.symm h.1), splitL_some l r h.2]
theorem splitL_ne (s : List UInt8) : splitL s ≠ [] := by
  rcases first_sign 32 s with h | ⟨x, r, rfl, h⟩
  · rw [splitL_none s h]; simp
  · rw [splitL_some x r h]; simp
theorem splitL_len : ∀ (s : List UInt8), (splitL s).length ≤ s.length + 1
  | [] => by simp [splitL]
  | b :: l => by
    have ih := splitL_len l
    unfold splitL
    split
    · simp; omega
    · split
      · simp
      · rename_i h; rw [h] at ih; simp at ih ⊢; omega
theorem splitK_L : ∀ (k : Nat) (s : List UInt8), (Lib.splitK [32] 0 k s).length = min (k + 1) (splitL s).length ∧ ((splitL s).length ≤ k + 1 → Lib.splitK [32] 0 k s = splitL s)
  | 0, s => by
    have h1 := List.length_pos_iff.2 (splitL_ne s)
    refine ⟨by simp [Lib.splitK]; omega, fun h => ?_⟩
    rcases first_sign 32 s with hh | ⟨x, r, rfl, hh⟩
    · rw [splitL_none s hh]; rfl
    · rw [splitL_some x r hh, List.length_cons] at h
      have := List.length_pos_iff.2 (splitL_ne r)
      omega
  | k + 1, s => by
    rcases first_sign 32 s with hh | ⟨x, r, rfl, hh⟩
    · have e : Lib.splitK [32] 0 (k + 1) s = [s] := by
        unfold Lib.splitK; rw [idx_none 32 s hh, if_pos (by rfl)]
      rw [e, splitL_none s hh]
      exact ⟨by simp, fun _ => rfl⟩
    · have e : Lib.splitK [32] 0 (k + 1) (x ++ 32 :: r) = x :: Lib.splitK [32] 0 k r := by
        rw [Lib.splitK, idx_some 32 x r hh, if_neg (by rw [beq_iff_eq]; omega)]
        have e1 : ((x.length : Int)).toNat = x.length := by omega
        rw [e1]
        have e2 : (x ++ 32 :: r).take (x.length + 0) = x := by simp
        have e3 : (x ++ 32 :: r).drop (x.length + [(32 : UInt8)].length) = r := by
          rw [show x ++ 32 :: r = (x ++ [32]) ++ r by simp, List.drop_append_of_le_length (by simp)]
          simp
        rw [e2, e3]
      obtain ⟨i1, i2⟩ := splitK_L k r
      rw [e, splitL_some x r hh]
      refine ⟨by simp only [List.length_cons, i1]; omega, fun h => ?_⟩
      rw [i2 (by simp at h; omega)]
/-- A text cut at blanks is what was joined by blanks. -/
theorem splitL_join : ∀ (ws : List (List UInt8)), ws ≠ [] → (∀ x ∈ ws, (32 : UInt8) ∉ x) → splitL (Lib.join ws [32]) = ws
  | [], h, _ => absurd rfl h
  | [x], _, h => by rw [Lib.join_one, splitL_none x (h x (by simp))]
  | x :: y :: r, _, h => by
    have ih := splitL_join (y :: r) (by simp) (fun z hz => h z (by simp [List.mem_cons.1 hz]))
    have e : Lib.join (x :: y :: r) [32] = x ++ 32 :: Lib.join (y :: r) [32] := by
      rw [Lib.join_cons, Lib.join_cons]
      simp [Lib.joinTail]
    rw [e, splitL_some x _ (h x (by simp)), ih]
/-- The words of a text. -/
def wordsL (s : ByteArray) : List ByteArray := (splitL s.data.toList).map fun l => ⟨l.toArray⟩
/-- The changes of a text. -/
def chgsE (s : ByteArray) : List Ent := (wordsL s).map changeE
/-- What Parse answers. -/
def parseE (s : ByteArray) : Option (List Ent) := if (textT (chgsE s)).2 = 0 then some (chgsE s) else none
theorem ba_eq {a b : ByteArray} (h : a.data.toList = b.data.toList) : a = b := by
  cases a; cases b; simp at h; rw [h]
theorem map_ba_eq {l : List ByteArray} {m : List (List UInt8)} (h : l.map (·.data.toList) = m) : l = m.map fun x => ⟨x.toArray⟩ := by
  subst h
  rw [List.map_map]
  conv => lhs; rw [← List.map_id l]
  exact List.map_congr_left fun a _ => by simp
/-- Changes of the words that SplitN answers: where they may be, they are the text's. -/
theorem splitB_words (s : ByteArray) (n : Nat) (hn : n = min 5 (s.size + 1) - 1) : ((Lib.splitB ⟨#[32]⟩ 0 n s).length ≤ 4 → Lib.splitB ⟨#[32]⟩ 0 n s = wordsL s) ∧ (4 < (Lib.splitB ⟨#[32]⟩ 0 n s).length → 4 < (wordsL s).length) := by
  have hd := Lib.splitB_data ⟨#[32]⟩ 0 n s
  have hl : (Lib.splitB ⟨#[32]⟩ 0 n s).length = (Lib.splitK [32] 0 n s.data.toList).length := by
    rw [show ([32] : List UInt8) = (⟨#[32]⟩ : ByteArray).data.toList from rfl, ← hd, List.length_map]
  obtain ⟨k1, k2⟩ := splitK_L n s.data.toList
  have k3 := splitL_len s.data.toList
  have hs : s.data.toList.length = s.size := by rw [Lib.size_eq]
  have hw : (wordsL s).length = (splitL s.data.toList).length := by simp [wordsL]
  rw [hl, hw, k1]
  refine ⟨fun h => ?_, fun h => by omega⟩
  rw [map_ba_eq hd]
  unfold wordsL
  show (Lib.splitK [32] 0 n s.data.toList).map _ = _
  rw [k2 (by omega)]
theorem splitB_size (s : ByteArray) : ∀ (n : Nat) (x : ByteArray), x ∈ Lib.splitB ⟨#[32]⟩ 0 n s → x.size ≤ s.size := by
  intro n
  induction n generalizing s with
  | zero => intro x hx; simp [Lib.splitB] at hx; subst hx; exact Nat.le_refl _
  | succ n ih =>
    intro x hx
    unfold Lib.splitB at hx
    split at hx
    · simp at hx; subst hx; exact Nat.le_refl _
    · rcases List.mem_cons.1 hx with rfl | hx
      · simp; omega
      · have := ih _ x hx
        simp at this; omega
theorem textT_many (es : List Ent) (h : es.length = 0 ∨ 4 < es.length) : (textT es).2 = 2 := by unfold textT; rw [if_pos h]
/-- The changes that Parse holds. -/
theorem parse_words (s : ByteArray) (n : Nat) (hn : n = min 5 (s.size + 1) - 1) : ((textT ((Lib.splitB ⟨#[32]⟩ 0 n s).map changeE)).2 = 0 → parseE s = some ((Lib.splitB ⟨#[32]⟩ 0 n s).map changeE)) ∧ (¬ (textT ((Lib.splitB ⟨#[32]⟩ 0 n s).map changeE)).2 = 0 → parseE s = none) := by
  obtain ⟨h1, h2⟩ := splitB_words s n hn
  by_cases hl : (Lib.splitB ⟨#[32]⟩ 0 n s).length ≤ 4
  · have e : (Lib.splitB ⟨#[32]⟩ 0 n s).map changeE = chgsE s := by rw [h1 hl]; rfl
    rw [e]
    unfold parseE
    exact ⟨fun h => by rw [if_pos h], fun h => by rw [if_neg h]⟩
  · have h3 := textT_many ((Lib.splitB ⟨#[32]⟩ 0 n s).map changeE) (.inr (by simp; omega))
    have h4 := textT_many (chgsE s) (.inr (by have := h2 (by omega); simp [chgsE]; omega))
    rw [h3]
    unfold parseE
    rw [h4]
    exact ⟨fun h => absurd h (by decide), fun _ => if_neg (by decide)⟩
theorem plainS_free {s : ByteArray} (h : plainS s = true) : (32 : UInt8) ∉ s.data.toList ∧ (61 : UInt8) ∉ s.data.toList := by
  unfold plainS at h
  rw [List.all_eq_true] at h
  exact ⟨fun hm => absurd (h _ hm) (by decide), fun hm => absurd (h _ hm) (by decide)⟩
theorem checkC_plain {k v : ByteArray} {g : Bool} (h : checkC k v g = 0) : faultB k v g = 0 ∧ plainS k = true ∧ plainS v = true := by
  unfold checkC at h
  by_cases hf : faultB k v g = 0
  · rw [if_neg (by simp [hf])] at h
    split at h
    · rename_i hp; simp at hp; exact ⟨hf, hp.1, hp.2⟩
    · cases h
  · rw [if_pos hf] at h; exact absurd h hf
theorem toL_nil {v : ByteArray} (h : v.toList = []) : v = ⟨#[]⟩ := by
  apply ba_eq
  rw [ByteArray.toList_eq] at h
  simpa using h
/-- The change of a change's word. -/
theorem change_word {e : Ent} (h : checkC e.key e.val e.gone = 0) : changeE (wordE e.key e.val e.gone) = e := by
  obtain ⟨k, v, g⟩ := e
  dsimp only at h ⊢
  obtain ⟨hf, hk, hv⟩ := checkC_plain h
  have hk1 := (plainS_free hk).2
  cases g with
  | true =>
    have hv0 : v = ⟨#[]⟩ := by
      unfold faultB at hf
      split at hf
      · cases hf
      · rename_i hh
        simp at hh
        exact toL_nil hh.2
    subst hv0
    have e1 : Lib.cut k.data.toList [61] = (k.data.toList, [], false) := by
      unfold Lib.cut; rw [idx_none 61 _ hk1, if_neg (by decide)]
    unfold changeE cutE wordE
    simp only [if_true, e1]
    rfl
  | false =>
    have e0 : (k ++ ⟨#[61]⟩ ++ v).data.toList = k.data.toList ++ 61 :: v.data.toList := by simp
    have e1 : Lib.cut (k.data.toList ++ 61 :: v.data.toList) [61] = (k.data.toList, v.data.toList, true) := by
      unfold Lib.cut
      rw [idx_some 61 _ _ hk1, if_pos (by omega)]
      have e1 : ((k.data.toList.length : Int)).toNat = k.data.toList.length := by omega
      rw [e1]
      have e2 : (k.data.toList ++ 61 :: v.data.toList).take k.data.toList.length = k.data.toList := by simp
      have e3 : (k.data.toList ++ 61 :: v.data.toList).drop (k.data.toList.length + [(61 : UInt8)].length) = v.data.toList := by
        rw [show k.data.toList ++ 61 :: v.data.toList = (k.data.toList ++ [61]) ++ v.data.toList by simp, List.drop_append_of_le_length (by simp)]
        simp
      rw [e2, e3]
    unfold changeE cutE wordE
    simp only [Bool.false_eq_true, if_false, e0, e1]
    rfl
theorem textS_ok : ∀ {es : List Ent}, textS es = 0 → ∀ e ∈ es, checkC e.key e.val e.gone = 0
  | [], _, e, he => by cases he
  | a :: es, h, e, he => by
    unfold textS at h
    by_cases ha : checkC a.key a.val a.gone = 0
    · rw [if_neg (by simp [ha])] at h
      rcases List.mem_cons.1 he with rfl | he
      · exact ha
      · exact textS_ok h e he
    · rw [if_pos ha] at h; exact absurd h ha
/-- What is written is read. -/
theorem parse_text (es : List Ent) (h : (textT es).2 = 0) : parseE (textT es).1 = some es := by
  have hn : ¬ (es.length = 0 ∨ 4 < es.length) := fun hh => by rw [textT_many es hh] at h; cases h
  have hs : textS es = 0 := by
    unfold textT at h
    rw [if_neg hn] at h
    by_cases hz : textS es = 0
    · exact hz
    · rw [if_pos hz] at h; exact absurd h hz
  have e1 : textT es = (joinE es, 0) := by unfold textT; rw [if_neg hn, if_neg (by simp [hs])]
  have hok := textS_ok hs
  have hw : wordsL (joinE es) = wordsE es := by
    unfold wordsL joinE
    show (splitL (Lib.join ((wordsE es).map (·.data.toList)) [32]).toArray.toList).map _ = _
    rw [List.toList_toArray, splitL_join]
    · rw [← map_ba_eq rfl]
    · intro hh
      have : es.length = 0 := by simpa [wordsE] using congrArg List.length hh
      omega
    · intro x hx
      obtain ⟨y, hy, rfl⟩ := List.mem_map.1 hx
      obtain ⟨e, he, rfl⟩ := List.mem_map.1 hy
      obtain ⟨_, hk, hv⟩ := checkC_plain (hok e he)
      have hk2 := (plainS_free hk).1
      have hv2 := (plainS_free hv).1
      unfold wordE
      split
      · exact hk2
      · have e0 : (e.key ++ ⟨#[61]⟩ ++ e.val).data.toList = e.key.data.toList ++ 61 :: e.val.data.toList := by simp
        rw [e0]
        simp [hk2, hv2]
  have hc : chgsE (joinE es) = es := by
    unfold chgsE
    rw [hw]
    unfold wordsE
    rw [List.map_map]
    conv => rhs; rw [← List.map_id es]
    exact List.map_congr_left fun e he => change_word (hok e he)
  rw [e1]
  unfold parseE
  dsimp only
  rw [hc, e1, if_pos rfl]
end Go.Proofs.YthndopokabceiaaDoor
