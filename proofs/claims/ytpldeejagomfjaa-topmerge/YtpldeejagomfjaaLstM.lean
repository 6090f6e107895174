
/- Lists of entries that rise: to get, to put, to put together. -/
import Derived.Test.YtpldeejagomfjaaEntL
import Derived.Lib.Strings
namespace Go.Proofs.Ytpldeejagomfjaa
open Go.RowKit

theorem bytesLess_dec : ∀ (x y : List UInt8), Op.bytesLess x y = decide (x < y)
  | [], [] => by simp [Op.bytesLess]
  | _ :: _, [] => by simp [Op.bytesLess]
  | [], _ :: _ => by simp [Op.bytesLess]
  | a :: x, b :: y => by
    rw [Op.bytesLess, bytesLess_dec x y]
    simp only [List.cons_lt_cons_iff]
    by_cases h1 : a < b <;> by_cases h2 : a = b <;> by_cases h3 : x < y <;> simp [h1, h2, h3]
/-- Key a lies below key b. -/
def Lt (a b : ByteArray) : Prop := Op.bytesLess a.toList b.toList = true
instance (a b : ByteArray) : Decidable (Lt a b) := by unfold Lt; infer_instance
theorem toList_inj {a b : ByteArray} (h : a.toList = b.toList) : a = b := by
  rw [Lib.toList_data, Lib.toList_data] at h
  apply ByteArray.ext; exact Array.toList_inj.1 h
theorem Lt.iff (a b : ByteArray) : Lt a b ↔ a.toList < b.toList := by unfold Lt; rw [bytesLess_dec]; simp
theorem Lt.irrefl (a : ByteArray) : ¬ Lt a a := by rw [Lt.iff]; exact List.lt_irrefl _
theorem Lt.trans {a b c : ByteArray} (h : Lt a b) (k : Lt b c) : Lt a c := by rw [Lt.iff] at *; exact List.lt_trans h k
theorem Lt.ne {a b : ByteArray} (h : Lt a b) : a ≠ b := fun e => Lt.irrefl b (e ▸ h)
theorem Lt.asymm {a b : ByteArray} (h : Lt a b) : ¬ Lt b a := fun k => Lt.irrefl a (h.trans k)
theorem Lt.tri (a b : ByteArray) : Lt a b ∨ a = b ∨ Lt b a := by
  by_cases h : Lt a b
  · exact .inl h
  · by_cases k : Lt b a
    · exact .inr (.inr k)
    · rw [Lt.iff] at h k
      exact .inr (.inl (toList_inj (List.le_antisymm (List.not_lt.1 k) (List.not_lt.1 h))))
theorem Lt.less {a b : ByteArray} (h : Lt a b) : Op.bytesLess a.toList b.toList = true := h
theorem Lt.nless {a b : ByteArray} (h : ¬ Lt a b) : Op.bytesLess a.toList b.toList = false := by unfold Lt at h; simpa using h
theorem beq_ne {a b : ByteArray} (h : a ≠ b) : (a.toList == b.toList) = false := by
  rw [beq_eq_false_iff_ne]; exact fun e => h (toList_inj e)

/-- Entries that rise. -/
def Ris (l : List Ent) : Prop := l.Pairwise (fun a b => Lt a.key b.key)
/-- The entry of a key. -/
def getE (l : List Ent) (k : ByteArray) : Option Ent := l.find? (fun e => decide (e.key = k))
/-- An entry is put among others. -/
def putE : List Ent → Ent → List Ent
  | [], e => [e]
  | x :: r, e => if Lt x.key e.key then x :: putE r e else if x.key = e.key then e :: r else e :: x :: r

theorem Ris.nil : Ris [] := List.Pairwise.nil
theorem Ris.tail {x : Ent} {r : List Ent} (h : Ris (x :: r)) : Ris r := (List.pairwise_cons.1 h).2
theorem Ris.head {x : Ent} {r : List Ent} (h : Ris (x :: r)) : ∀ y ∈ r, Lt x.key y.key := (List.pairwise_cons.1 h).1
theorem Ris.cons {x : Ent} {r : List Ent} (h : Ris r) (k : ∀ y ∈ r, Lt x.key y.key) : Ris (x :: r) := List.pairwise_cons.2 ⟨k, h⟩

theorem getE_nil (k : ByteArray) : getE [] k = none := rfl
theorem getE_cons (x : Ent) (r : List Ent) (k : ByteArray) : getE (x :: r) k = if x.key = k then some x else getE r k := by
  unfold getE; rw [List.find?_cons]; by_cases h : x.key = k <;> simp [h]
theorem getE_mem {l : List Ent} {k : ByteArray} {e : Ent} (h : getE l k = some e) : e ∈ l ∧ e.key = k := by
  have h1 := List.find?_some h
  simp at h1
  exact ⟨List.mem_of_find?_eq_some h, h1⟩
theorem getE_none {l : List Ent} {k : ByteArray} (h : ∀ e ∈ l, e.key ≠ k) : getE l k = none := by
  unfold getE; rw [List.find?_eq_none]; intro e he; simpa using h e he
theorem getE_of_mem {l : List Ent} (hr : Ris l) {e : Ent} (h : e ∈ l) : getE l e.key = some e := by
  induction l with
  | nil => simp at h
  | cons x r ih =>
    rw [getE_cons]
    rcases List.mem_cons.1 h with rfl | h
    · simp
    · rw [if_neg (hr.head e h).ne, ih hr.tail h]
/-- Lists that rise are one where they have the same of each key. -/
theorem ris_ext : ∀ (l m : List Ent), Ris l → Ris m → (∀ k, getE l k = getE m k) → l = m
  | [], [], _, _, _ => rfl
  | [], y :: r, _, _, h => by have := h y.key; rw [getE_cons, if_pos rfl] at this; simp [getE_nil] at this
  | x :: l, [], _, _, h => by have := h x.key; rw [getE_cons, if_pos rfl] at this; simp [getE_nil] at this
  | x :: l, y :: m, hl, hm, h => by
    have hxy : x.key = y.key := by
      rcases Lt.tri x.key y.key with h1 | h1 | h1
      · have hx := h x.key
        rw [getE_cons, if_pos rfl, getE_cons, if_neg h1.ne.symm, getE_none (fun e he => (Lt.trans h1 (hm.head e he)).ne.symm)] at hx
        simp at hx
      · exact h1
      · have hx := h y.key
        rw [getE_cons y, if_pos rfl, getE_cons, if_neg h1.ne.symm, getE_none (fun e he => (Lt.trans h1 (hl.head e he)).ne.symm)] at hx
        simp at hx
    have hx := h x.key
    rw [getE_cons, if_pos rfl, getE_cons, if_pos hxy.symm] at hx
    obtain rfl : x = y := by simpa using hx
    rw [ris_ext l m hl.tail hm.tail]
    intro k
    by_cases hk : x.key = k
    · subst hk
      rw [getE_none (fun e he => (hl.head e he).ne.symm), getE_none (fun e he => (hm.head e he).ne.symm)]
    · have := h k
      rwa [getE_cons, if_neg hk, getE_cons, if_neg hk] at this

theorem putE_mem {l : List Ent} {e y : Ent} (h : y ∈ putE l e) : y = e ∨ y ∈ l := by
  induction l with
  | nil => simp [putE] at h; exact .inl h
  | cons x r ih =>
    unfold putE at h
    split at h
    · rcases List.mem_cons.1 h with rfl | h
      · exact .inr (by simp)
      · rcases ih h with h | h
        · exact .inl h
        · exact .inr (by simp [h])
    · split at h
      · rcases List.mem_cons.1 h with rfl | h
        · exact .inl rfl
        · exact .inr (by simp [h])
      · rcases List.mem_cons.1 h with rfl | h
        · exact .inl rfl
        · exact .inr h
theorem Ris.put {l : List Ent} (h : Ris l) (e : Ent) : Ris (putE l e) := by
  induction l with
  | nil => exact Ris.nil.cons (by simp)
  | cons x r ih =>
    unfold putE
    split
    · rename_i hx
      refine (ih h.tail).cons fun y hy => ?_
      rcases putE_mem hy with rfl | hy
      · exact hx
      · exact h.head y hy
    · rename_i hx
      split
      · rename_i hk
        exact h.tail.cons fun y hy => hk ▸ h.head y hy
      · rename_i hk
        have : Lt e.key x.key := by
          rcases Lt.tri x.key e.key with h1 | h1 | h1
          · exact absurd h1 hx
          · exact absurd h1 hk
          · exact h1
        refine h.cons fun y hy => ?_
        rcases List.mem_cons.1 hy with rfl | hy
        · exact this
        · exact this.trans (h.head y hy)
theorem getE_put {l : List Ent} (h : Ris l) (e : Ent) (k : ByteArray) : getE (putE l e) k = if e.key = k then some e else getE l k := by
  induction l with
  | nil => unfold putE; rw [getE_cons]
  | cons x r ih =>
    unfold putE
    by_cases h1 : Lt x.key e.key
    · rw [if_pos h1, getE_cons, ih h.tail, getE_cons]
      by_cases hk : e.key = k
      · subst hk; rw [if_neg h1.ne, if_pos rfl, if_pos rfl]
      · rw [if_neg hk, if_neg hk]
    · rw [if_neg h1]
      by_cases h2 : x.key = e.key
      · rw [if_pos h2, getE_cons, getE_cons, h2]
        by_cases hk : e.key = k
        · rw [if_pos hk, if_pos hk]
        · rw [if_neg hk, if_neg hk, if_neg hk]
      · rw [if_neg h2, getE_cons]

/-- Two lists are put together: the first one's counts. -/
def twoE : List Ent → List Ent → List Ent
  | [], b => b
  | x :: a, [] => x :: a
  | x :: a, y :: b => if Lt y.key x.key then y :: twoE (x :: a) b else x :: twoE a ((y :: b).dropWhile (fun e => decide (e.key = x.key)))
termination_by a b => a.length + b.length
decreasing_by all_goals (first | (simp; done) | (have := (List.dropWhile_suffix (l := y :: b) (fun e => decide (e.key = x.key))).length_le; simp only [List.length_cons] at *; omega))

theorem Ris.drop {p : Ent → Bool} {l : List Ent} (h : Ris l) : Ris (l.dropWhile p) := List.Pairwise.sublist (List.dropWhile_suffix p).sublist h
theorem drop_eq {x y : Ent} {b : List Ent} (hb : Ris (y :: b)) (h : ¬ Lt y.key x.key) : (∀ e ∈ (y :: b).dropWhile (fun e => decide (e.key = x.key)), Lt x.key e.key) ∧ ∀ k, x.key ≠ k → getE ((y :: b).dropWhile (fun e => decide (e.key = x.key))) k = getE (y :: b) k := by
  by_cases hk : y.key = x.key
  · have hd : (y :: b).dropWhile (fun e => decide (e.key = x.key)) = b := by
      rw [List.dropWhile_cons, if_pos (by simpa using hk)]
      cases b with
      | nil => rfl
      | cons z r =>
        rw [List.dropWhile_cons, if_neg]
        have := hb.head z (by simp)
        rw [hk] at this
        simpa using this.ne.symm
    rw [hd]
    exact ⟨fun e he => hk ▸ hb.head e he, fun k hne => by rw [getE_cons, hk, if_neg hne]⟩
  · have hd : (y :: b).dropWhile (fun e => decide (e.key = x.key)) = y :: b := by
      rw [List.dropWhile_cons, if_neg (by simpa using hk)]
    rw [hd]
    have hxy : Lt x.key y.key := by
      rcases Lt.tri x.key y.key with h1 | h1 | h1
      · exact h1
      · exact absurd h1.symm hk
      · exact absurd h1 h
    refine ⟨fun e he => ?_, fun _ _ => rfl⟩
    rcases List.mem_cons.1 he with rfl | he
    · exact hxy
    · exact hxy.trans (hb.head e he)

theorem twoE_mem : ∀ (a b : List Ent) (e : Ent), e ∈ twoE a b → e ∈ a ∨ e ∈ b
  | [], b, e, h => .inr (by unfold twoE at h; exact h)
  | x :: a, [], e, h => .inl (by unfold twoE at h; exact h)
  | x :: a, y :: b, e, h => by
    unfold twoE at h
    split at h
    · rcases List.mem_cons.1 h with rfl | h
      · exact .inr (by simp)
      · rcases twoE_mem (x :: a) b e h with h | h
        · exact .inl h
        · exact .inr (by simp [h])
    · rcases List.mem_cons.1 h with rfl | h
      · exact .inl (by simp)
      · rcases twoE_mem a _ e h with h | h
        · exact .inl (by simp [h])
        · exact .inr ((List.dropWhile_suffix _).subset h)
termination_by a b => a.length + b.length
decreasing_by all_goals (first | (simp; done) | (have := (List.dropWhile_suffix (l := y :: b) (fun e => decide (e.key = x.key))).length_le; simp only [List.length_cons] at *; omega))

theorem Ris.two : ∀ (a b : List Ent), Ris a → Ris b → Ris (twoE a b)
  | [], b, _, hb => by unfold twoE; exact hb
  | x :: a, [], ha, _ => by unfold twoE; exact ha
  | x :: a, y :: b, ha, hb => by
    unfold twoE
    split
    · rename_i h
      refine (Ris.two (x :: a) b ha hb.tail).cons fun e he => ?_
      rcases twoE_mem _ _ _ he with he | he
      · rcases List.mem_cons.1 he with rfl | he
        · exact h
        · exact h.trans (ha.head e he)
      · exact hb.head e he
    · rename_i h
      refine (Ris.two a _ ha.tail hb.drop).cons fun e he => ?_
      rcases twoE_mem _ _ _ he with he | he
      · exact ha.head e he
      · exact (drop_eq hb h).1 e he
termination_by a b => a.length + b.length
decreasing_by all_goals (first | (simp; done) | (have := (List.dropWhile_suffix (l := y :: b) (fun e => decide (e.key = x.key))).length_le; simp only [List.length_cons] at *; omega))

theorem getE_two : ∀ (a b : List Ent), Ris a → Ris b → ∀ k, getE (twoE a b) k = (getE a k).or (getE b k)
  | [], b, _, _, k => by unfold twoE; simp [getE_nil]
  | x :: a, [], _, _, k => by unfold twoE; simp [getE_nil]
  | x :: a, y :: b, ha, hb, k => by
    unfold twoE
    split
    · rename_i h
      rw [getE_cons, getE_two (x :: a) b ha hb.tail k, getE_cons y b]
      by_cases hk : y.key = k
      · subst hk
        rw [if_pos rfl, if_pos rfl, getE_none]
        · rfl
        · intro e he
          rcases List.mem_cons.1 he with rfl | he
          · exact h.ne.symm
          · exact (h.trans (ha.head e he)).ne.symm
      · rw [if_neg hk, if_neg hk]
    · rename_i h
      rw [getE_cons, getE_two a _ ha.tail hb.drop k, getE_cons x a]
      by_cases hk : x.key = k
      · rw [if_pos hk, if_pos hk]; rfl
      · rw [if_neg hk, if_neg hk, (drop_eq hb h).2 k hk]
termination_by a b => a.length + b.length
decreasing_by all_goals (first | (simp; done) | (have := (List.dropWhile_suffix (l := y :: b) (fun e => decide (e.key = x.key))).length_le; simp only [List.length_cons] at *; omega))

/-- Many are put, one behind the other. -/
def putsE (l : List Ent) (es : List Ent) : List Ent := es.foldl putE l
theorem Ris.puts {l : List Ent} (h : Ris l) (es : List Ent) : Ris (putsE l es) := by
  induction es generalizing l with
  | nil => exact h
  | cons x r ih => exact ih (h.put x)
theorem getE_puts {es : List Ent} (hes : Ris es) {l : List Ent} (h : Ris l) (k : ByteArray) : getE (putsE l es) k = (getE es k).or (getE l k) := by
  induction es generalizing l with
  | nil => simp [putsE, getE_nil]
  | cons x r ih =>
    show getE (putsE (putE l x) r) k = _
    rw [ih hes.tail (h.put x), getE_put h, getE_cons]
    by_cases hk : x.key = k
    · subst hk
      rw [if_pos rfl, if_pos rfl, getE_none (fun e he => (hes.head e he).ne.symm)]; rfl
    · rw [if_neg hk, if_neg hk]
theorem puts_two {a b : List Ent} (ha : Ris a) (hb : Ris b) : putsE b a = twoE a b :=
  ris_ext _ _ (hb.puts a) (Ris.two a b ha hb) fun k => by rw [getE_puts ha hb, getE_two a b ha hb]
/-- All are put together, the first one's count. -/
def allE : List (List Ent) → List Ent
  | [] => []
  | a :: r => putsE (allE r) a
theorem Ris.all : ∀ (ls : List (List Ent)), Ris (allE ls)
  | [] => Ris.nil
  | a :: r => (Ris.all r).puts a
theorem allE_app {a b : List (List Ent)} (ha : ∀ l ∈ a, Ris l) : allE (a ++ b) = twoE (allE a) (allE b) := by
  induction a with
  | nil => simp only [List.nil_append, allE]; unfold twoE; rfl
  | cons x r ih =>
    have hx := ha x (by simp)
    have hr := ih fun l hl => ha l (by simp [hl])
    simp only [List.cons_append, allE]
    apply ris_ext _ _ ((Ris.all _).puts x) (Ris.two _ _ ((Ris.all _).puts x) (Ris.all _))
    intro k
    rw [getE_puts hx (Ris.all _), hr, getE_two _ _ (Ris.all _) (Ris.all _), getE_two _ _ ((Ris.all _).puts x) (Ris.all _), getE_puts hx (Ris.all _), Option.or_assoc]
theorem allE_one {a : List Ent} (ha : Ris a) : allE [a] = a :=
  ris_ext _ _ (Ris.all _) ha fun k => by
    show getE (putsE [] a) k = _
    rw [getE_puts ha Ris.nil, getE_nil]; simp
theorem two_assoc {a b c : List Ent} (ha : Ris a) (hb : Ris b) (hc : Ris c) : twoE (twoE a b) c = twoE a (twoE b c) :=
  ris_ext _ _ (Ris.two _ _ (Ris.two _ _ ha hb) hc) (Ris.two _ _ ha (Ris.two _ _ hb hc)) fun k => by
    rw [getE_two _ _ (Ris.two _ _ ha hb) hc, getE_two _ _ ha hb, getE_two _ _ ha (Ris.two _ _ hb hc), getE_two _ _ hb hc, Option.or_assoc]
theorem two_self {a : List Ent} (ha : Ris a) : twoE a a = a :=
  ris_ext _ _ (Ris.two _ _ ha ha) ha fun k => by rw [getE_two _ _ ha ha]; simp
theorem two_nil (a : List Ent) : twoE a [] = a := by cases a <;> (unfold twoE; rfl)
theorem nil_two (a : List Ent) : twoE [] a = a := by unfold twoE; rfl
theorem two_length : ∀ (a b : List Ent), (twoE a b).length ≤ a.length + b.length
  | [], b => by unfold twoE; simp
  | x :: a, [] => by unfold twoE; simp
  | x :: a, y :: b => by
    unfold twoE
    split
    · have := two_length (x :: a) b; simp at *; omega
    · have h1 := two_length a ((y :: b).dropWhile (fun e => decide (e.key = x.key)))
      have h2 := (List.dropWhile_suffix (l := y :: b) (fun e => decide (e.key = x.key))).length_le
      simp at *; omega
termination_by a b => a.length + b.length
decreasing_by all_goals (first | (simp; done) | (have := (List.dropWhile_suffix (l := y :: b) (fun e => decide (e.key = x.key))).length_le; simp only [List.length_cons] at *; omega))
def liveE (l : List Ent) : List Ent := l.filter (fun e => !e.gone)
end Go.Proofs.Ytpldeejagomfjaa
