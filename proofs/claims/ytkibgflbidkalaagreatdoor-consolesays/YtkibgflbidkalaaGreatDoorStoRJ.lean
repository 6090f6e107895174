/- StoR. -/
import Derived.Test.YtkibgflbidkalaaGreatDoorStoNJ
import Derived.Test.YtkibgflbidkalaaGreatDoorMrgBJ

/- Rows in plain words: what lists that are put together have of a key; parts of a list; what a store holds. -/
namespace Go.Proofs.YtkibgflbidkalaaGreatDoor
open Go.RowKit

theorem Ris.live {l : List Ent} (h : Ris l) : Ris (liveE l) := List.Pairwise.sublist List.filter_sublist h
theorem getE_app (a b : List Ent) (k : ByteArray) : getE (a ++ b) k = (getE a k).or (getE b k) := by
  unfold getE; rw [List.find?_append]
def liveO : Option Ent → Option Ent
  | some e => if e.gone = true then none else some e
  | none => none
theorem getE_live {l : List Ent} (h : Ris l) (k : ByteArray) : getE (liveE l) k = liveO (getE l k) := by
  induction l with
  | nil => rfl
  | cons x r ih =>
    have ih := ih h.tail
    unfold liveE at ih ⊢
    rw [List.filter_cons, getE_cons]
    by_cases hk : x.key = k
    · rw [if_pos hk]
      cases hg : x.gone with
      | false =>
        simp only [Bool.not_false, if_true]
        rw [getE_cons, if_pos hk]
        show some x = if x.gone = true then none else some x
        rw [if_neg (by simp [hg])]
      | true =>
        simp only [Bool.not_true, if_neg (by simp : ¬ false = true)]
        rw [ih, getE_none (l := r) (fun e he => by rw [← hk]; exact (h.head e he).ne.symm)]
        show none = if x.gone = true then none else some x
        rw [if_pos hg]
    · rw [if_neg hk]
      cases hg : x.gone with
      | false => simp only [Bool.not_false, if_true]; rw [getE_cons, if_neg hk, ih]
      | true => simp only [Bool.not_true, if_neg (by simp : ¬ false = true)]; exact ih
theorem getE_all {ls : List (List Ent)} (h : ∀ l ∈ ls, Ris l) (k : ByteArray) : getE (allE ls) k = getE ls.flatten k := by
  induction ls with
  | nil => rfl
  | cons a r ih =>
    have ih := ih fun l hl => h l (List.mem_cons_of_mem _ hl)
    show getE (putsE (allE r) a) k = _
    rw [getE_puts (h a (by simp)) (Ris.all r), ih, List.flatten_cons, getE_app]
def lastK (es : List Ent) (k : ByteArray) : Option Ent := es.reverse.find? (fun e => decide (e.key = k))
theorem getE_putsL : ∀ (es : List Ent) {l : List Ent}, Ris l → ∀ k, getE (putsE l es) k = (lastK es k).or (getE l k)
  | [], l, _, k => by simp [putsE, lastK]
  | x :: r, l, h, k => by
    show getE (putsE (putE l x) r) k = _
    rw [getE_putsL r (h.put x) k, getE_put h]
    unfold lastK
    rw [List.reverse_cons, List.find?_append]
    cases hh : r.reverse.find? (fun e => decide (e.key = k)) with
    | some y => simp
    | none =>
      by_cases hk : x.key = k
      · simp [hk]
      · simp [hk]
theorem puts_mem : ∀ (es l : List Ent) (e : Ent), e ∈ putsE l es → e ∈ es ∨ e ∈ l
  | [], l, e, h => .inr h
  | x :: r, l, e, h => by
    rcases puts_mem r (putE l x) e h with h' | h'
    · exact .inl (List.mem_cons_of_mem _ h')
    · rcases putE_mem h' with rfl | h'
      · exact .inl (by simp)
      · exact .inr h'
theorem live_ext {l m : List Ent} (hl : Ris l) (hm : Ris m) (h : ∀ k, liveO (getE l k) = liveO (getE m k)) : liveE l = liveE m :=
  ris_ext _ _ hl.live hm.live fun k => by rw [getE_live hl, getE_live hm, h k]

structure Tb where
  b : Nat
  es : List Ent
def tabsE (N : List Tb) : List (List Ent) := N.map Tb.es
def rowsE (hand : List Ent) (N O : List Tb) : List Ent := liveE (allE (hand :: (tabsE N ++ tabsE O)))
def tabRows (N O : List Tb) : List Ent := liveE (allE (tabsE N ++ tabsE O))
theorem rowsE_ris (hand : List Ent) (N O : List Tb) : Ris (rowsE hand N O) := (Ris.all _).live
theorem tabRows_ris (N O : List Tb) : Ris (tabRows N O) := (Ris.all _).live

theorem partsE_flat (n : Nat) (hn : 1 ≤ n) (es : List Ent) : (partsE n es).flatten = es := by
  unfold partsE
  rw [parts_flat, List.take_of_length_le]
  unfold partsN
  have := Nat.div_add_mod (es.length + n - 1) n
  have h2 := Nat.mod_lt (es.length + n - 1) (show 0 < n by omega)
  have : (es.length + n - 1) / n * n = n * ((es.length + n - 1) / n) := Nat.mul_comm _ _
  omega
theorem partsE_len (n : Nat) (es : List Ent) : (partsE n es).length = partsN n es.length := by simp [partsE]
theorem partsE_ris {n : Nat} {es : List Ent} (h : Ris es) : ∀ p ∈ partsE n es, Ris p := fun p hp => by
  obtain ⟨k, _, rfl⟩ := List.mem_map.1 hp
  exact part_ris h k
theorem tabS_of : ∀ (es : List Ent) (p : Option Ent), (∀ e ∈ es, faultE e = 0) → Ris es → (∀ q, p = some q → ∀ e ∈ es, Lt q.key e.key) → tabS p es = 0
  | [], _, _, _, _ => rfl
  | x :: r, p, hf, hr, hp => by
    unfold tabS
    have h0 : faultB x.key x.val x.gone = 0 := hf x (by simp)
    have hn : notUp p x = false := by
      unfold notUp
      cases p with
      | none => rfl
      | some q =>
        have hlt := hp q rfl x (by simp)
        simp only [Bool.or_eq_false_iff]
        exact ⟨hlt.asymm |> Lt.nless, beq_ne hlt.ne.symm⟩
    rw [if_neg (by simp [h0]), hn]
    simp only [Bool.false_eq_true, if_false]
    exact tabS_of r (some x) (fun e he => hf e (List.mem_cons_of_mem _ he)) hr.tail (fun q hq e he => by cases hq; exact hr.head e he)
theorem partsE_ok {es : List Ent} (hf : ∀ e ∈ es, faultE e = 0) (hr : Ris es) : ∀ p ∈ partsE 14 es, tabF p = 0 := fun p hp => by
  obtain ⟨k, hk, rfl⟩ := List.mem_map.1 hp
  have hk' := List.mem_range.1 hk
  have hl : (partE 14 es k).length = min 14 (es.length - k * 14) := partE_len 14 es k
  have h1 : 0 < (partE 14 es k).length := by
    rw [hl]
    unfold partsN at hk'
    omega
  unfold tabF
  rw [if_neg (by omega)]
  exact tabS_of _ none (fun e he => hf e (part_mem he)) (part_ris hr k) (fun q hq => by cases hq)
theorem getE_parts {es : List Ent} (hr : Ris es) (k : ByteArray) : getE (allE (partsE 14 es)) k = getE es k := by
  rw [getE_all (partsE_ris hr), partsE_flat 14 (by omega)]

def logPg : Option (List Ent) → Pg
  | some l => .whole (padD (txt (encT l)))
  | none => .torn
def logHand (h : List Ent) : Option (List Ent) → List Ent
  | some l => putsE h l
  | none => h
structure LogAt (M : CM) (g : Nat) (hand : List Ent) : Prop where
  ex : ∃ bs : List (Option (List Ent)), M.pg g = bs.map logPg ∧ bs.length ≤ 8 ∧ (∀ l, some l ∈ bs → l.length ≤ 4 ∧ (∀ e ∈ l, faultE e = 0) ∧ (encT l).length ≤ 64) ∧ hand = bs.foldl logHand []
theorem logHand_ok : ∀ (bs : List (Option (List Ent))) (h : List Ent), Ris h → (∀ e ∈ h, faultE e = 0) → (∀ l, some l ∈ bs → l.length ≤ 4 ∧ (∀ e ∈ l, faultE e = 0)) →
    Ris (bs.foldl logHand h) ∧ (∀ e ∈ bs.foldl logHand h, faultE e = 0) ∧ (bs.foldl logHand h).length ≤ h.length + 4 * bs.length
  | [], h, hr, hf, _ => ⟨hr, hf, by simp⟩
  | o :: bs, h, hr, hf, hb => by
    have key : Ris (logHand h o) ∧ (∀ e ∈ logHand h o, faultE e = 0) ∧ (logHand h o).length ≤ h.length + 4 := by
      cases o with
      | none => exact ⟨hr, hf, by show h.length ≤ h.length + 4; omega⟩
      | some l =>
        obtain ⟨h4, hl⟩ := hb l (by simp)
        refine ⟨hr.puts l, fun e he => ?_, ?_⟩
        · rcases puts_mem l h e he with h' | h'
          · exact hl e h'
          · exact hf e h'
        · have := puts_len h l
          show (putsE h l).length ≤ _
          omega
    obtain ⟨k1, k2, k3⟩ := key
    obtain ⟨i1, i2, i3⟩ := logHand_ok bs (logHand h o) k1 k2 (fun l hl => hb l (List.mem_cons_of_mem _ hl))
    refine ⟨i1, i2, ?_⟩
    show (bs.foldl logHand (logHand h o)).length ≤ _
    simp only [List.length_cons]; omega
theorem LogAt.ris {M : CM} {g : Nat} {hand : List Ent} (h : LogAt M g hand) : Ris hand ∧ (∀ e ∈ hand, faultE e = 0) ∧ hand.length ≤ 32 := by
  obtain ⟨bs, _, h8, hb, rfl⟩ := h.ex
  obtain ⟨h1, h2, h3⟩ := logHand_ok bs [] Ris.nil (by simp) (fun l hl => ⟨(hb l hl).1, (hb l hl).2.1⟩)
  refine ⟨h1, h2, ?_⟩
  simp at h3; omega
theorem LogAt.blank {M : CM} {g : Nat} (h : M.pg g = []) : LogAt M g [] := ⟨[], by simpa using h, by simp, by simp, rfl⟩
theorem LogAt.same {M M' : CM} {g : Nat} {hand : List Ent} (h : LogAt M g hand) (e : M'.pg g = M.pg g) : LogAt M' g hand := by
  obtain ⟨bs, h1, h2⟩ := h.ex
  exact ⟨bs, by rw [e]; exact h1, h2⟩
theorem LogAt.snoc {M M' : CM} {g : Nat} {hand l : List Ent} (h : LogAt M g hand) (hl : (M.pg g).length < 8) (e : M'.pg g = M.pg g ++ [.whole (padD (txt (encT l)))]) (h4 : l.length ≤ 4) (hf : ∀ e ∈ l, faultE e = 0) (h64 : (encT l).length ≤ 64) : LogAt M' g (putsE hand l) := by
  obtain ⟨bs, h1, h2, h3, rfl⟩ := h.ex
  refine ⟨bs ++ [some l], by rw [e, h1]; simp [logPg], by rw [h1] at hl; simp at hl ⊢; omega, fun x hx => ?_, by simp [logHand]⟩
  rcases List.mem_append.1 hx with hx | hx
  · exact h3 x hx
  · simp at hx; subst hx; exact ⟨h4, hf, h64⟩
theorem LogAt.torn {M M' : CM} {g : Nat} {hand : List Ent} (h : LogAt M g hand) (hl : (M.pg g).length < 8) (e : M'.pg g = M.pg g ++ [.torn]) : LogAt M' g hand := by
  obtain ⟨bs, h1, h2, h3, rfl⟩ := h.ex
  refine ⟨bs ++ [none], by rw [e, h1]; simp [logPg], by rw [h1] at hl; simp at hl ⊢; omega, fun x hx => ?_, by simp [logHand]⟩
  rcases List.mem_append.1 hx with hx | hx
  · exact h3 x hx
  · simp at hx

structure Inv (n : Nat) (M : CM) (m : Man) (a : Nat) (hand : List Ent) (N O : List Tb) : Prop where
  nst : Nst M a (some m)
  ok : manFault m = 0
  ep : m.ep ≤ n
  wr : ∀ b, M.wr b ≤ n
  nw : m.nw = N.map (fun x => (x.b : Int))
  od : m.od = O.map (fun x => (x.b : Int))
  tn : ∀ x ∈ N, TabAt M x.b x.es
  told : ∀ x ∈ O, TabAt M x.b x.es
  lg : ∃ g : Nat, m.lg = (g : Int) ∧ LogAt M g hand
  ris : Ris (tabsE O).flatten
  live : ∀ e ∈ (tabsE O).flatten, e.gone = false
  few : N.length ≤ 5
  few' : O.length ≤ 3
  rows : (rowsE hand N O).length ≤ 40
  trows : (tabRows N O).length ≤ 40
  bw : ∀ b, M.bd b = true → M.wk b = true
  wk : wkN M.wk ≤ 6
end Go.Proofs.YtkibgflbidkalaaGreatDoor
