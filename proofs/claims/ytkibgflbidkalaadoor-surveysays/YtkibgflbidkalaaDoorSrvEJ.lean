/- SrvE. -/
import Derived.Test.YtkibgflbidkalaaDoorSrvDJ

/- What blocks are used for: how many of each kind. -/
namespace Go.Proofs.YtkibgflbidkalaaDoor
open Go.RowKit Go.WideShapes

theorem cntK_congr {g h : Nat → Int} {kd kd' : Int} : ∀ {j : Nat}, (∀ i, i < j → (g i = kd ↔ h i = kd')) → cntK g kd j = cntK h kd' j
  | 0, _ => rfl
  | j + 1, hh => by
    have ih := cntK_congr (j := j) fun i hi => hh i (by omega)
    have hj := hh j (by omega)
    unfold cntK
    rw [ih]
    by_cases h1 : g j = kd
    · rw [if_pos h1, if_pos (hj.1 h1)]
    · rw [if_neg h1, if_neg (fun e => h1 (hj.2 e))]
/-- All blocks, kind by kind. -/
theorem cntK_sum {g : Nat → Int} : ∀ {j : Nat}, (∀ i, i < j → 0 ≤ g i ∧ g i ≤ 5) → cntK g 0 j + cntK g 1 j + cntK g 2 j + cntK g 3 j + cntK g 4 j + cntK g 5 j = j
  | 0, _ => rfl
  | j + 1, hh => by
    have ih := cntK_sum (j := j) fun i hi => hh i (by omega)
    have hj := hh j (by omega)
    unfold cntK
    generalize g j = x at *
    have : x = 0 ∨ x = 1 ∨ x = 2 ∨ x = 3 ∨ x = 4 ∨ x = 5 := by omega
    rcases this with rfl | rfl | rfl | rfl | rfl | rfl <;> simp <;> omega
def inK (l : List Int) : Nat → Int := fun i => if (i : Int) ∈ l then 1 else 0
theorem inK_cons (z : Int) (l : List Int) (hz : 0 ≤ z) (hn : z ∉ l) : ∀ j : Nat, cntK (inK (z :: l)) 1 j = cntK (inK l) 1 j + if z < (j : Int) then 1 else 0
  | 0 => by unfold cntK; rw [if_neg (by omega)]
  | j + 1 => by
    have ih := inK_cons z l hz hn j
    unfold cntK
    rw [ih]
    by_cases h1 : (j : Int) = z
    · subst h1
      have e1 : inK ((j : Int) :: l) j = 1 := by simp [inK]
      have e2 : inK l j = 0 := by simp [inK, hn]
      rw [e1, e2, if_neg (by omega), if_pos (by omega), if_neg (by omega), if_pos (by omega)]
    · have e1 : inK (z :: l) j = inK l j := by simp [inK, h1]
      rw [e1]
      by_cases h2 : z < (j : Int)
      · have h3 : z < ((j + 1 : Nat) : Int) := by omega
        simp only [h2, h3, if_true]; omega
      · have h3 : ¬ z < ((j + 1 : Nat) : Int) := by omega
        simp only [h2, h3, if_false]; omega
theorem inK_all : ∀ {l : List Int}, l.Nodup → (∀ z ∈ l, 0 ≤ z ∧ z < 24) → cntK (inK l) 1 24 = l.length
  | [], _, _ => by decide
  | z :: l, hn, hl => by
    have hz := hl z (by simp)
    rw [List.nodup_cons] at hn
    rw [inK_cons z l hz.1 hn.1 24, inK_all hn.2 fun y hy => hl y (by simp [hy]), if_pos (by omega)]
    rfl
theorem cntK_mem {g : Nat → Int} {kd : Int} {l : List Int} (hn : l.Nodup) (hl : ∀ z ∈ l, 0 ≤ z ∧ z < 24) (h : ∀ i, i < 24 → (g i = kd ↔ (i : Int) ∈ l)) : cntK g kd 24 = l.length := by
  rw [← inK_all hn hl]
  exact cntK_congr fun i hi => by rw [h i hi]; unfold inK; by_cases hm : (i : Int) ∈ l <;> simp [hm]
theorem kindsF_val (m : Man) (f : Nat → Bool) (i : Nat) : kindsF m f i = if (i : Int) ∈ m.od then 4 else if (i : Int) ∈ m.nw then 3 else if (i : Int) = m.lg then 2 else if i < 2 then 1 else if f i = true then 5 else 0 := by
  unfold kindsF putK unK
  simp only [List.mem_singleton]
/-- How many blocks of each kind there are. -/
structure KindsOk (m : Man) (f : Nat → Bool) : Prop where
  sum : cntK (kindsF m f) 0 24 + cntK (kindsF m f) 1 24 + cntK (kindsF m f) 2 24 + cntK (kindsF m f) 3 24 + cntK (kindsF m f) 4 24 + cntK (kindsF m f) 5 24 = 24
  head : cntK (kindsF m f) 1 24 = 2
  log : cntK (kindsF m f) 2 24 = 1
  new : cntK (kindsF m f) 3 24 = m.nw.length
  old : cntK (kindsF m f) 4 24 = m.od.length
theorem kinds_ok (m : Man) (f : Nat → Bool) (h : manFault m = 0) : KindsOk m f := by
  obtain ⟨h1, h2⟩ := man_names h
  rw [List.nodup_cons, List.nodup_append] at h2
  obtain ⟨n1, n2, n3, n4⟩ := h2
  have hlg := h1 m.lg (by simp)
  have hnw : ∀ z ∈ m.nw, 2 ≤ z ∧ z < 24 := fun z hz => h1 z (by simp [hz])
  have hod : ∀ z ∈ m.od, 2 ≤ z ∧ z < 24 := fun z hz => h1 z (by simp [hz])
  refine ⟨cntK_sum fun i _ => ?_, ?_, ?_, ?_, ?_⟩
  · rw [kindsF_val]; repeat' split
    all_goals omega
  · rw [cntK_mem (l := [0, 1]) (by decide) (by decide)]
    · rfl
    · intro i hi
      rw [kindsF_val]
      have a1 : (i : Int) ∈ m.od → ¬ i < 2 := fun hm => by have := hod _ hm; omega
      have a2 : (i : Int) ∈ m.nw → ¬ i < 2 := fun hm => by have := hnw _ hm; omega
      by_cases b1 : (i : Int) ∈ m.od
      · have := a1 b1; simp [b1]; omega
      by_cases b2 : (i : Int) ∈ m.nw
      · have := a2 b2; simp [b1, b2]; omega
      by_cases b3 : (i : Int) = m.lg
      · have c : ¬ ((i : Int) ∈ ([0, 1] : List Int)) := by simp; omega
        rw [if_neg b1, if_neg b2, if_pos b3]
        simp only [c, iff_false]; omega
      simp only [b1, b2, b3, if_false]
      by_cases b4 : i < 2
      · simp [b4]; omega
      · have c : ¬ ((i : Int) ∈ ([0, 1] : List Int)) := by simp; omega
        simp only [b4, if_false, c, iff_false]
        split <;> omega
  · rw [cntK_mem (l := [m.lg]) (by simp) (by intro z hz; simp at hz; subst hz; omega)]
    · rfl
    · intro i hi
      rw [kindsF_val]
      by_cases b3 : (i : Int) = m.lg
      · have c1 : ¬ (i : Int) ∈ m.od := fun hm => n1 (by rw [← b3]; simp [hm])
        have c2 : ¬ (i : Int) ∈ m.nw := fun hm => n1 (by rw [← b3]; simp [hm])
        rw [if_neg c1, if_neg c2, if_pos b3]; simp [b3]
      · simp only [List.mem_singleton, b3, iff_false, if_false]
        repeat' split
        all_goals omega
  · rw [cntK_mem n2 (fun z hz => by have := hnw z hz; omega)]
    intro i hi
    rw [kindsF_val]
    by_cases b2 : (i : Int) ∈ m.nw
    · have c1 : ¬ (i : Int) ∈ m.od := fun hm => n4 _ b2 _ hm rfl
      simp [c1, b2]
    · simp only [b2, iff_false, if_false]
      repeat' split
      all_goals omega
  · rw [cntK_mem n3 (fun z hz => by have := hod z hz; omega)]
    intro i hi
    rw [kindsF_val]
    by_cases b1 : (i : Int) ∈ m.od
    · simp [b1]
    · simp only [b1, iff_false, if_false]
      repeat' split
      all_goals omega
theorem cntK_wk {g : Nat → Int} {wk : Nat → Bool} (h : ∀ i, g i = 5 → 2 ≤ i ∧ wk i = true) : cntK g 5 24 ≤ wkN wk := by
  have h0 : ∀ i, i < 2 → ¬ g i = 5 := fun i hi e => by have := (h i e).1; omega
  have hs : ∀ n, cntK g 5 (n + 2) ≤ (List.range' 2 n).countP wk := by
    intro n
    induction n with
    | zero => simp [cntK, h0 0 (by omega), h0 1 (by omega)]
    | succ n ih =>
      rw [List.range'_concat, List.countP_append]
      show cntK g 5 (n + 2) + (if g (n + 2) = 5 then 1 else 0) ≤ _
      by_cases h5 : g (n + 2) = 5
      · have := (h _ h5).2
        rw [if_pos h5]
        simp only [Nat.one_mul, List.countP_singleton, Nat.add_comm 2 n, this, if_true]
        omega
      · rw [if_neg h5]; omega
  exact hs 22
theorem kinds_free {n : Nat} {M : CM} {m : Man} {a : Nat} {x : SMem} {N O : List Tb} (hI : Inv n M m a (x.ns.map Nd.e) N O) (hn : m.nw.length ≤ 2) (ho : m.od.length ≤ 3) : 6 ≤ cntK (kindsF m M.bd) 0 24 := by
  have hk := kinds_ok m M.bd hI.ok
  have h5 : cntK (kindsF m M.bd) 5 24 ≤ wkN M.wk := cntK_wk fun i hi => by
    rw [kindsF_val] at hi
    by_cases b4 : i < 2
    · simp only [b4, if_true] at hi
      exfalso
      revert hi
      repeat' split
      all_goals omega
    · refine ⟨by omega, hI.bw i ?_⟩
      by_cases hb : M.bd i = true
      · exact hb
      · rw [if_neg b4, if_neg hb] at hi
        exfalso
        revert hi
        repeat' split
        all_goals omega
  have := hI.wk
  have := hk.sum
  have := hk.head
  have := hk.log
  have := hk.new
  have := hk.old
  omega
end Go.Proofs.YtkibgflbidkalaaDoor
