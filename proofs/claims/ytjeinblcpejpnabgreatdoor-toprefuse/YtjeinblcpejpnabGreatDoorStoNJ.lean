/- StoM StoN. -/
import Derived.Test.YtjeinblcpejpnabGreatDoorTabLJ
import Derived.Test.YtjeinblcpejpnabGreatDoorManMJ

/- A store in plain words: which blocks are free, how one is claimed, how tables are laid. -/
namespace Go.Proofs.YtjeinblcpejpnabGreatDoor
open Go.RowKit

def freeStep (M : CM) (L : List Int) (o : Option Nat) (b : Nat) : Option Nat :=
  if (b : Int) ∈ L ∨ M.bd b = true then o else match o with
    | none => some b
    | some l => if M.wr b < M.wr l then some b else some l
/-- Of k blocks, from 2 on, the free one of least wear. -/
def freeTo (M : CM) (L : List Int) : Nat → Option Nat
  | 0 => none
  | k + 1 => freeStep M L (freeTo M L k) (k + 2)
def freeS (M : CM) (L : List Int) : Option Nat := freeTo M L 22
structure FreeOk (M : CM) (L : List Int) (k b : Nat) : Prop where
  ge : 2 ≤ b
  lt : b < k + 2
  un : (b : Int) ∉ L
  bd : M.bd b = false
  least : ∀ c : Nat, 2 ≤ c → c < k + 2 → (c : Int) ∉ L → M.bd c = false → M.wr b ≤ M.wr c
theorem freeTo_is (M : CM) (L : List Int) : ∀ k, (∀ b, freeTo M L k = some b → FreeOk M L k b) ∧ (freeTo M L k = none → ∀ c : Nat, 2 ≤ c → c < k + 2 → (c : Int) ∈ L ∨ M.bd c = true)
  | 0 => ⟨fun b h => (by cases h), fun _ c h1 h2 => (by omega)⟩
  | k + 1 => by
    obtain ⟨ih1, ih2⟩ := freeTo_is M L k
    have hstep : freeTo M L (k + 1) = freeStep M L (freeTo M L k) (k + 2) := rfl
    by_cases hu : ((k + 2 : Nat) : Int) ∈ L ∨ M.bd (k + 2) = true
    · have e : freeTo M L (k + 1) = freeTo M L k := by rw [hstep]; unfold freeStep; rw [if_pos hu]
      rw [e]
      have away : ∀ c : Nat, c < k + 1 + 2 → (c : Int) ∉ L → M.bd c = false → c < k + 2 := fun c h1 h2 h3 => by
        rcases Nat.lt_or_ge c (k + 2) with h | h
        · exact h
        · obtain rfl : c = k + 2 := by omega
          rcases hu with hu | hu
          · exact absurd hu h2
          · rw [h3] at hu; cases hu
      refine ⟨fun b hb => ?_, fun hn c h1 h2 => ?_⟩
      · have := ih1 b hb
        exact ⟨this.ge, by have := this.lt; omega, this.un, this.bd, fun c h1 h2 h3 h4 => this.least c h1 (away c h2 h3 h4) h3 h4⟩
      · rcases Nat.lt_or_ge c (k + 2) with h | h
        · exact ih2 hn c h1 h
        · obtain rfl : c = k + 2 := by omega
          exact hu
    · have hu1 : ((k + 2 : Nat) : Int) ∉ L := fun h => hu (.inl h)
      have hu2 : M.bd (k + 2) = false := by
        cases h : M.bd (k + 2) with
        | true => exact absurd (.inr h) hu
        | false => rfl
      cases ho : freeTo M L k with
      | none =>
        have e : freeTo M L (k + 1) = some (k + 2) := by rw [hstep, ho]; unfold freeStep; rw [if_neg hu]
        rw [e]
        refine ⟨fun b hb => ?_, fun hn => by cases hn⟩
        simp only [Option.some.injEq] at hb
        subst hb
        refine ⟨by omega, by omega, hu1, hu2, fun c h1 h2 h3 h4 => ?_⟩
        rcases Nat.lt_or_ge c (k + 2) with h | h
        · rcases ih2 ho c h1 h with h | h
          · exact absurd h h3
          · rw [h4] at h; cases h
        · obtain rfl : c = k + 2 := by omega
          exact Nat.le_refl _
      | some l =>
        have hl := ih1 l ho
        by_cases hw : M.wr (k + 2) < M.wr l
        · have e : freeTo M L (k + 1) = some (k + 2) := by
            rw [hstep, ho]; unfold freeStep; rw [if_neg hu]; simp only; rw [if_pos hw]
          rw [e]
          refine ⟨fun b hb => ?_, fun hn => by cases hn⟩
          simp only [Option.some.injEq] at hb
          subst hb
          refine ⟨by omega, by omega, hu1, hu2, fun c h1 h2 h3 h4 => ?_⟩
          rcases Nat.lt_or_ge c (k + 2) with h | h
          · have := hl.least c h1 h h3 h4; omega
          · obtain rfl : c = k + 2 := by omega
            exact Nat.le_refl _
        · have e : freeTo M L (k + 1) = some l := by
            rw [hstep, ho]; unfold freeStep; rw [if_neg hu]; simp only; rw [if_neg hw]
          rw [e]
          refine ⟨fun b hb => ?_, fun hn => by cases hn⟩
          simp only [Option.some.injEq] at hb
          subst hb
          refine ⟨hl.ge, by have := hl.lt; omega, hl.un, hl.bd, fun c h1 h2 h3 h4 => ?_⟩
          rcases Nat.lt_or_ge c (k + 2) with h | h
          · exact hl.least c h1 h h3 h4
          · obtain rfl : c = k + 2 := by omega
            omega
theorem freeS_some {M : CM} {L : List Int} {b : Nat} (h : freeS M L = some b) : FreeOk M L 22 b := (freeTo_is M L 22).1 b h
theorem freeS_none {M : CM} {L : List Int} (h : freeS M L = none) : ∀ c : Nat, 2 ≤ c → c < 24 → (c : Int) ∈ L ∨ M.bd c = true := (freeTo_is M L 22).2 h

def pendB : Pend → Nat
  | .write b _ => b
  | .erase b => b
/-- Something is done in block b alone. -/
structure Stp (b : Nat) (M M' : CM) : Prop where
  pg : ∀ c, ¬ c = b → M'.pg c = M.pg c
  wk : M'.wk = M.wk
  bd : M'.bd = M.bd
  wr : ∀ c, M'.wr c ≤ M.wr c + (if c = b then 1 else 0)
  left : M.left < 0 → M'.left = M.left
  leq : ∀ n, M.left ≤ n → 0 ≤ n → M'.left ≤ n
/-- What makes a block ready: a weak one goes bad; else it is done, or the machine falls. -/
structure RdOk (rd : CM → Nat → CM × Int) (Post : CM → Nat → Prop) : Prop where
  post : ∀ M M' b, M'.pg b = M.pg b → Post M b → Post M' b
  weak : ∀ M b, M.pend = none → b < 24 → M.bd b = false → M.wk b = true → rd M b = ({ M with bd := upd M.bd b true }, 7)
  sound : ∀ M b, M.pend = none → b < 24 → M.bd b = false → M.wk b = false → Stp b M (rd M b).1 ∧
    (((rd M b).2 = 0 ∧ (rd M b).1.pend = none ∧ Post (rd M b).1 b) ∨ ((rd M b).2 = 9 ∧ ¬ M.left < 0 ∧ ∃ p, (rd M b).1.pend = some p ∧ pendB p = b))
/-- A block is claimed; which one, or what is wrong. -/
inductive Claimed (rd : CM → Nat → CM × Int) : CM → List Int → CM → List Int → Nat → Int → Prop
  | full {M : CM} {L : List Int} (h : freeS M L = none) : Claimed rd M L M L 0 8
  | got {M : CM} {L : List Int} {b : Nat} (h : freeS M L = some b) (h0 : (rd M b).2 = 0) : Claimed rd M L (rd M b).1 (L ++ [(b : Int)]) b 0
  | err {M : CM} {L : List Int} {b : Nat} (h : freeS M L = some b) (h0 : ¬ (rd M b).2 = 0) (h7 : ¬ (rd M b).2 = 7) : Claimed rd M L (rd M b).1 (L ++ [(b : Int)]) 0 (rd M b).2
  | next {M M' : CM} {L L' : List Int} {b c : Nat} {e : Int} (h : freeS M L = some b) (h7 : (rd M b).2 = 7) (hr : Claimed rd (rd M b).1 (L ++ [(b : Int)]) M' L' c e) : Claimed rd M L M' L' c e
/-- What is in use stays as it is. -/
structure Adv (L : List Int) (M : CM) (L' : List Int) (M' : CM) : Prop where
  mono : ∀ x ∈ L, x ∈ L'
  pg : ∀ b : Nat, (b : Int) ∈ L → M'.pg b = M.pg b
  low : ∀ b : Nat, b < 2 → M'.pg b = M.pg b
  wr : ∀ b : Nat, M'.wr b ≤ M.wr b + 1 ∧ ((b : Int) ∈ L ∨ (b : Int) ∉ L' → M'.wr b ≤ M.wr b)
  wk : M'.wk = M.wk
  bd : ∀ b, M.bd b = true → M'.bd b = true
  bw : ∀ b, M'.bd b = true → M.bd b = true ∨ M.wk b = true
  left : M.left < 0 → M'.left = M.left
  leq : ∀ n, M.left ≤ n → 0 ≤ n → M'.left ≤ n
theorem Adv.refl (L : List Int) (M : CM) : Adv L M L M := ⟨fun _ h => h, fun _ _ => rfl, fun _ _ => rfl, fun _ => ⟨by omega, fun _ => Nat.le_refl _⟩, rfl, fun _ h => h, fun _ h => .inl h, fun _ => rfl, fun _ h _ => h⟩
theorem Adv.trans {L L' L'' : List Int} {M M' M'' : CM} (h : Adv L M L' M') (k : Adv L' M' L'' M'') : Adv L M L'' M'' := by
  refine ⟨fun x hx => k.mono x (h.mono x hx), fun b hb => (k.pg b (h.mono _ hb)).trans (h.pg b hb), fun b hb => (k.low b hb).trans (h.low b hb), fun b => ⟨?_, fun hb => ?_⟩, k.wk.trans h.wk, fun b hb => k.bd b (h.bd b hb), fun b hb => ?_, fun hl => ?_, fun n h1 h2 => k.leq n (h.leq n h1 h2) h2⟩
  · by_cases hb : (b : Int) ∈ L'
    · have h1 := (k.wr b).2 (.inl hb); have h2 := (h.wr b).1; omega
    · have h1 := (k.wr b).1; have h2 := (h.wr b).2 (.inr hb); omega
  · rcases hb with hb | hb
    · exact Nat.le_trans ((k.wr b).2 (.inl (h.mono _ hb))) ((h.wr b).2 (.inl hb))
    · exact Nat.le_trans ((k.wr b).2 (.inr hb)) ((h.wr b).2 (.inr fun hh => hb (k.mono _ hh)))
  · rcases k.bw b hb with h' | h'
    · exact h.bw b h'
    · rw [h.wk] at h'; exact .inr h'
  · rw [k.left (by rw [h.left hl]; exact hl), h.left hl]
/-- A block that is not in use is made ready. -/
theorem Adv.step {L : List Int} {M M' : CM} {b : Nat} (h : Stp b M M') (h2 : 2 ≤ b) (hu : (b : Int) ∉ L) : Adv L M (L ++ [(b : Int)]) M' := by
  have hne : ∀ c : Nat, (c : Int) ∈ L → ¬ c = b := fun c hc e => hu (e ▸ hc)
  refine ⟨fun x hx => List.mem_append_left _ hx, fun c hc => h.pg c (hne c hc), fun c hc => h.pg c (by omega), fun c => ⟨?_, fun hc => ?_⟩, h.wk, fun c hc => by rw [h.bd]; exact hc, fun c hc => .inl (by rw [h.bd] at hc; exact hc), h.left, h.leq⟩
  · have := h.wr c; split at this <;> omega
  · have hcb : ¬ c = b := by
      rcases hc with hc | hc
      · exact hne c hc
      · intro e; subst e; exact hc (by simp)
    have := h.wr c; rw [if_neg hcb] at this; exact this
theorem Adv.weak {L : List Int} {M : CM} {b : Nat} (hw : M.wk b = true) : Adv L M (L ++ [(b : Int)]) { M with bd := upd M.bd b true } := by
  refine ⟨fun x hx => List.mem_append_left _ hx, fun _ _ => rfl, fun _ _ => rfl, fun c => ⟨Nat.le_succ _, fun _ => Nat.le_refl _⟩, rfl, fun c hc => ?_, fun c hc => ?_, fun _ => rfl, fun _ h _ => h⟩
  · show upd M.bd b true c = true
    unfold upd; split
    · rfl
    · exact hc
  · by_cases e : c = b
    · subst e; exact .inr hw
    · have : upd M.bd b true c = true := hc
      rw [upd_other _ _ _ e] at this; exact .inl this
/-- How many blocks are neither in use nor weak. -/
def goodN (wk : Nat → Bool) (L : List Int) : Nat := (List.range' 2 22).countP (fun b : Nat => !wk b && !decide ((b : Int) ∈ L))
def wkN (wk : Nat → Bool) : Nat := (List.range' 2 22).countP wk
theorem range_nodup : (List.range' 2 22).Nodup := by decide
theorem count_in (X : List Nat) (hX : X.Nodup) : ∀ L : List Int, X.countP (fun b : Nat => decide ((b : Int) ∈ L)) ≤ L.length
  | [] => by simp
  | x :: L => by
    have ih := count_in X hX L
    have h1 : X.countP (fun b : Nat => decide ((b : Int) = x)) ≤ 1 := by
      clear ih
      induction X with
      | nil => simp
      | cons y Y ihY =>
        obtain ⟨hy, hY⟩ := List.nodup_cons.1 hX
        rw [List.countP_cons]
        by_cases e : (y : Int) = x
        · have : Y.countP (fun b : Nat => decide ((b : Int) = x)) = 0 := by
            rw [List.countP_eq_zero]
            intro z hz hzx
            simp at hzx
            have : z = y := by omega
            subst this; exact hy hz
          rw [this, if_pos (by simpa using e)]; omega
        · rw [if_neg (by simpa using e)]
          exact ihY hY
    have h2 : ∀ Y : List Nat, Y.countP (fun b : Nat => decide ((b : Int) ∈ x :: L)) ≤ Y.countP (fun b : Nat => decide ((b : Int) = x)) + Y.countP (fun b : Nat => decide ((b : Int) ∈ L)) := by
      intro Y
      induction Y with
      | nil => simp
      | cons y Y ihY =>
        simp only [List.countP_cons]
        by_cases e1 : (y : Int) = x <;> by_cases e2 : (y : Int) ∈ L <;> simp [e1, e2] at ihY ⊢ <;> omega
    have := h2 X
    simp only [List.length_cons]
    omega
theorem good_ge (wk : Nat → Bool) (L : List Int) : 22 ≤ goodN wk L + L.length + wkN wk := by
  have h1 := count_in (List.range' 2 22) range_nodup L
  have h2 : ∀ X : List Nat, X.length ≤ X.countP (fun b : Nat => !wk b && !decide ((b : Int) ∈ L)) + X.countP (fun b : Nat => decide ((b : Int) ∈ L)) + X.countP wk := by
    intro X
    induction X with
    | nil => simp
    | cons y Y ih =>
      simp only [List.countP_cons, List.length_cons]
      by_cases e2 : (y : Int) ∈ L <;> cases e1 : wk y <;> simp [e2] at ih ⊢ <;> omega
  have := h2 (List.range' 2 22)
  simp only [List.length_range'] at this
  unfold goodN wkN
  omega
theorem good_snoc (wk : Nat → Bool) (L : List Int) (b : Nat) : goodN wk L ≤ goodN wk (L ++ [(b : Int)]) + 1 := by
  have key : ∀ X : List Nat, X.Nodup → X.countP (fun c : Nat => !wk c && !decide ((c : Int) ∈ L)) ≤ X.countP (fun c : Nat => !wk c && !decide ((c : Int) ∈ L ++ [(b : Int)])) + X.countP (fun c : Nat => decide ((c : Int) ∈ [(b : Int)])) := by
    intro X hX
    induction X with
    | nil => simp
    | cons y Y ih =>
      have := ih (List.nodup_cons.1 hX).2
      simp only [List.countP_cons]
      by_cases e1 : wk y = true <;> by_cases e2 : (y : Int) ∈ L <;> by_cases e3 : (y : Int) = (b : Int) <;> simp [e1, e2, e3] at this ⊢ <;> (try split) <;> omega
  have h1 := key _ range_nodup
  have h2 := count_in (List.range' 2 22) range_nodup [(b : Int)]
  unfold goodN
  simp only [List.length_singleton] at h2
  omega
theorem good_weak {wk : Nat → Bool} (L : List Int) {b : Nat} (h : wk b = true) : goodN wk (L ++ [(b : Int)]) = goodN wk L := by
  unfold goodN
  apply List.countP_congr
  intro c _
  by_cases e : c = b
  · subst e; simp [h]
  · have : ¬ (c : Int) = (b : Int) := by omega
    simp [this]
theorem good_none {M : CM} {L : List Int} (hbw : ∀ b, M.bd b = true → M.wk b = true) (h : freeS M L = none) : goodN M.wk L = 0 := by
  unfold goodN
  rw [List.countP_eq_zero]
  intro c hc
  rw [List.mem_range'_1] at hc
  rcases freeS_none h c hc.1 (by omega) with h' | h'
  · simp [h']
  · simp [hbw c h']
/-- A claim has its end. -/
structure ClaimOk (Post : CM → Nat → Prop) (M : CM) (L : List Int) (M' : CM) (L' : List Int) (b : Nat) (e : Int) : Prop where
  adv : Adv L M L' M'
  end_ : (e = 0 ∧ 2 ≤ b ∧ b < 24 ∧ (b : Int) ∉ L ∧ (b : Int) ∈ L' ∧ M'.pend = none ∧ Post M' b ∧ M'.wk b = false ∧ M'.bd b = false ∧ goodN M.wk L ≤ goodN M.wk L' + 1) ∨
    (e = 8 ∧ goodN M.wk L = 0 ∧ M'.pend = none) ∨
    (e = 9 ∧ ¬ M.left < 0 ∧ ∃ p, M'.pend = some p ∧ 2 ≤ pendB p ∧ pendB p < 24 ∧ ((pendB p : Nat) : Int) ∉ L)
theorem Claimed.ok {rd : CM → Nat → CM × Int} {Post : CM → Nat → Prop} (hrd : RdOk rd Post) {M M' : CM} {L L' : List Int} {b : Nat} {e : Int} (h : Claimed rd M L M' L' b e) :
    M.pend = none → (∀ b, M.bd b = true → M.wk b = true) → ClaimOk Post M L M' L' b e := by
  induction h with
  | full h => intro hp hb; exact ⟨Adv.refl _ _, .inr (.inl ⟨rfl, good_none hb h, hp⟩)⟩
  | @got M L b h h0 =>
    intro hp hb
    have hf := freeS_some h
    cases hw : M.wk b with
    | true => rw [hrd.weak M b hp hf.lt hf.bd hw] at h0; cases h0
    | false =>
      obtain ⟨hs, hh⟩ := hrd.sound M b hp hf.lt hf.bd hw
      rcases hh with ⟨_, h1, h2⟩ | ⟨h9, _⟩
      · exact ⟨Adv.step hs hf.ge hf.un, .inl ⟨rfl, hf.ge, hf.lt, hf.un, by simp, h1, h2, by rw [hs.wk]; exact hw, by rw [hs.bd]; exact hf.bd, good_snoc _ _ _⟩⟩
      · rw [h9] at h0; cases h0
  | @err M L b h h0 h7 =>
    intro hp hb
    have hf := freeS_some h
    cases hw : M.wk b with
    | true => rw [hrd.weak M b hp hf.lt hf.bd hw] at h7; exact absurd rfl h7
    | false =>
      obtain ⟨hs, hh⟩ := hrd.sound M b hp hf.lt hf.bd hw
      rcases hh with ⟨h1, _⟩ | ⟨h9, hl, p, h1, h2⟩
      · exact absurd h1 h0
      · exact ⟨Adv.step hs hf.ge hf.un, .inr (.inr ⟨h9, hl, p, h1, by rw [h2]; exact hf.ge, by rw [h2]; exact hf.lt, by rw [h2]; exact hf.un⟩)⟩
  | @next M M' L L' b c e h h7 hr ih =>
    intro hp hb
    have hf := freeS_some h
    cases hw : M.wk b with
    | false =>
      obtain ⟨hs, hh⟩ := hrd.sound M b hp hf.lt hf.bd hw
      rcases hh with ⟨h1, _⟩ | ⟨h9, _⟩
      · rw [h1] at h7; cases h7
      · rw [h9] at h7; cases h7
    | true =>
      rw [hrd.weak M b hp hf.lt hf.bd hw] at ih
      have ha : Adv L M (L ++ [(b : Int)]) { M with bd := upd M.bd b true } := Adv.weak hw
      have hg : goodN M.wk (L ++ [(b : Int)]) = goodN M.wk L := good_weak L hw
      have := ih hp (fun c hc => by
        rcases ha.bw c hc with h | h
        · exact hb c h
        · exact h)
      refine ⟨ha.trans this.adv, ?_⟩
      rcases this.end_ with ⟨h0, h1, h2, h3, h4, h5, h6, h7, h8, h9⟩ | ⟨h0, h1, h2⟩ | ⟨h0, h1, p, h2, h3, h4, h5⟩
      · refine .inl ⟨h0, h1, h2, fun hh => h3 (List.mem_append_left _ hh), h4, h5, h6, h7, h8, ?_⟩
        rw [← hg]; exact h9
      · exact .inr (.inl ⟨h0, by rw [← hg]; exact h1, h2⟩)
      · exact .inr (.inr ⟨h0, h1, p, h2, h3, h4, fun hh => h5 (List.mem_append_left _ hh)⟩)
end Go.Proofs.YtjeinblcpejpnabGreatDoor

/- A store in plain words: a block is erased, a table is written, with falls; tables are laid. -/
namespace Go.Proofs.YtjeinblcpejpnabGreatDoor
open Go.RowKit

/-- Pages are laid in block b alone. -/
structure LayB (b : Nat) (M M' : CM) : Prop where
  pg : ∀ c, ¬ c = b → M'.pg c = M.pg c
  wk : M'.wk = M.wk
  bd : M'.bd = M.bd
  wr : M'.wr = M.wr
  left : M.left < 0 → M'.left = M.left
  leq : ∀ n, M.left ≤ n → 0 ≤ n → M'.left ≤ n
theorem LayB.refl (b : Nat) (M : CM) : LayB b M M := ⟨fun _ _ => rfl, rfl, rfl, rfl, fun _ => rfl, fun _ h _ => h⟩
theorem LayB.trans {b : Nat} {M M' M'' : CM} (h : LayB b M M') (k : LayB b M' M'') : LayB b M M'' :=
  ⟨fun c hc => (k.pg c hc).trans (h.pg c hc), k.wk.trans h.wk, k.bd.trans h.bd, k.wr.trans h.wr, fun hl => by rw [k.left (by rw [h.left hl]; exact hl), h.left hl], fun n h1 h2 => k.leq n (h.leq n h1 h2) h2⟩
theorem Stp.lay {b : Nat} {M M' M'' : CM} (h : Stp b M M') (k : LayB b M' M'') : Stp b M M'' :=
  ⟨fun c hc => (k.pg c hc).trans (h.pg c hc), k.wk.trans h.wk, k.bd.trans h.bd, fun c => by rw [k.wr]; exact h.wr c, fun hl => by rw [k.left (by rw [h.left hl]; exact hl), h.left hl], fun n h1 h2 => k.leq n (h.leq n h1 h2) h2⟩
theorem tick_leq (M : CM) : ∀ n, M.left ≤ n → 0 ≤ n → (tickM M).left ≤ n := fun n h1 h2 => by
  rcases tick_left M with h | h <;> omega
theorem tick_keep {M : CM} (h : M.left < 0) : (tickM M).left = M.left := by rw [tick_neg h]
theorem layB_pend (b : Nat) (M : CM) (p : Option Pend) : LayB b M { M with pend := p } := ⟨fun _ _ => rfl, rfl, rfl, rfl, fun _ => rfl, fun _ h _ => h⟩
theorem layB_page (b : Nat) (M : CM) (p : Pg) : LayB b M (layM (tickM M) b p) :=
  ⟨fun c hc => by show upd (tickM M).pg b _ c = _; rw [upd_other _ _ _ hc, tick_pg], tick_wk M, tick_bd M, tick_wr M, fun h => tick_keep h, tick_leq M⟩
theorem LayB.stp {b : Nat} {M M' : CM} (h : LayB b M M') : Stp b M M' := ⟨h.pg, h.wk, h.bd, fun c => by rw [h.wr]; omega, h.left, h.leq⟩
theorem stp_wipe (b : Nat) (M : CM) (l : List Pg) : Stp b M (wipeM (tickM M) b l) :=
  ⟨fun c hc => by show upd (tickM M).pg b _ c = _; rw [upd_other _ _ _ hc, tick_pg], tick_wk M, tick_bd M, fun c => by
    show upd (tickM M).wr b _ c ≤ _
    by_cases e : c = b
    · subst e; rw [upd_same, tick_wr, if_pos rfl]; omega
    · rw [upd_other _ _ _ e, tick_wr]; omega, fun h => tick_keep h, tick_leq M⟩

def rdErase (M : CM) (b : Nat) : CM × Int := (eraseM M (b : Int), eraseE M (b : Int))
def rdTab (es : List Ent) (M : CM) (b : Nat) : CM × Int := writeT M (b : Int) es
theorem erase_weak {M : CM} {b : Nat} (hp : M.pend = none) (hb : b < 24) (hbd : M.bd b = false) (hw : M.wk b = true) : eraseE M (b : Int) = 7 ∧ eraseM M (b : Int) = { M with bd := upd M.bd b true } := by
  have hr := ready_nst hp hb hbd
  have : (b : Int).toNat = b := by omega
  constructor
  · unfold eraseE
    rw [if_neg (by simp [hr]), this, if_pos hw]
  · unfold eraseM
    rw [if_neg (by simp [hr]), this, if_pos hw]
theorem rdErase_ok : RdOk rdErase (fun M b => M.pg b = []) := by
  refine ⟨fun M M' b h1 h2 => by rw [h1]; exact h2, fun M b hp hb hbd hw => ?_, fun M b hp hb hbd hw => ?_⟩
  · unfold rdErase; rw [(erase_weak hp hb hbd hw).1, (erase_weak hp hb hbd hw).2]
  · obtain ⟨h1, h2⟩ := erase_nst hp hb hbd hw
    unfold rdErase
    rw [h1, h2]
    by_cases hl : M.left = 0
    · rw [if_pos hl, if_pos hl]
      exact ⟨(layB_pend b M _).stp, .inr ⟨rfl, by omega, _, rfl, rfl⟩⟩
    · rw [if_neg hl, if_neg hl]
      refine ⟨stp_wipe b M [], .inl ⟨rfl, ?_, ?_⟩⟩
      · show (tickM M).pend = none; rw [tick_pend]; exact hp
      · show upd (tickM M).pg b [] b = []; exact upd_same _ _ _
/-- Pages are written, one behind the other, till the machine falls. -/
theorem goW_gen {b : Nat} (hb : b < 24) : ∀ (ps : List (List Ent)) (M : CM), M.pend = none → M.bd b = false → M.wk b = false → (M.pg b).length + ps.length ≤ 8 → (∀ p ∈ ps, bytesT p = (encT p, 0) ∧ (encT p).length ≤ 64) →
    LayB b M (goW (b : Int) M ps).1 ∧ (((goW (b : Int) M ps).2 = 0 ∧ (goW (b : Int) M ps).1.pend = none ∧ (goW (b : Int) M ps).1.pg b = M.pg b ++ ps.map (fun p => Pg.whole (padD (txt (encT p))))) ∨
      ((goW (b : Int) M ps).2 = 9 ∧ ¬ M.left < 0 ∧ ∃ p, (goW (b : Int) M ps).1.pend = some p ∧ pendB p = b))
  | [], M, hp, _, _, _, _ => ⟨LayB.refl b M, .inl ⟨rfl, hp, by simp [goW]⟩⟩
  | p :: ps, M, hp, hbd, hwk, hl, hP => by
    obtain ⟨hb1, hb2⟩ := hP p (List.mem_cons_self ..)
    have hs : (txt (encT p)).size ≤ 64 := by
      have : (txt (encT p)).size = (encT p).length := by simp [txt, ByteArray.size]
      omega
    simp only [List.length_cons] at hl
    obtain ⟨h1, h2⟩ := write_nst (s := txt (encT p)) hp hb hbd hwk hs (by omega)
    have hg : goW (b : Int) M (p :: ps) = if ¬ writeE M (b : Int) (txt (encT p)) = 0 then (writeM M (b : Int) (txt (encT p)), writeE M (b : Int) (txt (encT p))) else goW (b : Int) (writeM M (b : Int) (txt (encT p))) ps := by
      simp only [goW, hb1]; rw [if_neg (by simp)]
    rw [hg, h1, h2]
    by_cases h0 : M.left = 0
    · rw [if_pos h0, if_pos h0, if_pos (by simp)]
      exact ⟨layB_pend b M _, .inr ⟨rfl, by omega, _, rfl, rfl⟩⟩
    · rw [if_neg h0, if_neg h0, if_neg (by simp)]
      have hpg : (layM (tickM M) b (.whole (padD (txt (encT p))))).pg b = M.pg b ++ [.whole (padD (txt (encT p)))] := by
        show upd (tickM M).pg b _ b = _
        rw [upd_same, tick_pg]
      have hL := layB_page b M (.whole (padD (txt (encT p))))
      have hpn : (layM (tickM M) b (.whole (padD (txt (encT p))))).pend = none := by show (tickM M).pend = none; rw [tick_pend]; exact hp
      obtain ⟨k1, k2⟩ := goW_gen hb ps (layM (tickM M) b (.whole (padD (txt (encT p))))) hpn (by rw [hL.bd]; exact hbd) (by rw [hL.wk]; exact hwk) (by rw [hpg]; simp; omega) (fun q hq => hP q (List.mem_cons_of_mem _ hq))
      refine ⟨hL.trans k1, ?_⟩
      rcases k2 with ⟨k3, k4, k5⟩ | ⟨k3, k4, k5⟩
      · refine .inl ⟨k3, k4, ?_⟩
        rw [k5, hpg]; simp
      · refine .inr ⟨k3, fun hn => k4 ?_, k5⟩
        rw [hL.left hn]; exact hn
theorem rdTab_ok {es : List Ent} (hz : tabF es = 0) : RdOk (rdTab es) (fun M b => TabAt M b es) := by
  refine ⟨fun M M' b h1 h2 => ⟨h2.ok, h2.lt, by rw [h1]; exact h2.pg⟩, fun M b hp hb hbd hw => ?_, fun M b hp hb hbd hw => ?_⟩
  · unfold rdTab writeT
    obtain ⟨h1, h2⟩ := erase_weak hp hb hbd hw
    rw [if_neg (by simp [hz]), if_pos (by rw [h1]; simp), h1, h2]
  · obtain ⟨h1, h2⟩ := erase_nst hp hb hbd hw
    unfold rdTab writeT
    rw [if_neg (by simp [hz]), h1, h2]
    by_cases hl : M.left = 0
    · rw [if_pos hl, if_pos hl, if_pos (by simp)]
      exact ⟨(layB_pend b M _).stp, .inr ⟨rfl, by omega, _, rfl, rfl⟩⟩
    · rw [if_neg hl, if_neg hl, if_neg (by simp)]
      have hS := stp_wipe b M []
      have hpn : (wipeM (tickM M) b []).pend = none := by show (tickM M).pend = none; rw [tick_pend]; exact hp
      have hpg : (wipeM (tickM M) b []).pg b = [] := upd_same _ _ _
      have hneg : (wipeM (tickM M) b []).left < 0 ↔ M.left < 0 := by
        show (tickM M).left < 0 ↔ _
        unfold tickM; split
        · rename_i h; simp only; omega
        · rfl
      generalize hM1 : wipeM (tickM M) b [] = M1 at *
      have hbd1 : M1.bd b = false := by rw [hS.bd]; exact hbd
      have hwk1 : M1.wk b = false := by rw [hS.wk]; exact hw
      obtain ⟨h3, h4⟩ := write_nst (s := headT es) hpn hb hbd1 hwk1 (by rw [headT_size]; omega) (by rw [hpg]; simp)
      rw [h3, h4]
      by_cases hl1 : M1.left = 0
      · rw [if_pos hl1, if_pos hl1, if_pos (by simp)]
        exact ⟨hS.lay (layB_pend b M1 _), .inr ⟨rfl, by rw [← hneg]; omega, _, rfl, rfl⟩⟩
      · rw [if_neg hl1, if_neg hl1, if_neg (by simp)]
        have hL := layB_page b M1 (.whole (padD (headT es)))
        have hpg2 : (layM (tickM M1) b (.whole (padD (headT es)))).pg b = [.whole (padD (headT es))] := by
          show upd (tickM M1).pg b _ b = _
          rw [upd_same, tick_pg, hpg]; rfl
        have hpn2 : (layM (tickM M1) b (.whole (padD (headT es)))).pend = none := by show (tickM M1).pend = none; rw [tick_pend]; exact hpn
        obtain ⟨h0, h14, _⟩ := tabF_zero hz
        have hpl : (partsE 2 es).length ≤ 7 := by rw [parts_len]; omega
        obtain ⟨k1, k2⟩ := goW_gen hb (partsE 2 es) (layM (tickM M1) b (.whole (padD (headT es)))) hpn2 (by rw [hL.bd]; exact hbd1) (by rw [hL.wk]; exact hwk1) (by rw [hpg2]; simp; omega) (fun p hp' => by
          obtain ⟨k, hk, rfl⟩ := List.mem_map.1 hp'
          have hf : ∀ e ∈ partE 2 es k, faultE e = 0 := fun e he => tabF_fault hz e (part_mem he)
          have h2 : (partE 2 es k).length ≤ 2 := by unfold partE; simp; omega
          exact ⟨bytesT_part hf h2, encT_le hf h2⟩)
        refine ⟨(hS.lay hL).lay k1, ?_⟩
        rcases k2 with ⟨k3, k4, k5⟩ | ⟨k3, k4, k5⟩
        · refine .inl ⟨k3, k4, hz, hb, ?_⟩
          rw [k5, hpg2]; rfl
        · refine .inr ⟨k3, fun hn => k4 ?_, k5⟩
          have := hneg.2 hn
          rw [hL.left this]; exact this
/-- Lists are laid, a table each. -/
inductive Laid (M : CM) (L : List Int) : List (List Ent) → CM → List Int → List Nat → Prop
  | nil : Laid M L [] M L []
  | snoc {M1 M2 : CM} {L1 L2 : List Int} {ps : List (List Ent)} {p : List Ent} {bs : List Nat} {b : Nat} (h : Laid M L ps M1 L1 bs) (k : Claimed (rdTab p) M1 L1 M2 L2 b 0) : Laid M L (ps ++ [p]) M2 L2 (bs ++ [b])
/-- What has been laid. -/
structure LaidOk (M : CM) (L : List Int) (ps : List (List Ent)) (M' : CM) (L' : List Int) (bs : List Nat) : Prop where
  adv : Adv L M L' M'
  up : M'.pend = none
  bw : ∀ b, M'.bd b = true → M'.wk b = true
  len : bs.length = ps.length
  tab : ∀ (i : Nat) b p, bs[i]? = some b → ps[i]? = some p → TabAt M' b p
  at_ : ∀ b ∈ bs, 2 ≤ b ∧ b < 24 ∧ (b : Int) ∉ L ∧ (b : Int) ∈ L'
  nodup : bs.Nodup
  good : goodN M.wk L ≤ goodN M.wk L' + ps.length
  nb : ∀ b ∈ bs, M.bd b = false
theorem Laid.ok {M M' : CM} {L L' : List Int} {ps : List (List Ent)} {bs : List Nat} (h : Laid M L ps M' L' bs) :
    M.pend = none → (∀ b, M.bd b = true → M.wk b = true) → (∀ p ∈ ps, tabF p = 0) → LaidOk M L ps M' L' bs := by
  induction h with
  | nil => intro hp hb _; exact ⟨Adv.refl _ _, hp, hb, rfl, fun i b p h => by simp at h, fun b h => by simp at h, List.nodup_nil, by simp, fun b h => by simp at h⟩
  | @snoc M1 M2 L1 L2 ps p bs b h k ih =>
    intro hp hb hz
    have I := ih hp hb (fun q hq => hz q (List.mem_append_left _ hq))
    have C := k.ok (rdTab_ok (hz p (by simp))) I.up I.bw
    obtain ⟨_, c1, c2, c3, c4, c5, c6, c7, c8, c9⟩ | ⟨c, _⟩ | ⟨c, _⟩ := C.end_
    · have hwk : M1.wk = M.wk := I.adv.wk
      refine ⟨I.adv.trans C.adv, c5, fun b hb => ?_, by simp [I.len], fun i b' q h1 h2 => ?_, fun b' hb' => ?_, ?_, ?_, fun b' hb' => ?_⟩
      · rcases C.adv.bw b hb with h | h
        · rw [C.adv.wk]; exact I.bw b h
        · rw [C.adv.wk]; exact h
      · rcases Nat.lt_or_ge i bs.length with hi | hi
        · rw [List.getElem?_append_left hi] at h1
          rw [List.getElem?_append_left (by rw [← I.len]; exact hi)] at h2
          have ht := I.tab i b' q h1 h2
          have hm := (I.at_ b' (List.mem_of_getElem? h1)).2.2.2
          exact ⟨ht.ok, ht.lt, by rw [C.adv.pg b' hm]; exact ht.pg⟩
        · have hi2 : i = bs.length := by
            have := (List.getElem?_eq_some_iff.1 h1).1
            simp at this; omega
          subst hi2
          rw [List.getElem?_concat_length] at h1
          rw [I.len, List.getElem?_concat_length] at h2
          cases h1; cases h2
          exact c6
      · rcases List.mem_append.1 hb' with h' | h'
        · obtain ⟨a1, a2, a3, a4⟩ := I.at_ b' h'
          exact ⟨a1, a2, a3, C.adv.mono _ a4⟩
        · simp at h'; subst h'
          exact ⟨c1, c2, fun hh => c3 (I.adv.mono _ hh), c4⟩
      · rw [List.nodup_append]
        refine ⟨I.nodup, by simp, fun x hx y hy => ?_⟩
        simp at hy; subst hy
        intro e; subst e
        exact c3 (I.at_ x hx).2.2.2
      · have := I.good
        rw [hwk] at c9
        simp; omega
      · rcases List.mem_append.1 hb' with h' | h'
        · exact I.nb b' h'
        · simp at h'; subst h'
          cases hh : M.bd b' with
          | false => rfl
          | true => have := C.adv.bd b' (I.adv.bd b' hh); rw [c8] at this; cases this
    · cases c
    · cases c
end Go.Proofs.YtjeinblcpejpnabGreatDoor
