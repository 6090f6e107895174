
/- Claims and layings as functions. -/
import Derived.Test.YtjeinblcpejpnabGreatDoorStoC
namespace Go.Proofs.YtjeinblcpejpnabGreatDoor
open Go.RowKit Go.WideShapes

theorem Claimed.unique {rd : CM → Nat → CM × Int} {M M1 : CM} {L L1 : List Int} {b1 : Nat} {e1 : Int} (h : Claimed rd M L M1 L1 b1 e1) : ∀ {M2 : CM} {L2 : List Int} {b2 : Nat} {e2 : Int}, Claimed rd M L M2 L2 b2 e2 → M2 = M1 ∧ L2 = L1 ∧ b2 = b1 ∧ e2 = e1 := by
  induction h with
  | full h =>
    intro M2 L2 b2 e2 k
    cases k with
    | full => exact ⟨rfl, rfl, rfl, rfl⟩
    | got h' => rw [h] at h'; cases h'
    | err h' => rw [h] at h'; cases h'
    | next h' => rw [h] at h'; cases h'
  | got h h0 =>
    intro M2 L2 b2 e2 k
    cases k with
    | full h' => rw [h] at h'; cases h'
    | got h' => rw [h] at h'; cases h'; exact ⟨rfl, rfl, rfl, rfl⟩
    | err h' h1 => rw [h] at h'; cases h'; exact absurd h0 h1
    | next h' h7 => rw [h] at h'; cases h'; rw [h0] at h7; cases h7
  | err h h0 h7 =>
    intro M2 L2 b2 e2 k
    cases k with
    | full h' => rw [h] at h'; cases h'
    | got h' h1 => rw [h] at h'; cases h'; exact absurd h1 h0
    | err h' => rw [h] at h'; cases h'; exact ⟨rfl, rfl, rfl, rfl⟩
    | next h' h1 => rw [h] at h'; cases h'; exact absurd h1 h7
  | next h h7 _ ih =>
    intro M2 L2 b2 e2 k
    cases k with
    | full h' => rw [h] at h'; cases h'
    | got h' h1 => rw [h] at h'; cases h'; rw [h1] at h7; cases h7
    | err h' _ h1 => rw [h] at h'; cases h'; exact absurd h7 h1
    | next h' _ hr => rw [h] at h'; cases h'; exact ih hr
/-- What comes of a claim. -/
structure CR where
  M : CM
  L : List Int
  b : Nat
  e : Int
def claimF (rd : CM → Nat → CM × Int) : Nat → CM → List Int → CR
  | 0, M, L => ⟨M, L, 0, 8⟩
  | f + 1, M, L => match freeS M L with
    | none => ⟨M, L, 0, 8⟩
    | some b => if (rd M b).2 = 0 then ⟨(rd M b).1, L ++ [(b : Int)], b, 0⟩ else if (rd M b).2 = 7 then claimF rd f (rd M b).1 (L ++ [(b : Int)]) else ⟨(rd M b).1, L ++ [(b : Int)], 0, (rd M b).2⟩
def claimS (rd : CM → Nat → CM × Int) (M : CM) (L : List Int) : CR := claimF rd 25 M L
theorem claimF_is (rd : CM → Nat → CM × Int) : ∀ (f : Nat) (M : CM) (L : List Int), unN L < f → Claimed rd M L (claimF rd f M L).M (claimF rd f M L).L (claimF rd f M L).b (claimF rd f M L).e
  | 0, M, L, h => absurd h (Nat.not_lt_zero _)
  | f + 1, M, L, h => by
    unfold claimF
    split
    · rename_i hn; exact .full hn
    · rename_i b hb
      split
      · rename_i h0; exact .got hb h0
      · rename_i h0
        split
        · rename_i h7
          have hfo := freeS_some hb
          have := unN_snoc hfo.lt hfo.un
          exact .next hb h7 (claimF_is rd f _ _ (by omega))
        · rename_i h7; exact .err hb h0 h7
theorem unN_le (L : List Int) : unN L ≤ 24 := by
  unfold unN
  have := List.countP_le_length (p := fun b : Nat => !decide ((b : Int) ∈ L)) (l := List.range 24)
  simpa using this
theorem claimS_is (rd : CM → Nat → CM × Int) (M : CM) (L : List Int) : Claimed rd M L (claimS rd M L).M (claimS rd M L).L (claimS rd M L).b (claimS rd M L).e := claimF_is rd 25 M L (by have := unN_le L; omega)
/-- A claim has been made. -/
structure ClaimD (r : CR) (w w' : World) (cb ub : Nat) (e : Ending) : Prop where
  ret : e = .returned (.tuple #[.int .i64 (r.b : Int), errV r.e])
  chip : ChipAt w' cb r.M
  used : Blk w' ub (usedC r.L) 146
  kept : Kp w w' [cb, ub]
theorem ClaimE.det {rd : CM → Nat → CM × Int} {w w' : World} {cb ub : Nat} {M : CM} {L : List Int} {e : Ending} (h : ClaimE rd w w' cb ub M L e) : ClaimD (claimS rd M L) w w' cb ub e := by
  obtain ⟨M', L', b, er, h1, h2, h3, h4, h5⟩ := h.ex
  obtain ⟨rfl, rfl, rfl, rfl⟩ := (claimS_is rd M L).unique h1
  exact ⟨h2, h3, h4, h5⟩
/-- What comes of a laying. -/
structure LR where
  M : CM
  L : List Int
  bs : List Nat
  e : Int
def layS : CM → List Int → List (List Ent) → LR
  | M, L, [] => ⟨M, L, [], 0⟩
  | M, L, p :: ps => if (claimS (rdTab p) M L).e = 0 then
      ⟨(layS (claimS (rdTab p) M L).M (claimS (rdTab p) M L).L ps).M, (layS (claimS (rdTab p) M L).M (claimS (rdTab p) M L).L ps).L, if (layS (claimS (rdTab p) M L).M (claimS (rdTab p) M L).L ps).e = 0 then (claimS (rdTab p) M L).b :: (layS (claimS (rdTab p) M L).M (claimS (rdTab p) M L).L ps).bs else [], (layS (claimS (rdTab p) M L).M (claimS (rdTab p) M L).L ps).e⟩
    else ⟨(claimS (rdTab p) M L).M, (claimS (rdTab p) M L).L, [], (claimS (rdTab p) M L).e⟩
theorem layS_snoc : ∀ (ps : List (List Ent)) (M : CM) (L : List Int) (q : List Ent), (layS M L ps).e = 0 →
    layS M L (ps ++ [q]) = if (claimS (rdTab q) (layS M L ps).M (layS M L ps).L).e = 0 then ⟨(claimS (rdTab q) (layS M L ps).M (layS M L ps).L).M, (claimS (rdTab q) (layS M L ps).M (layS M L ps).L).L, (layS M L ps).bs ++ [(claimS (rdTab q) (layS M L ps).M (layS M L ps).L).b], 0⟩
      else ⟨(claimS (rdTab q) (layS M L ps).M (layS M L ps).L).M, (claimS (rdTab q) (layS M L ps).M (layS M L ps).L).L, [], (claimS (rdTab q) (layS M L ps).M (layS M L ps).L).e⟩
  | [], M, L, q, _ => by
    show layS M L [q] = _
    simp only [layS]
    split
    · rename_i h; simp [h]
    · rename_i h; simp [h]
  | p :: ps, M, L, q, h => by
    have hc : (claimS (rdTab p) M L).e = 0 := by
      by_cases hc : (claimS (rdTab p) M L).e = 0
      · exact hc
      · simp only [layS, if_neg hc] at h; exact absurd h hc
    have h' : (layS (claimS (rdTab p) M L).M (claimS (rdTab p) M L).L ps).e = 0 := by
      simp only [layS, if_pos hc] at h; exact h
    have ih := layS_snoc ps (claimS (rdTab p) M L).M (claimS (rdTab p) M L).L q h'
    have e1 : layS M L (p :: ps ++ [q]) = ⟨(layS (claimS (rdTab p) M L).M (claimS (rdTab p) M L).L (ps ++ [q])).M, (layS (claimS (rdTab p) M L).M (claimS (rdTab p) M L).L (ps ++ [q])).L, if (layS (claimS (rdTab p) M L).M (claimS (rdTab p) M L).L (ps ++ [q])).e = 0 then (claimS (rdTab p) M L).b :: (layS (claimS (rdTab p) M L).M (claimS (rdTab p) M L).L (ps ++ [q])).bs else [], (layS (claimS (rdTab p) M L).M (claimS (rdTab p) M L).L (ps ++ [q])).e⟩ := by
      rw [List.cons_append]
      show layS M L (p :: (ps ++ [q])) = _
      simp only [layS]; rw [if_pos hc]
    have e2 : layS M L (p :: ps) = ⟨(layS (claimS (rdTab p) M L).M (claimS (rdTab p) M L).L ps).M, (layS (claimS (rdTab p) M L).M (claimS (rdTab p) M L).L ps).L, (claimS (rdTab p) M L).b :: (layS (claimS (rdTab p) M L).M (claimS (rdTab p) M L).L ps).bs, 0⟩ := by
      simp only [layS]; rw [if_pos hc, if_pos h', h']
    rw [e1, e2, ih]
    dsimp only
    split
    · simp
    · simp
theorem layS_stop : ∀ (ps : List (List Ent)) (M : CM) (L : List Int) (qs : List (List Ent)), ¬ (layS M L ps).e = 0 → layS M L (ps ++ qs) = layS M L ps
  | [], M, L, qs, h => absurd rfl h
  | p :: ps, M, L, qs, h => by
    rw [List.cons_append]
    by_cases hc : (claimS (rdTab p) M L).e = 0
    · have h' : ¬ (layS (claimS (rdTab p) M L).M (claimS (rdTab p) M L).L ps).e = 0 := by
        simp only [layS, if_pos hc] at h; exact h
      have ih := layS_stop ps (claimS (rdTab p) M L).M (claimS (rdTab p) M L).L qs h'
      simp only [layS, if_pos hc, ih]
    · simp only [layS, if_neg hc]
theorem layS_nil : ∀ {ps : List (List Ent)} {M : CM} {L : List Int}, ¬ (layS M L ps).e = 0 → (layS M L ps).bs = []
  | [], _, _, h => absurd rfl h
  | p :: ps, M, L, h => by
    by_cases hc : (claimS (rdTab p) M L).e = 0
    · simp only [layS, if_pos hc] at h ⊢
      rw [if_neg h]
    · simp only [layS, if_neg hc]
theorem layS_laid (M : CM) (L : List Int) : ∀ (n : Nat) (ps : List (List Ent)), ps.length = n → (layS M L ps).e = 0 → Laid M L ps (layS M L ps).M (layS M L ps).L (layS M L ps).bs
  | 0, ps, h, _ => by
    obtain rfl := List.eq_nil_of_length_eq_zero h
    exact .nil
  | n + 1, ps, h, he => by
    have hne : ps ≠ [] := fun e => by subst e; simp at h
    have hs := List.dropLast_concat_getLast hne
    generalize ps.dropLast = qs at hs
    generalize ps.getLast hne = q at hs
    subst hs
    have hq : (layS M L qs).e = 0 := by
      by_cases hq : (layS M L qs).e = 0
      · exact hq
      · rw [layS_stop _ _ _ _ hq] at he; exact absurd he hq
    have ih := layS_laid M L n qs (by simpa using h) hq
    have hsn := layS_snoc qs M L q hq
    by_cases hc : (claimS (rdTab q) (layS M L qs).M (layS M L qs).L).e = 0
    · rw [if_pos hc] at hsn
      rw [hsn]
      have := claimS_is (rdTab q) (layS M L qs).M (layS M L qs).L
      rw [hc] at this
      exact .snoc ih this
    · rw [if_neg hc] at hsn; rw [hsn] at he; exact absurd he hc
/-- A laying that came to no good end. -/
structure LayBad (M : CM) (L : List Int) (ps : List (List Ent)) (r : LR) : Prop where
  ex : ∃ qs p M1 L1 bs b, Laid M L qs M1 L1 bs ∧ (∀ x ∈ qs, x ∈ ps) ∧ p ∈ ps ∧ qs.length < ps.length ∧ Claimed (rdTab p) M1 L1 r.M r.L b r.e
theorem layS_bad (M : CM) (L : List Int) : ∀ (n : Nat) (ps : List (List Ent)), ps.length = n → ¬ (layS M L ps).e = 0 → LayBad M L ps (layS M L ps)
  | 0, ps, h, he => by
    obtain rfl := List.eq_nil_of_length_eq_zero h
    exact absurd rfl he
  | n + 1, ps, h, he => by
    have hne : ps ≠ [] := fun e => by subst e; simp at h
    have hs := List.dropLast_concat_getLast hne
    generalize ps.dropLast = qs at hs
    generalize ps.getLast hne = q at hs
    subst hs
    by_cases hq : (layS M L qs).e = 0
    · have hl := layS_laid M L qs.length qs rfl hq
      have hsn := layS_snoc qs M L q hq
      by_cases hc : (claimS (rdTab q) (layS M L qs).M (layS M L qs).L).e = 0
      · rw [if_pos hc] at hsn; rw [hsn] at he; exact absurd rfl he
      · rw [if_neg hc] at hsn
        rw [hsn]
        exact ⟨qs, q, _, _, _, _, hl, fun x hx => List.mem_append_left _ hx, by simp, by simp, claimS_is _ _ _⟩
    · rw [layS_stop _ _ _ _ hq]
      obtain ⟨qs', p, M1, L1, bs, b, h1, h2, h3, h4, h5⟩ := (layS_bad M L n qs (by simpa using h) hq).ex
      exact ⟨qs', p, M1, L1, bs, b, h1, fun x hx => List.mem_append_left _ (h2 x hx), List.mem_append_left _ h3, by simp; omega, h5⟩
end Go.Proofs.YtjeinblcpejpnabGreatDoor
