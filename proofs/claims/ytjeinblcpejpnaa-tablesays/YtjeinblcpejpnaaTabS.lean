/- TableSays. -/
import Derived.Test.YtjeinblcpejpnaaTabP
import Derived.Test.YtjeinblcpejpnaaRefL
namespace Go.Proofs.Ytjeinblcpejpnaa
open Go.RowKit Go.WideShapes
attribute [local go_sem ↓] Go.wp_at_zero Go.wp_at_succ

theorem goA_len (M : CM) (b : Int) : ∀ (r : Nat) (acc : List Ent), (goA M b acc r).1.length ≤ acc.length + 255 * r
  | 0, acc => by unfold goA; split <;> simp
  | r + 1, acc => by
    rw [goA_succ]
    split
    · have := goA_len M b r acc; omega
    · split
      · simp
      · have := goA_len M b r (acc ++ (pageE M b ((8 - (r + 1) : Nat) : Int)).1)
        have := pageE_len M b ((8 - (r + 1) : Nat) : Int)
        simp at *; omega
theorem allR_len (M : CM) (b : Int) : (allR M b).1.length ≤ 2000 := by
  unfold allR
  split
  · simp
  · have := goA_len M b 7 []; simp at this; omega
theorem pageE_nn (M : CM) (b p : Int) : 0 ≤ (pageE M b p).2 := by
  rcases pageE_cases M b p with ⟨_, h⟩ | ⟨_, h⟩
  · rw [h]; exact readR_nn M b p
  · rw [h]; rcases entsT_err (txtL (readR M b p).1) with h | h <;> omega
theorem goA_nn (M : CM) (b : Int) : ∀ (r : Nat) (acc : List Ent), 0 ≤ (goA M b acc r).2
  | 0, acc => by unfold goA; split <;> simp
  | r + 1, acc => by
    rw [goA_succ]
    split
    · exact goA_nn M b r acc
    · split
      · exact pageE_nn M b _
      · exact goA_nn M b r _
theorem allR_nn (M : CM) (b : Int) : 0 ≤ (allR M b).2 := by
  unfold allR
  split
  · unfold headR
    split
    · exact readR_nn M b 0
    · split <;> simp
  · exact goA_nn M b 7 []
/-- What Write answers on a chip without a fall. -/
theorem writeT_err {M : CM} {b : Nat} {es : List Ent} {k : Nat} (h : Bnd M k) (hb : b < 24) : (writeT M (b : Int) es).2 = if ¬ tabF es = 0 then tabF es else if M.bd b = true ∨ M.wk b = true then 7 else 0 := by
  by_cases hz : tabF es = 0
  · rw [if_neg (by simp [hz])]
    cases hbd : M.bd b with
    | true =>
      have : eraseE M (b : Int) = 7 := by
        unfold eraseE readyE downB
        simp [h.pend, hbd]; omega
      unfold writeT
      rw [if_neg (by simp [hz]), if_pos (by rw [this]; decide), this, if_pos (by simp)]
    | false =>
      cases hwk : M.wk b with
      | true =>
        have : eraseE M (b : Int) = 7 := by
          have hr : readyE M (b : Int) = 0 := by
            unfold readyE downB
            rw [h.pend, if_neg (by simp), if_pos ⟨by omega, by omega⟩]
            simp [hbd]
          unfold eraseE
          simp [hr, hwk]
        unfold writeT
        rw [if_neg (by simp [hz]), if_pos (by rw [this]; decide), this, if_pos (by simp)]
      | false =>
        rw [if_neg (by simp)]
        exact (writeT_fine ⟨h.pend, hbd, hwk, h.left⟩ hb hz).1
  · rw [if_pos hz]
    unfold writeT
    rw [if_pos hz]
end Go.Proofs.Ytjeinblcpejpnaa
