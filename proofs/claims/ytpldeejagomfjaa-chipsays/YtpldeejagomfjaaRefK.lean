
/- The document's chip: Restart, whole; bounds that acts keep. -/
import Derived.Test.YtpldeejagomfjaaRefH
import Derived.Test.YtpldeejagomfjaaRefI
import Derived.Test.YtpldeejagomfjaaRefJ
namespace Go.Proofs.Ytpldeejagomfjaa
open Go.RowKit Go.WideShapes

theorem rrestart_any (rb : Nat) (how : Int) (M : CM) (w : World) (h : RefAt w rb M) (hm : MOk M) (hwr : WrOk M) :
    Calls Try.prog 39 #[.pointer (some ⟨rb, 0, none⟩), .int .i64 how] w fun e w' => e = .returned (.tuple #[]) ∧ RefAt w' rb (restartM M how) ∧ w.grownBy w' (some rb) := by
  cases hp : M.pend with
  | none =>
    have e : restartM M how = { M with left := -1, pend := none } := by unfold restartM; rw [hp]
    rw [e]
    exact rrestart_not rb how M w h (.inl hp) hm
  | some p =>
    have e : restartM M how = { stepped M p how with left := -1, pend := none } := by unfold restartM; rw [hp]
    rw [e]
    by_cases h2 : how = 2
    · subst h2
      have e2 : stepped M p 2 = doneM M p := by unfold stepped; rw [if_pos rfl]
      rw [e2]
      cases p with
      | erase b => exact rrestart_e2 rb b M w h (hm.eb b hp) hp (hwr b (hm.eb b hp))
      | write b d =>
        obtain ⟨hb, h8⟩ := hm.wb b d hp
        by_cases hn : (M.pg b).length = 0
        · exact rrestart_w2z rb b d M w h hb hp hn
        · exact rrestart_w2n rb b d M w h hb hp h8 hn
    · by_cases h1 : how = 1
      · subst h1
        have e2 : stepped M p 1 = halfM M p := by unfold stepped; rw [if_neg (by decide), if_pos rfl]
        rw [e2]
        cases p with
        | erase b => exact rrestart_e1 rb b M w h (hm.eb b hp) hp (hwr b (hm.eb b hp))
        | write b d =>
          obtain ⟨hb, h8⟩ := hm.wb b d hp
          by_cases hn : (M.pg b).length = 0
          · exact rrestart_w1z rb b d M w h hb hp hn
          · exact rrestart_w1n rb b d M w h hb hp h8 hn
      · have e2 : stepped M p how = M := by unfold stepped; rw [if_neg h2, if_neg h1]
        rw [e2]
        exact rrestart_not rb how M w h (.inr ⟨h1, h2⟩) hm

/-- How far a chip has come behind k acts. -/
structure Far (M : CM) (k : Nat) : Prop where
  left : M.left ≤ 9223372036854775807
  wr : ∀ b, M.wr b ≤ k
theorem Far.mono {M : CM} {k k' : Nat} (h : Far M k) (hk : k ≤ k') : Far M k' := ⟨h.left, fun b => Nat.le_trans (h.wr b) hk⟩
theorem Far.ok {M : CM} {k : Nat} (h : Far M k) (hk : k ≤ 1000000000) : WrOk M := fun b _ => Nat.le_trans (h.wr b) hk
theorem tick_le (M : CM) : (tickM M).left ≤ M.left := by unfold tickM; split <;> simp; omega
theorem Far.write {M : CM} {k : Nat} (h : Far M k) (b : Int) (s : ByteArray) : Far (writeM M b s) k := by
  unfold writeM
  split
  · exact h
  split
  · exact h
  split
  · exact h
  split
  · exact ⟨h.left, h.wr⟩
  split
  · exact ⟨h.left, h.wr⟩
  · refine ⟨Int.le_trans (tick_le M) h.left, fun c => ?_⟩
    show (tickM M).wr c ≤ k
    rw [tick_wr]; exact h.wr c
theorem Far.wipe {M : CM} {k : Nat} (h : Far M k) (b : Nat) (l : List Pg) : Far (wipeM M b l) (k + 1) := by
  refine ⟨h.left, fun c => ?_⟩
  simp only [wipeM, upd]
  split
  · have := h.wr b; omega
  · have := h.wr c; omega
theorem Far.erase {M : CM} {k : Nat} (h : Far M k) (b : Int) : Far (eraseM M b) (k + 1) := by
  have hm := h.mono (Nat.le_succ k)
  unfold eraseM
  split
  · exact hm
  split
  · exact ⟨hm.left, hm.wr⟩
  split
  · exact ⟨hm.left, hm.wr⟩
  · exact Far.wipe ⟨Int.le_trans (tick_le M) h.left, fun c => by rw [tick_wr]; exact h.wr c⟩ _ _
theorem Far.weaken {M : CM} {k : Nat} (h : Far M k) (b : Int) : Far (weakenM M b) k := by
  unfold weakenM
  split
  · exact ⟨h.left, h.wr⟩
  · exact h
theorem Far.arm {M : CM} {k : Nat} (h : Far M k) (n : Int) (hn : n ≤ 9223372036854775807) : Far { M with left := n } k := ⟨hn, h.wr⟩
theorem Far.restart {M : CM} {k : Nat} (h : Far M k) (how : Int) : Far (restartM M how) (k + 1) := by
  have hm := h.mono (Nat.le_succ k)
  unfold restartM
  split
  · exact ⟨by simp, hm.wr⟩
  · rename_i p _
    have hs : Far (stepped M p how) (k + 1) := by
      unfold stepped
      split
      · cases p with
        | write b d => exact ⟨hm.left, hm.wr⟩
        | erase b => exact h.wipe b []
      · split
        · cases p with
          | write b d => exact ⟨hm.left, hm.wr⟩
          | erase b => exact h.wipe b _
        · exact hm
    exact ⟨by simp, hs.wr⟩
theorem newFar : Far newM 0 := ⟨by decide, fun _ => Nat.le_refl _⟩
theorem RefAt.arm {w : World} {rb : Nat} {M : CM} (h : RefAt w rb M) (n : Int) :
    RefAt (w.setCell ⟨rb, 96, none⟩ (.int .i64 (max n (-1)))) rb { M with left := n } := by
  obtain ⟨rc, data, h1, h2, h3⟩ := h.cells
  exact ⟨_, data, h1.set _ _, (h2.setLeft (max n (-1))).stays h1 (by decide) (grow_set _ _ _ _), h3⟩
theorem writeE_ge (M : CM) (b : Int) (s : ByteArray) : 0 ≤ writeE M b s := by
  have hr : 0 ≤ readyE M b := by unfold readyE; (repeat' split) <;> decide
  unfold writeE
  split
  · exact hr
  · (repeat' split) <;> decide
theorem eraseE_ge (M : CM) (b : Int) : 0 ≤ eraseE M b := by
  have hr : 0 ≤ readyE M b := by unfold readyE; (repeat' split) <;> decide
  unfold eraseE
  split
  · exact hr
  · (repeat' split) <;> decide
theorem weakenE_ge (b : Int) : 0 ≤ weakenE b := by unfold weakenE; split <;> decide
theorem readR_ge (M : CM) (b p : Int) : 0 ≤ (readR M b p).2 := by
  unfold readR
  split
  · decide
  · split
    · split <;> simp
    · decide
end Go.Proofs.Ytpldeejagomfjaa
