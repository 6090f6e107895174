
/- The document's chip: Restart, where nothing waits, or nothing is done, or a block is erased. -/
import Derived.Test.YtpldeejagomfjaaRefE
namespace Go.Proofs.Ytpldeejagomfjaa
open Go.RowKit Go.WideShapes

theorem RefAt.fin {w : World} {rb : Nat} {M : CM} (h : RefAt w rb M) :
    RefAt (((w.setCell ⟨rb, 98, none⟩ (.int .i64 0)).setCell ⟨rb, 97, none⟩ (.bool false)).setCell ⟨rb, 96, none⟩ (.int .i64 (-1))) rb { M with left := -1, pend := none } ∧
    w.grownBy (((w.setCell ⟨rb, 98, none⟩ (.int .i64 0)).setCell ⟨rb, 97, none⟩ (.bool false)).setCell ⟨rb, 96, none⟩ (.int .i64 (-1))) (some rb) := by
  obtain ⟨rc, data, h1, h2, h3⟩ := h.cells
  have k1 := h1.set 98 (.int .i64 0)
  have k2 := k1.set 97 (.bool false)
  have r1 := (h2.setHalf 0).stays h1 (by decide) (grow_set w rb 98 (.int .i64 0))
  have r2 := (r1.setDown false).stays k1 (by decide) (grow_set _ rb 97 (.bool false))
  have r3 := (r2.setLeft (-1)).stays k2 (by decide) (grow_set _ rb 96 (.int .i64 (-1)))
  exact ⟨⟨_, data, k2.set _ _, r3, fun b d e => by cases e⟩, grow_trans (grow_trans (grow_set _ _ _ _) (grow_set _ _ _ _)) (grow_set _ _ _ _)⟩
theorem RefAt.tail {w : World} {rb : Nat} {M : CM} (h : RefAt w rb M) :
    w.cell? ⟨rb, 98, none⟩ = some (.int .i64 (tornN M.pend)) ∧ w.cell? ⟨rb, 97, none⟩ = some (.bool (downB M)) ∧ w.cell? ⟨rb, 96, none⟩ = some (.int .i64 (max M.left (-1))) ∧ (∃ data, w.cell? ⟨rb, 99, none⟩ = some (.string data) ∧ ∀ b d, M.pend = some (.write b d) → data = txtL d) ∧ (∀ i, w.frozen? ⟨rb, i, none⟩ = false) ∧ rb < w.heap.size := by
  obtain ⟨rc, data, h1, h2, h3⟩ := h.cells
  exact ⟨by rw [h1.cell, h2.chalf], by rw [h1.cell, h2.cdown], by rw [h1.cell, h2.cleft], ⟨data, by rw [h1.cell, h2.cdata], h3⟩, h1.free, h1.lt⟩

set_option maxRecDepth 100000 in
set_option maxHeartbeats 4000000 in
/-- Nothing is done. -/
theorem rrestart_not (rb : Nat) (how : Int) (M : CM) (w : World) (h : RefAt w rb M) (hq : M.pend = none ∨ (¬ how = 1 ∧ ¬ how = 2)) (hm : MOk M) :
    Calls Try.prog 39 #[.pointer (some ⟨rb, 0, none⟩), .int .i64 how] w fun e w' => e = .returned (.tuple #[]) ∧ RefAt w' rb { M with left := -1, pend := none } ∧ w.grownBy w' (some rb) := by
  obtain ⟨c98, c97, c96, ⟨data, c99, _⟩, f0, hlt⟩ := h.tail
  have hF := h.fin
  have HF : Hid (RefAt (((w.setCell ⟨rb, 98, none⟩ (.int .i64 0)).setCell ⟨rb, 97, none⟩ (.bool false)).setCell ⟨rb, 96, none⟩ (.int .i64 (-1))) rb { M with left := -1, pend := none } ∧
    w.grownBy (((w.setCell ⟨rb, 98, none⟩ (.int .i64 0)).setCell ⟨rb, 97, none⟩ (.bool false)).setCell ⟨rb, 96, none⟩ (.int .i64 (-1))) (some rb)) := hF
  clear hF
  have f98 := f0 98
  have f97 := f0 97
  have f96 := f0 96
  clear f0
  rcases hq with hp | ⟨h1, h2⟩
  · rw [hp] at c98
    have c98' : w.cell? ⟨rb, 98, none⟩ = some (.int .i64 0) := c98
    clear c98
    generalize downB M = y at *
    generalize max M.left (-1) = z at *
    go_enter Try.func39, Try.ntmps39
    go_wp2
    go_end0
    exact ⟨rfl, HF.out⟩
  · have h1' : (how == 1) = false := by simpa using h1
    have h2' : (how == 2) = false := by simpa using h2
    have hn0 : 0 ≤ tornN M.pend ∧ tornN M.pend ≤ 9223372036854775807 := by
      cases hp : M.pend with
      | none => simp [tornN]
      | some p =>
        cases p with
        | write b d => have := (hm.wb b d hp).1; simp only [tornN]; omega
        | erase b => have := hm.eb b hp; simp only [tornN]; omega
    generalize downB M = y at *
    generalize max M.left (-1) = z at *
    generalize tornN M.pend = tn at *
    by_cases q1 : 100 < tn
    · go_enter Try.func39, Try.ntmps39
      go_wp2
      go_end0
      exact ⟨rfl, HF.out⟩
    · have q1' : tn ≤ 100 := by omega
      by_cases q2 : 0 < tn
      · go_enter Try.func39, Try.ntmps39
        go_wp2
        go_end0
        exact ⟨rfl, HF.out⟩
      · have q3 : tn = 0 := by omega
        subst q3
        go_enter Try.func39, Try.ntmps39
        go_wp2
        go_end0
        exact ⟨rfl, HF.out⟩

set_option maxRecDepth 100000 in
set_option maxHeartbeats 4000000 in
/-- A block is erased. -/
theorem rrestart_e2 (rb b : Nat) (M : CM) (w : World) (h : RefAt w rb M) (hb : b < 24) (hp : M.pend = some (.erase b)) (hwr : M.wr b ≤ 1000000000) :
    Calls Try.prog 39 #[.pointer (some ⟨rb, 0, none⟩), .int .i64 2] w fun e w' => e = .returned (.tuple #[]) ∧ RefAt w' rb { wipeM M b [] with left := -1, pend := none } ∧ w.grownBy w' (some rb) := by
  obtain ⟨c98, c97, c96, ⟨data, c99, _⟩, f0, hlt⟩ := h.tail
  rw [hp] at c98
  have c98' : w.cell? ⟨rb, 98, none⟩ = some (.int .i64 (101 + (b : Int))) := c98
  have hwp := h.wipe hb (M.wr b + 1)
  obtain ⟨so, cap, k0, _⟩ := h.row hb
  obtain ⟨_, _, k3, _, _⟩ := h.at hb
  have fb := f0 b
  have fw := f0 (24 + b)
  have f98 := f0 98
  have f97 := f0 97
  have f96 := f0 96
  have hb0 : (0 : Int) ≤ (b : Int) := by omega
  have hb24 : (b : Int) < 24 := by omega
  have hbn : 101 + (b : Int) - 101 = (b : Int) := by omega
  clear f0 c98
  generalize downB M = y at *
  generalize max M.left (-1) = z at *
  generalize hnr : M.wr b = nr at *
  have n1 : ¬ (24 + b = b) := by omega
  have n2 : ¬ (b = 24 + b) := by omega
  have n3 : ¬ (98 = b) := by omega
  have n4 : ¬ (98 = 24 + b) := by omega
  have n5 : ¬ (97 = b) := by omega
  have n6 : ¬ (97 = 24 + b) := by omega
  have n7 : ¬ (96 = b) := by omega
  have n8 : ¬ (96 = 24 + b) := by omega
  go_enter Try.func39, Try.ntmps39
  go_wp2
  go_big_region
  all_goals go_wp2_with fail
  have hwp2 := hwp.ext ((Ext.refl _).drew)
  have hgw : w.grownBy (((w.setCell ⟨rb, b, none⟩ (.slice none 0 0)).setCell ⟨rb, 24 + b, none⟩ (.int .i64 ((nr + 1 : Nat) : Int))).drew) (some rb) := grow_trans (grow_trans (grow_set _ _ _ _) (grow_set _ _ _ _)) (grow_ext ((Ext.refl _).drew) _)
  have hcast : ((nr + 1 : Nat) : Int) = (nr : Int) + 1 := by omega
  rw [hcast] at hwp2 hgw
  clear hwp
  generalize (((w.setCell ⟨rb, b, none⟩ (.slice none 0 0)).setCell ⟨rb, 24 + b, none⟩ (.int .i64 ((nr : Int) + 1))).drew) = W at *
  obtain ⟨d98, d97, d96, _, g0, hltW⟩ := hwp2.tail
  have e98 := g0 98
  have e97 := g0 97
  have e96 := g0 96
  have hF := hwp2.fin
  clear g0 hwp2 c97 c96 c98' k0 k3 fb fw f98 f97 f96 c99
  generalize downB _ = y2 at d97
  generalize max _ (-1) = z2 at d96
  generalize tornN _ = t2 at d98
  go_loopw [5] (fun i wx => i = .int .i64 0 ∧ wx = W) (fun _ _ => 0)
  case atStart => exact ⟨rfl, rfl⟩
  case round =>
    obtain ⟨rfl, rfl⟩ := hrel
    go_wp2
    go_end0
    subst hnr
    exact ⟨rfl, hF.1, grow_trans hgw hF.2⟩
end Go.Proofs.Ytpldeejagomfjaa
