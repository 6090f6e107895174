
/- Restart. -/
import Derived.Test.YtpldeejagomfjaaChpF
namespace Go.Proofs.Ytpldeejagomfjaa
open Go.RowKit

def stepped (M : CM) (p : Pend) (how : Int) : CM := if how = 2 then doneM M p else if how = 1 then halfM M p else M
def restartM (M : CM) (how : Int) : CM := match M.pend with
  | none => { M with left := -1, pend := none }
  | some p => { stepped M p how with left := -1, pend := none }

set_option maxRecDepth 100000 in
set_option maxHeartbeats 1000000 in
theorem fell_none (b1 b2 : Nat) (how : Int) (w : World) (h1 : ¬ how = 1) (h2 : ¬ how = 2) :
    Calls Try.prog 104 #[.int .i64 how, .pointer (some ⟨b1, 0, none⟩), .pointer (some ⟨b2, 0, none⟩)] w fun e w' => e = .returned (.tuple #[]) ∧ w' = w := by
  have h1' : (how == 1) = false := by simpa using h1
  have h2' : (how == 2) = false := by simpa using h2
  clear h1 h2
  go_enter Try.func104, Try.ntmps104
  go_wp2
  go_end0
  exact ⟨rfl, rfl⟩

set_option maxRecDepth 100000 in
set_option maxHeartbeats 1000000 in
theorem fell_46 (cb b1 b2 : Nat) (c : Array Value) (M' : CM) (w : World) (hb : Blk w b1 #[.func (.func 86) #[] c] 1)
    (hf : Calls Try.prog 86 c w fun e w' => e = .returned (.tuple #[]) ∧ CellsAt w' cb M' ∧ w.grownBy w' (some cb)) :
    Calls Try.prog 104 #[.int .i64 2, .pointer (some ⟨b1, 0, none⟩), .pointer (some ⟨b2, 0, none⟩)] w fun e w' => e = .returned (.tuple #[]) ∧ CellsAt w' cb M' ∧ w.grownBy w' (some cb) := by
  have B0 := hb.cell 0
  simp only [List.getElem?_toArray, List.getElem?_cons_zero] at B0
  have HF : Hid (Calls Try.prog 86 c w fun e w' => e = .returned (.tuple #[]) ∧ CellsAt w' cb M' ∧ w.grownBy w' (some cb)) := hf
  clear hf hb
  go_enter Try.func104, Try.ntmps104
  go_wp2_with (go_at_call 86; refine HF.out.mono ?_; rintro e w' ⟨rfl, hc, hg⟩)
  go_end0
  exact ⟨rfl, hc, hg⟩

set_option maxRecDepth 100000 in
set_option maxHeartbeats 1000000 in
theorem fell_48 (cb b1 b2 : Nat) (c : Array Value) (M' : CM) (w : World) (hb : Blk w b2 #[.func (.func 88) #[] c] 1)
    (hf : Calls Try.prog 88 c w fun e w' => e = .returned (.tuple #[]) ∧ CellsAt w' cb M' ∧ w.grownBy w' (some cb)) :
    Calls Try.prog 104 #[.int .i64 1, .pointer (some ⟨b1, 0, none⟩), .pointer (some ⟨b2, 0, none⟩)] w fun e w' => e = .returned (.tuple #[]) ∧ CellsAt w' cb M' ∧ w.grownBy w' (some cb) := by
  have B0 := hb.cell 0
  simp only [List.getElem?_toArray, List.getElem?_cons_zero] at B0
  have HF : Hid (Calls Try.prog 88 c w fun e w' => e = .returned (.tuple #[]) ∧ CellsAt w' cb M' ∧ w.grownBy w' (some cb)) := hf
  clear hf hb
  go_enter Try.func104, Try.ntmps104
  go_wp2_with (go_at_call 88; refine HF.out.mono ?_; rintro e w' ⟨rfl, hc, hg⟩)
  go_end0
  exact ⟨rfl, hc, hg⟩

set_option maxRecDepth 100000 in
set_option maxHeartbeats 1000000 in
theorem fell_51 (cb b1 b2 : Nat) (c : Array Value) (M' : CM) (w : World) (hb : Blk w b1 #[.func (.func 91) #[] c] 1)
    (hf : Calls Try.prog 91 c w fun e w' => e = .returned (.tuple #[]) ∧ CellsAt w' cb M' ∧ w.grownBy w' (some cb)) :
    Calls Try.prog 104 #[.int .i64 2, .pointer (some ⟨b1, 0, none⟩), .pointer (some ⟨b2, 0, none⟩)] w fun e w' => e = .returned (.tuple #[]) ∧ CellsAt w' cb M' ∧ w.grownBy w' (some cb) := by
  have B0 := hb.cell 0
  simp only [List.getElem?_toArray, List.getElem?_cons_zero] at B0
  have HF : Hid (Calls Try.prog 91 c w fun e w' => e = .returned (.tuple #[]) ∧ CellsAt w' cb M' ∧ w.grownBy w' (some cb)) := hf
  clear hf hb
  go_enter Try.func104, Try.ntmps104
  go_wp2_with (go_at_call 91; refine HF.out.mono ?_; rintro e w' ⟨rfl, hc, hg⟩)
  go_end0
  exact ⟨rfl, hc, hg⟩

set_option maxRecDepth 100000 in
set_option maxHeartbeats 1000000 in
theorem fell_53 (cb b1 b2 : Nat) (c : Array Value) (M' : CM) (w : World) (hb : Blk w b2 #[.func (.func 93) #[] c] 1)
    (hf : Calls Try.prog 93 c w fun e w' => e = .returned (.tuple #[]) ∧ CellsAt w' cb M' ∧ w.grownBy w' (some cb)) :
    Calls Try.prog 104 #[.int .i64 1, .pointer (some ⟨b1, 0, none⟩), .pointer (some ⟨b2, 0, none⟩)] w fun e w' => e = .returned (.tuple #[]) ∧ CellsAt w' cb M' ∧ w.grownBy w' (some cb) := by
  have B0 := hb.cell 0
  simp only [List.getElem?_toArray, List.getElem?_cons_zero] at B0
  have HF : Hid (Calls Try.prog 93 c w fun e w' => e = .returned (.tuple #[]) ∧ CellsAt w' cb M' ∧ w.grownBy w' (some cb)) := hf
  clear hf hb
  go_enter Try.func104, Try.ntmps104
  go_wp2_with (go_at_call 93; refine HF.out.mono ?_; rintro e w' ⟨rfl, hc, hg⟩)
  go_end0
  exact ⟨rfl, hc, hg⟩

theorem fell_any (cb : Nat) (how : Int) (p : Pend) (M : CM) (w : World) (h : ChipAt w cb M) (hp : M.pend = some p) (hwr : WrOk M) :
    ∃ b1 b2, w.cell? ⟨cb, 12577, none⟩ = some (fellV b1 b2) ∧
      Calls Try.prog 104 #[.int .i64 how, .pointer (some ⟨b1, 0, none⟩), .pointer (some ⟨b2, 0, none⟩)] w fun e w' => e = .returned (.tuple #[]) ∧ CellsAt w' cb (stepped M p how) ∧ w.grownBy w' (some cb) := by
  obtain ⟨hcells, hok⟩ := h
  have hcells' : CellsAt w cb M := hcells
  obtain ⟨cs, fv, k1, k2, k3⟩ := hcells
  have hc := k1.cell 12577
  rw [k2.fell] at hc
  rw [hp] at k3
  have hnone : ∀ b1 b2, ¬ how = 1 → ¬ how = 2 → Calls Try.prog 104 #[.int .i64 how, .pointer (some ⟨b1, 0, none⟩), .pointer (some ⟨b2, 0, none⟩)] w fun e w' => e = .returned (.tuple #[]) ∧ CellsAt w' cb (stepped M p how) ∧ w.grownBy w' (some cb) := by
    intro b1 b2 h1 h2
    refine (fell_none b1 b2 how w h1 h2).mono ?_
    rintro e w' ⟨rfl, rfl⟩
    refine ⟨rfl, ?_, grow_refl _ _⟩
    unfold stepped; rw [if_neg h2, if_neg h1]; exact hcells'
  match p, k3 with
  | .write b d, ⟨b1, b2, kb, pb, e, n1, n2, n3, n4, hb, hd, j1, j2, j3, j4⟩ =>
    refine ⟨b1, b2, by rw [hc, e], ?_⟩
    by_cases h2 : how = 2
    · subst h2
      exact fell_46 cb b1 b2 _ _ w j1 (write1_any cb b kb pb M d w hb (hok b d hp) hd hcells' j3 j4)
    · by_cases h1 : how = 1
      · subst h1
        exact fell_48 cb b1 b2 _ _ w j2 (write2_any cb b kb M w hb (hok b d hp) hcells' j3)
      · exact hnone b1 b2 h1 h2
  | .erase b, ⟨b1, b2, kb, e, n1, n2, n3, hb, j1, j2, j3⟩ =>
    refine ⟨b1, b2, by rw [hc, e], ?_⟩
    by_cases h2 : how = 2
    · subst h2
      exact fell_51 cb b1 b2 _ _ w j1 (erase1_any cb b kb M w hb (hwr b hb) hcells' j3)
    · by_cases h1 : how = 1
      · subst h1
        exact fell_53 cb b1 b2 _ _ w j2 (erase2_any cb b kb M w hb (hwr b hb) hcells' j3)
      · exact hnone b1 b2 h1 h2

theorem CellsAt.fin {w : World} {cb : Nat} {M : CM} (h : CellsAt w cb M) : ChipAt ((w.setCell ⟨cb, 12577, none⟩ .nilFunc).setCell ⟨cb, 12576, none⟩ (.int .i64 (-1))) cb { M with left := -1, pend := none } ∧ w.grownBy ((w.setCell ⟨cb, 12577, none⟩ .nilFunc).setCell ⟨cb, 12576, none⟩ (.int .i64 (-1))) (some cb) := by
  have h1 := (h.setFell .nilFunc none rfl).setLeft (-1)
  exact ⟨⟨h1, fun b d e => by cases e⟩, grow_trans (grow_set _ _ _ _) (grow_set _ _ _ _)⟩

set_option maxRecDepth 100000 in
set_option maxHeartbeats 1000000 in
theorem restart_any (cb : Nat) (how : Int) (M : CM) (w : World) (h : ChipAt w cb M) (hwr : WrOk M) :
    Calls Try.prog 38 #[.pointer (some ⟨cb, 0, none⟩), .int .i64 how] w fun e w' => e = .returned (.tuple #[]) ∧ ChipAt w' cb (restartM M how) ∧ w.grownBy w' (some cb) := by
  have n0 := neq_nil
  have n1 := neq_fn
  cases hp : M.pend with
  | none =>
    have HM : Hid (restartM M how = { M with left := -1, pend := none }) := by unfold restartM Hid; rw [hp]
    have hcl : CellsAt w cb M := h.cells
    rcases h.down with ⟨_, hc⟩ | ⟨hd, _⟩
    · obtain ⟨L0, L1⟩ := hcl.left
      obtain ⟨_, F1⟩ := hcl.fell
      have hfin := hcl.fin
      clear h hcl hp hwr
      generalize M.left = lf at *
      go_enter Try.func38, Try.ntmps38
      go_wp2
      go_end0
      refine ⟨rfl, ?_, hfin.2⟩
      rw [HM.out]; exact hfin.1
    · unfold downB at hd; rw [hp] at hd; cases hd
  | some p =>
    have HM : Hid (restartM M how = { stepped M p how with left := -1, pend := none }) := by unfold restartM Hid; rw [hp]
    obtain ⟨b1, b2, hc, hf⟩ := fell_any cb how p M w h hp hwr
    unfold fellV at hc
    have HF : Hid (Calls Try.prog 104 #[.int .i64 how, .pointer (some ⟨b1, 0, none⟩), .pointer (some ⟨b2, 0, none⟩)] w fun e w' => e = .returned (.tuple #[]) ∧ CellsAt w' cb (stepped M p how) ∧ w.grownBy w' (some cb)) := hf
    clear hf h hp hwr
    go_enter Try.func38, Try.ntmps38
    go_wp2_with (go_at_call 104; refine HF.out.mono ?_; rintro e w' ⟨rfl, hcl, hg⟩; obtain ⟨L0, L1⟩ := hcl.left; obtain ⟨⟨v, F0⟩, F1⟩ := hcl.fell)
    go_end0
    refine ⟨rfl, ?_, grow_trans hg hcl.fin.2⟩
    rw [HM.out]; exact hcl.fin.1

end Go.Proofs.Ytpldeejagomfjaa
