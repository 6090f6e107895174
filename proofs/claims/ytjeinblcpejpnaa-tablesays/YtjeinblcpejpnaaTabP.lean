/- Tables: the closed fact of TableSays. -/
import Derived.Test.YtjeinblcpejpnaaTabO
import Derived.Test.YtjeinblcpejpnaaTabQ
namespace Go.Proofs.Ytjeinblcpejpnaa
open Go.RowKit Go.WideShapes
attribute [local go_sem ↓] Go.wp_at_zero Go.wp_at_succ

theorem same_zero (W : World) : Calls Try.prog 16 #[.nilIface, .int .i64 0] W fun e w' => e = .returned (.bool true) ∧ w' = W := by
  refine (same_nil 0 W).mono ?_
  rintro e w' ⟨rfl, rfl⟩
  exact ⟨rfl, rfl⟩
theorem same_no (f : Int) (W : World) (h : 0 < f) : Calls Try.prog 16 #[.iface 128 (.int .i64 f), .int .i64 f] W fun e w' => e = .returned (.bool true) ∧ w' = W := by
  refine (same_err f f W).mono ?_
  rintro e w' ⟨rfl, rfl⟩
  exact ⟨by simp [h], rfl⟩
theorem same_errV (f : Int) (W : World) (h : 0 ≤ f) : Calls Try.prog 16 #[errV f, .int .i64 f] W fun e w' => e = .returned (.bool true) ∧ w' = W := by
  unfold errV
  by_cases h0 : f = 0
  · subst h0; rw [if_pos rfl]; exact same_zero W
  · rw [if_neg h0]; exact same_no f W (by omega)
set_option maxRecDepth 20000 in
set_option maxHeartbeats 4000000 in
theorem tables_any (w : World) : Calls Try.prog 59 #[] w fun e w' => e = .returned (.bool true) ∧ Ext w w' := by
  obtain ⟨M1, M1', hM1, hM1', o1, o2, o3, o4⟩ : ∃ M1 M1', M1 = (writeT newM 3 [eKx]).1 ∧ M1' = (writeT newM 3 [eKx]).2 ∧ M1' = 0 ∧ TabAt M1 3 [eKx] ∧ Calm M1 ∧ (∀ c, M1.wr c ≤ 1) := by
    obtain ⟨o1, o2, o3, o4⟩ := newM_calm.table (b := 3) (by decide) tab_eKx (fun c => by show 0 ≤ 9; omega)
    rw [show ((3 : Nat) : Int) = 3 from rfl] at o1 o2 o3 o4
    refine ⟨_, _, rfl, rfl, o1, o2, o3, fun c => ?_⟩
    have h := o4 c
    rw [show newM.wr c = 0 from rfl] at h
    exact h
  have HW1 : Hid (∀ W v, ChipAt W w.heap.size newM → Blk W v #[.string ⟨#[107]⟩, .string ⟨#[120]⟩, .bool false] 30 → ¬ v = w.heap.size → Calls Try.prog 65 #[.pointer (some ⟨w.heap.size, 0, none⟩), .int .i64 3, .slice (some ⟨v, 0, none⟩) 1 1] W fun e w' => e = .returned .nilIface ∧ ChipAt w' w.heap.size M1 ∧ W.grownBy w' (some w.heap.size)) := fun W v hc hb hne => by
    have := tabWrite_any w.heap.size 3 (some ⟨v, 0, none⟩) 1 [eKx] newM W hc newM_calm.left newM_calm.wrOk (by simp) (by simp) (ents_one eKx hb) (fun _ a ha => by cases ha; exact hne)
    unfold WrEnd at this
    rw [← hM1', ← hM1, o1] at this
    exact this
  have HG1 : Hid (∀ W, ChipAt W w.heap.size M1 → Calls Try.prog 66 #[.pointer (some ⟨w.heap.size, 0, none⟩), .int .i64 3, .string ⟨#[107]⟩] W fun e w' => e = .returned (.tuple #[.agg #[.string ⟨#[107]⟩, .string ⟨#[120]⟩, .bool false], .bool true, .nilIface]) ∧ Ext W w') := fun W hc => by
    have := tabGet_any w.heap.size 3 [eKx] ⟨#[107]⟩ M1 W hc (o3.fine 0).pend o2 (by decide)
    rw [get_eKx] at this
    exact this
  clear o1 o2 o3 o4 hM1 hM1' M1'
  go_enter Try.func59, Try.ntmps59
  go_wp2_with (first
    | (go_at_call 26; refine (new_any w).mono ?_; rintro e w1 ⟨rfl, hc1, hx1, -⟩; have hlt1 := hc1.lt)
    | (go_at_call 65; refine (HW1.out _ w1.heap.size (hc1.ext ((Ext.refl w1).alloc _)) (Blk.new _ _ _) ?_).mono ?_; omega; rintro e w2 ⟨rfl, hc2, hg2⟩)
    | (go_at_call 66; refine (HG1.out _ hc2).mono ?_; rintro e w3 ⟨rfl, hx3⟩)
    | (go_at_call 16; refine (same_zero _).mono ?_; rintro e w4 ⟨rfl, rfl⟩))
  go_ret
  exact ⟨rfl, ((((hx1.alloc _).grownC hg2 (Nat.le_refl _)).trans hx3)).alloc _⟩
end Go.Proofs.Ytjeinblcpejpnaa
