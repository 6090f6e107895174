
/- The walk of TopOnce. -/
import Derived.Test.YtpldeejagomfjaaActD
import Derived.Deep.QuietTactic
import Derived.BigQuiet
namespace Go.Proofs.Ytpldeejagomfjaa
open Go.RowKit

def actV (e : ActE) : Array Value := #[.string e.kind, .string e.s, .int .i64 e.a, .int .i64 e.b, .slice e.ao e.es.length e.cap]
def m3 : CM := writeM newM 3 ⟨#[120]⟩
theorem m3_e : writeE newM 3 ⟨#[120]⟩ = 0 := by decide +kernel
theorem m3_n : (m3.pg 3).length = 1 := by decide +kernel
theorem write3 (cb : Nat) (w : World) (h : ChipAt w cb newM) :
    Calls Try.prog 31 #[.pointer (some ⟨cb, 0, none⟩), .int .i64 3, .string ⟨#[120]⟩] w fun e w' => e = .returned .nilIface ∧ ChipAt w' cb m3 ∧ w.grownBy w' (some cb) := by
  refine (write_any cb 3 ⟨#[120]⟩ newM w h (by decide) (by decide)).mono ?_
  rintro e w' ⟨rfl, hc, hg⟩
  exact ⟨by rw [m3_e]; rfl, hc, hg⟩
theorem next3 (cb : Nat) (w : World) (h : ChipAt w cb m3) :
    Calls Try.prog 43 #[.pointer (some ⟨cb, 0, none⟩), .int .i64 3] w fun e w' => e = .returned (.int .i64 1) ∧ w' = w := by
  refine (next_any cb 3 m3 w (by decide) h).mono ?_
  rintro e w' ⟨rfl, rfl⟩
  exact ⟨by rw [m3_n]; rfl, rfl⟩
theorem acts_one {w : World} {b : Nat} {e : ActE} {t : TypeId} (h : Blk w b (actV e) t) (hok : ActOk w e) : ActsAt w (some ⟨b, 0, none⟩) [e] := by
  intro _
  refine ⟨b, 0, rfl, fun i x hx => ?_⟩
  cases i with
  | zero =>
    simp at hx; subst hx
    exact ⟨by rw [h.cell]; rfl, by rw [h.cell]; rfl, by rw [h.cell]; rfl, by rw [h.cell]; rfl, by rw [h.cell]; rfl, hok⟩
  | succ i => simp at hx

set_option maxRecDepth 100000 in
set_option maxHeartbeats 4000000 in
theorem topOnce_dark (ao : Option Addr) (cap : Nat) (acs : List ActE) (e : ActE) (w : World) (hl : acs.length ≤ 9223372036854775807) (has : ActsAt w ao acs) (hli : lightActs acs 80 = false) :
    Calls Try.prog 6 #[.slice ao acs.length cap, .agg (actV e)] w fun r w' => r = .returned (.bool true) ∧ Ext w w' := by
  have hx0 : Ext w (w.alloc (.cells (actV e) 49)) := (Ext.refl w).alloc _
  unfold actV at *
  go_enter Try.func6, Try.ntmps6
  go_wp2_with (first
    | (go_at_call 29; refine (new_any _).mono ?_; rintro r w1 ⟨rfl, hc1, hx1, hs1⟩; simp only [World.size_alloc] at hc1)
    | (go_at_call 31; refine (write3 _ _ hc1).mono ?_; rintro r w2 ⟨rfl, hc2, hg2⟩)
    | (go_at_call 43; refine (next3 _ _ hc2).mono ?_; rintro r w3 ⟨rfl, rfl⟩)
    | (go_at_call 28; refine (lightActs_any ao cap acs 80 _ (by omega) hl (has.ext ((hx0.trans hx1).grown2 hg2 (Nat.le_succ _)))).mono ?_; rw [hli]; rintro r w4 ⟨rfl, rfl⟩))
  go_ret
  exact ⟨rfl, (hx0.trans hx1).grown2 hg2 (Nat.le_succ _)⟩

theorem act_cells {w : World} {b : Nat} {e : ActE} {t : TypeId} (h : Blk w b (actV e) t) : w.cell? ⟨b, 0, none⟩ = some (.string e.kind) ∧ w.cell? ⟨b, 1, none⟩ = some (.string e.s) ∧ w.cell? ⟨b, 2, none⟩ = some (.int .i64 e.a) ∧ w.cell? ⟨b, 3, none⟩ = some (.int .i64 e.b) ∧ w.cell? ⟨b, 4, none⟩ = some (.slice e.ao e.es.length e.cap) :=
  ⟨by rw [h.cell]; rfl, by rw [h.cell]; rfl, by rw [h.cell]; rfl, by rw [h.cell]; rfl, by rw [h.cell]; rfl⟩

set_option maxRecDepth 100000 in
set_option maxHeartbeats 4000000 in
theorem topOnce_dark2 (ao : Option Addr) (cap : Nat) (acs : List ActE) (e : ActE) (w : World) (hl : acs.length ≤ 9223372036854775807) (has : ActsAt w ao acs) (hok : ActOk w e) (hli : lightActs acs 80 = true) (hl1 : lightActs [e] 1 = false ∨ (lightActs [e] 1 = true ∧ (e.a < 0 ∨ 24 ≤ e.a))) :
    Calls Try.prog 6 #[.slice ao acs.length cap, .agg (actV e)] w fun r w' => r = .returned (.bool true) ∧ Ext w w' := by
  have hx0 : Ext w (w.alloc (.cells (actV e) 49)) := (Ext.refl w).alloc _
  have hA0 : Blk (w.alloc (.cells (actV e) 49)) w.heap.size (actV e) 49 := Blk.new _ _ _
  generalize hav : actV e = av at hx0 hA0
  unfold actV at hav
  subst hav
  have fin : ∀ (x : Bool), lightActs [e] 1 = x → (x = false ∨ (x = true ∧ (e.a < 0 ∨ 24 ≤ e.a))) → Calls Try.prog 6 #[.slice ao acs.length cap, .agg #[.string e.kind, .string e.s, .int .i64 e.a, .int .i64 e.b, .slice e.ao e.es.length e.cap]] w fun r w' => r = .returned (.bool true) ∧ Ext w w' := by
    intro x hx hcase
    rcases hcase with rfl | ⟨rfl, hcase⟩
    · go_enter Try.func6, Try.ntmps6
      go_wp2_with (first
        | (go_at_call 29; refine (new_any _).mono ?_; rintro r w1 ⟨rfl, hc1, hx1, hs1⟩; simp only [World.size_alloc] at hc1)
        | (go_at_call 31; refine (write3 _ _ hc1).mono ?_; rintro r w2 ⟨rfl, hc2, hg2⟩; obtain ⟨a0, a1, a2, a3, a4⟩ := act_cells ((hA0.ext hx1).grown hg2 (by omega)))
        | (go_at_call 43; refine (next3 _ _ hc2).mono ?_; rintro r w3 ⟨rfl, rfl⟩)
        | (go_at_call_of 28 (Value.int .i64 80); refine (lightActs_any ao cap acs 80 _ (by omega) hl (has.ext ((hx0.trans hx1).grown2 hg2 (Nat.le_succ _)))).mono ?_; rw [hli]; rintro r w4 ⟨rfl, rfl⟩)
        | (go_at_call_of 28 (Value.int .i64 1); refine (lightActs_any _ 1 [e] 1 _ (by omega) (by simp) (acts_one (Blk.new _ _ _) (hok.ext (((hx0.trans hx1).grown2 hg2 (Nat.le_succ _)).alloc _)))).mono ?_; rw [hx]; rintro r w5 ⟨rfl, rfl⟩))
      go_ret
      exact ⟨rfl, ((hx0.trans hx1).grown2 hg2 (Nat.le_succ _)).alloc _⟩
    · rcases hcase with hneg | hbig
      · go_enter Try.func6, Try.ntmps6
        go_wp2_with (first
          | (go_at_call 29; refine (new_any _).mono ?_; rintro r w1 ⟨rfl, hc1, hx1, hs1⟩; simp only [World.size_alloc] at hc1)
          | (go_at_call 31; refine (write3 _ _ hc1).mono ?_; rintro r w2 ⟨rfl, hc2, hg2⟩; obtain ⟨a0, a1, a2, a3, a4⟩ := act_cells ((hA0.ext hx1).grown hg2 (by omega)); have hbl := lt_of_cell2 a0)
          | (go_at_call 43; refine (next3 _ _ hc2).mono ?_; rintro r w3 ⟨rfl, rfl⟩)
          | (go_at_call_of 28 (Value.int .i64 80); refine (lightActs_any ao cap acs 80 _ (by omega) hl (has.ext ((hx0.trans hx1).grown2 hg2 (Nat.le_succ _)))).mono ?_; rw [hli]; rintro r w4 ⟨rfl, rfl⟩)
          | (go_at_call_of 28 (Value.int .i64 1); refine (lightActs_any _ 1 [e] 1 _ (by omega) (by simp) (acts_one (Blk.new _ _ _) (hok.ext (((hx0.trans hx1).grown2 hg2 (Nat.le_succ _)).alloc _)))).mono ?_; rw [hx]; rintro r w5 ⟨rfl, rfl⟩))
        go_ret
        exact ⟨rfl, ((hx0.trans hx1).grown2 hg2 (Nat.le_succ _)).alloc _⟩
      · have hnn : ¬ e.a < 0 := by omega
        go_enter Try.func6, Try.ntmps6
        go_wp2_with (first
          | (go_at_call 29; refine (new_any _).mono ?_; rintro r w1 ⟨rfl, hc1, hx1, hs1⟩; simp only [World.size_alloc] at hc1)
          | (go_at_call 31; refine (write3 _ _ hc1).mono ?_; rintro r w2 ⟨rfl, hc2, hg2⟩; obtain ⟨a0, a1, a2, a3, a4⟩ := act_cells ((hA0.ext hx1).grown hg2 (by omega)); have hbl := lt_of_cell2 a0)
          | (go_at_call 43; refine (next3 _ _ hc2).mono ?_; rintro r w3 ⟨rfl, rfl⟩)
          | (go_at_call_of 28 (Value.int .i64 80); refine (lightActs_any ao cap acs 80 _ (by omega) hl (has.ext ((hx0.trans hx1).grown2 hg2 (Nat.le_succ _)))).mono ?_; rw [hli]; rintro r w4 ⟨rfl, rfl⟩)
          | (go_at_call_of 28 (Value.int .i64 1); refine (lightActs_any _ 1 [e] 1 _ (by omega) (by simp) (acts_one (Blk.new _ _ _) (hok.ext (((hx0.trans hx1).grown2 hg2 (Nat.le_succ _)).alloc _)))).mono ?_; rw [hx]; rintro r w5 ⟨rfl, rfl⟩))
        go_ret
        exact ⟨rfl, ((hx0.trans hx1).grown2 hg2 (Nat.le_succ _)).alloc _⟩
  exact fin _ rfl hl1

end Go.Proofs.Ytpldeejagomfjaa
