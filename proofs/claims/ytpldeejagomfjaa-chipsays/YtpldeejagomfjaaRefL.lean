
/- The document's chip is as the chip: asChip. And a first look: chips. -/
import Derived.Test.YtpldeejagomfjaaChpW
import Derived.Test.YtpldeejagomfjaaRefB
import Derived.Deep.QuietTactic
import Derived.BigQuiet
namespace Go.Proofs.Ytpldeejagomfjaa
open Go.RowKit Go.WideShapes

theorem RefAt.cells4 {w : World} {rb : Nat} {M : CM} (h : RefAt w rb M) {b : Nat} (hb : b < 24) :
    w.cell? ⟨rb, 72 + b, none⟩ = some (.bool (M.bd b)) ∧ w.cell? ⟨rb, 24 + b, none⟩ = some (.int .i64 (M.wr b : Int)) ∧ ∃ so cap, w.cell? ⟨rb, b, none⟩ = some (.slice so (M.pg b).length cap) := by
  obtain ⟨so, cap, c0, _⟩ := h.row hb
  obtain ⟨rc, data, h1, h2, h3⟩ := h.cells
  exact ⟨by rw [h1.cell, h2.cbd b hb], by rw [h1.cell, h2.cwr b hb], so, cap, c0⟩

theorem bad_q (cb b : Nat) (M : CM) (x : Bool) (w : World) (hb : b < 24) (hx : M.bd b = x) (h : ChipAt w cb M) : Calls Try.prog 95 #[.pointer (some ⟨cb, 0, none⟩), .int .i64 (b : Int)] w fun e w' => e = .returned (.bool x) ∧ ∃ m, w' = w.drewN m := by
  refine (bad_any cb b M w hb h).mono ?_
  rintro e w' ⟨rfl, rfl⟩
  exact ⟨by rw [hx], 0, rfl⟩
theorem wear_q (cb b : Nat) (M : CM) (x : Nat) (w : World) (hb : b < 24) (hx : M.wr b = x) (h : ChipAt w cb M) : Calls Try.prog 46 #[.pointer (some ⟨cb, 0, none⟩), .int .i64 (b : Int)] w fun e w' => e = .returned (.int .i64 (x : Int)) ∧ ∃ m, w' = w.drewN m := by
  refine (wear_any cb b M w hb h).mono ?_
  rintro e w' ⟨rfl, rfl⟩
  exact ⟨by rw [hx], 0, rfl⟩
theorem next_q (cb b : Nat) (M : CM) (x : Nat) (w : World) (hb : b < 24) (hx : (M.pg b).length = x) (h : ChipAt w cb M) : Calls Try.prog 43 #[.pointer (some ⟨cb, 0, none⟩), .int .i64 (b : Int)] w fun e w' => e = .returned (.int .i64 (x : Int)) ∧ ∃ m, w' = w.drewN m := by
  refine (next_any cb b M w hb h).mono ?_
  rintro e w' ⟨rfl, rfl⟩
  exact ⟨by rw [hx], 0, rfl⟩
theorem down_q (cb : Nat) (M : CM) (x : Bool) (w : World) (hx : downB M = x) (h : ChipAt w cb M) : Calls Try.prog 48 #[.pointer (some ⟨cb, 0, none⟩)] w fun e w' => e = .returned (.bool x) ∧ ∃ m, w' = w.drewN m := by
  refine (down_any cb M w h).mono ?_
  rintro e w' ⟨rfl, rfl⟩
  exact ⟨by rw [hx], 0, rfl⟩

set_option maxRecDepth 100000 in
set_option maxHeartbeats 4000000 in
theorem asChip_any (cb rb : Nat) (M : CM) (w : World) (hc : ChipAt w cb M) (h : RefAt w rb M) :
    Calls Try.prog 42 #[.pointer (some ⟨cb, 0, none⟩), .pointer (some ⟨rb, 0, none⟩)] w fun e w' => e = .returned (.bool true) ∧ Ext w w' := by
  go_enter Try.func42, Try.ntmps42
  go_wp2_with fail
  go_loopw [5] (fun i wx => ∃ b : Nat, b ≤ 24 ∧ i = .int .i64 b ∧ Ext w wx) (fun i _ => 24 - (intOf i).toNat)
  case atStart => exact ⟨0, Nat.zero_le _, rfl, Ext.refl w⟩
  case round =>
    obtain ⟨b, hb24, rfl, hx⟩ := hrel
    have hcx := hc.ext hx
    have hrx := h.ext hx
    by_cases hb : b < 24
    · have hb' : (b : Int) < 24 := by omega
      have hb0 : (0 : Int) ≤ (b : Int) := by omega
      obtain ⟨c1, c2, so, cap, c3⟩ := hrx.cells4 hb
      have t1 : (M.bd b != M.bd b) = false := by simp
      have t2 : ((M.wr b : Int) != (M.wr b : Int)) = false := by simp
      have t3 : (((M.pg b).length : Int) != ((M.pg b).length : Int)) = false := by simp
      generalize hbd : M.bd b = bd at *
      generalize hwn : M.wr b = wn at *
      generalize hpg : (M.pg b).length = n at *
      go_wp2_with fail
      go_quiet (first
        | (go_at_call 95; refine Calls.quiet_of (bad_q cb b M bd _ hb hbd ?_); exact hcx.ext ((Ext.refl _).drewN _))
        | (go_at_call 46; refine Calls.quiet_of (wear_q cb b M wn _ hb hwn ?_); exact hcx.ext ((Ext.refl _).drewN _))
        | (go_at_call 43; refine Calls.quiet_of (next_q cb b M n _ hb hpg ?_); exact hcx.ext ((Ext.refl _).drewN _)))
      go_wp2
      go_roundw
      case rel => exact ⟨b + 1, by omega, by go_num, hx.drewN _⟩
      case measure => simp [intOf]; omega
    · have hb24' : b = 24 := by omega
      subst hb24'
      have c97 : wr.cell? ⟨rb, 97, none⟩ = some (.bool (downB M)) := by
        obtain ⟨rc, data, h1, h2, h3⟩ := hrx.cells
        rw [h1.cell, h2.cdown]
      generalize hdn : downB M = dn at *
      go_wp2_with fail
      go_quiet (first
        | (go_at_call 48; refine Calls.quiet_of (down_q cb M dn _ hdn ?_); exact hcx.ext ((Ext.refl _).drewN _))
        | fail)
      go_wp2
      go_ret
      refine ⟨?_, hx.drewN _⟩
      simp
end Go.Proofs.Ytpldeejagomfjaa
