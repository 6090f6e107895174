/- Tables: the same acts done to a chip and its model: written. -/
import Derived.Test.YtjeinblcpejpnaaTabN
import Derived.Test.YtjeinblcpejpnaaRefE
namespace Go.Proofs.Ytjeinblcpejpnaa
open Go.RowKit Go.WideShapes
attribute [local go_sem ↓] Go.wp_at_zero Go.wp_at_succ

theorem cell_grown {w w' : World} {b o : Nat} {v : Value} {r : Nat} (h : w.cell? ⟨b, o, none⟩ = some v) (hg : w.grownBy w' (some r)) (hne : ¬ b = r) : w'.cell? ⟨b, o, none⟩ = some v := by
  have hlt : b < w.heap.size := lt_of_cell2 h
  unfold World.cell? at h ⊢
  rw [hg.block b hlt (by simpa using hne)]
  exact h
set_option maxRecDepth 100000 in
set_option maxHeartbeats 4000000 in
theorem written_any (ao : Option Addr) (cap : Nat) (acs : List ActE) (w : World) (hl : acs.length ≤ 1000) (has : ActsAt w ao acs) :
    Calls Try.prog 60 #[.slice ao acs.length cap] w fun e w' => ∃ cb rb M, e = .returned (.tuple #[.pointer (some ⟨cb, 0, none⟩), .pointer (some ⟨rb, 0, none⟩)]) ∧ ChipAt w' cb M ∧ RefAt w' rb M ∧ Bnd M 1000 ∧ Ext w w' ∧ w.heap.size ≤ cb ∧ w.heap.size ≤ rb := by
  go_enter Try.func60, Try.ntmps60
  go_wp2_with (first
    | (go_at_call 26; refine (new_any _).mono ?_; rintro e w1 ⟨rfl, hc1, hx1, -⟩; have hw1 := hx1.size)
    | (go_at_call 27; refine (rnew_any _).mono ?_; rintro e w2 ⟨rfl, hr2, hx2, -⟩))
  have HRB : Hid (w.heap.size ≤ w1.heap.size) := hw1
  generalize hrb : w1.heap.size = rb at *
  generalize hcb : w.heap.size = cb at *
  go_loopw [6] (fun i wx => ∃ (k : Nat) (M : CM), k ≤ acs.length ∧ i = .int .i64 k ∧ ChipAt wx cb M ∧ RefAt wx rb M ∧ Bnd M k ∧ Ext w wx) (fun i _ => acs.length - (intOf i).toNat)
  case atStart => exact ⟨0, newM, Nat.zero_le _, rfl, hc1.ext hx2, hr2, newBnd, hx1.trans hx2⟩
  case round =>
    clear hc1 hx1 hr2 hx2
    obtain ⟨k, M, hk, rfl, hc, hr, hbd, hx⟩ := hrel
    have HRBX : Hid (cb = w.heap.size ∧ cb ≤ rb) := ⟨hcb.symm, by omega⟩
    by_cases hlt : k < acs.length
    · obtain ⟨b, off, e, rfl, he, c0, c1, c2, c3, c4, c5⟩ := has.get hlt
      have hbl := lt_of_cell2 c0
      have hbc : ¬ b = cb := by omega
      have hbr : ¬ b = rb := by omega
      have g0 := hx.cell c0
      have g1 := hx.cell c1
      have g2 := hx.cell c2
      obtain ⟨hub, hwr⟩ := hbd.ok (by omega)
      have hk0 : (0 : Int) ≤ (k : Int) := by omega
      have hk1 : (k : Int) < (acs.length : Int) := by omega
      have hes := c5.sz
      have hmok := hc.mok
      have hcw : w.heap.size ≤ cb := by omega
      have hrw : w.heap.size ≤ rb := by omega
      clear c0 c1 c2 c3 c4 c5 he has hrb hcb
      by_cases hkw : (e.kind.toList == [119, 114, 105, 116, 101]) = true
      · go_wp2_with fail
        go_region_held3 (fun w' => w'.cell? ⟨b, off + k * 5 + 1, none⟩ = some (.string e.s) ∧ w'.cell? ⟨b, off + k * 5 + 2, none⟩ = some (.int .i64 e.a))
          (first | (refine ⟨?_, ?_⟩; (simpa using g1); (simpa using g2); done) | (refine ⟨?_, ?_⟩; (exact cell_grown (w := wr.drew) g1 hg (by omega)); (exact cell_grown (w := wr.drew) g2 hg (by omega)); done))
          (first | (go_at_call 28; refine (write_any cb e.a e.s M _ (hc.ext (Ext.refl _).drew) hub hes).mono ?_; rintro r w2 ⟨rfl, hc2, hg⟩))
        have gg1 := cell_grown (w := wr.drew) g1 hg hbc
        have gg2 := cell_grown (w := wr.drew) g2 hg hbc
        have hr2 := (hr.ext (Ext.refl _).drew).chip (hc.ext (Ext.refl _).drew) hg
        have hx2 := (hx.drew).grown2 hg hcw
        go_wp2_with fail
        go_region_held3 (fun w' => w'.cell? ⟨b, off + k * 5 + 1, none⟩ = some (.string e.s) ∧ w'.cell? ⟨b, off + k * 5 + 2, none⟩ = some (.int .i64 e.a))
          (first | (refine ⟨?_, ?_⟩; (simpa using gg1); (simpa using gg2); done) | (refine ⟨?_, ?_⟩; (exact cell_grown (w := w2.drew) gg1 hg3 (by omega)); (exact cell_grown (w := w2.drew) gg2 hg3 (by omega)); done))
          (first | (go_at_call 29; refine (rwrite_any rb e.a e.s M _ (hr2.ext (Ext.refl _).drew) hmok hub hes).mono ?_; rintro r w3 ⟨rfl, hr3, hg3⟩))
        go_wp2
        go_roundw
        case rel => exact ⟨k + 1, _, by omega, by go_num, (hc2.ext (Ext.refl _).drew).refs (hr2.ext (Ext.refl _).drew) hg3, hr3, (hbd.write e.a e.s).mono (Nat.le_succ k), (hx2.drew).grown2 hg3 hrw⟩
        case measure => simp [intOf]; omega
      · have hkw' : (e.kind.toList == [119, 114, 105, 116, 101]) = false := by simpa using hkw
        by_cases hke : (e.kind.toList == [101, 114, 97, 115, 101]) = true
        · go_wp2_with (first
            | (go_at_call 30; refine (erase_any cb e.a M _ hc hub hwr).mono ?_; rintro r w2 ⟨rfl, hc2, hg⟩; have gg2 := cell_grown g2 hg hbc)
            | (go_at_call 31; refine (rerase_any rb e.a M _ (hr.chip hc hg) hub hwr).mono ?_; rintro r w3 ⟨rfl, hr3, hg3⟩))
          go_roundw
          case rel => exact ⟨k + 1, _, by omega, by go_num, hc2.refs (hr.chip hc hg) hg3, hr3, hbd.erase e.a, (hx.grown2 hg hcw).grown2 hg3 hrw⟩
          case measure => simp [intOf]; omega
        · have hke' : (e.kind.toList == [101, 114, 97, 115, 101]) = false := by simpa using hke
          by_cases hkk : (e.kind.toList == [119, 101, 97, 107, 101, 110]) = true
          · go_wp2_with (first
              | (go_at_call 32; refine (weaken_any cb e.a M _ hc).mono ?_; rintro r w2 ⟨rfl, hc2, hg⟩; have gg2 := cell_grown g2 hg hbc)
              | (go_at_call 33; refine (rweaken_any rb e.a M _ (hr.chip hc hg)).mono ?_; rintro r w3 ⟨rfl, hr3, hg3⟩))
            go_roundw
            case rel => exact ⟨k + 1, _, by omega, by go_num, hc2.refs (hr.chip hc hg) hg3, hr3, (hbd.weaken e.a).mono (Nat.le_succ k), (hx.grown2 hg hcw).grown2 hg3 hrw⟩
            case measure => simp [intOf]; omega
          · have hkk' : (e.kind.toList == [119, 101, 97, 107, 101, 110]) = false := by simpa using hkk
            go_wp2_with fail
            go_roundw
            case rel => exact ⟨k + 1, M, by omega, by go_num, hc, hr, hbd.mono (Nat.le_succ k), hx⟩
            case measure => simp [intOf]; omega
    · clear has hrb hcb
      go_wp2_with fail
      go_ret2
      have := HRBX.out
      exact ⟨cb, rb, M, rfl, hc, hr, hbd.mono (by omega), hx, by omega, by omega⟩
end Go.Proofs.Ytjeinblcpejpnaa
