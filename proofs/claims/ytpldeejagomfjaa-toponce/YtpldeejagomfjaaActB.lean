
/- A chip that acts were done to. -/
import Derived.Test.YtpldeejagomfjaaChpW
import Derived.Test.YtpldeejagomfjaaActA
import Derived.Test.YtpldeejagomfjaaChpJ
import Derived.Deep.AppendLies
namespace Go.Proofs.Ytpldeejagomfjaa
open Go.RowKit
attribute [local go_sem ↓] Go.wp_at_zero Go.wp_at_succ

theorem lt_of_cell2 {w : World} {b o : Nat} {v : Value} (h : w.cell? ⟨b, o, none⟩ = some v) : b < w.heap.size := by
  rcases Nat.lt_or_ge b w.heap.size with h' | h'
  · exact h'
  · simp [World.cell?, Array.getElem?_eq_none h'] at h
theorem Ext.grown2 {a b c : World} {cb : Nat} (h : Ext a b) (hg : b.grownBy c (some cb)) (hb : a.heap.size ≤ cb) : Ext a c := ⟨h.below.grown hg h.size (fun k e => by cases e; exact hb)⟩
/-- All steps go well, and no block was erased more than k times. -/
structure Bnd (M : CM) (k : Nat) : Prop where
  left : M.left = -1
  pend : M.pend = none
  wr : ∀ b, M.wr b ≤ k
theorem Bnd.mono {M : CM} {k k' : Nat} (h : Bnd M k) (hk : k ≤ k') : Bnd M k' := ⟨h.left, h.pend, fun b => Nat.le_trans (h.wr b) hk⟩
theorem tick_neg {M : CM} (h : M.left = -1) : tickM M = M := by unfold tickM; rw [if_neg (by omega)]
theorem Bnd.write {M : CM} {k : Nat} (h : Bnd M k) (b : Int) (s : ByteArray) : Bnd (writeM M b s) k := by
  unfold writeM
  split
  · exact h
  split
  · exact h
  split
  · exact h
  split
  · exact ⟨h.left, h.pend, h.wr⟩
  split
  · rename_i h0; rw [h.left] at h0; omega
  · rw [tick_neg h.left]; exact ⟨h.left, h.pend, h.wr⟩
theorem Bnd.erase {M : CM} {k : Nat} (h : Bnd M k) (b : Int) : Bnd (eraseM M b) (k + 1) := by
  have hm := h.mono (Nat.le_succ k)
  unfold eraseM
  split
  · exact hm
  split
  · exact ⟨hm.left, hm.pend, hm.wr⟩
  split
  · rename_i h0; rw [h.left] at h0; omega
  · rw [tick_neg h.left]
    refine ⟨h.left, h.pend, fun c => ?_⟩
    simp only [wipeM, upd]
    split
    · have := h.wr b.toNat; omega
    · have := h.wr c; omega
theorem Bnd.weaken {M : CM} {k : Nat} (h : Bnd M k) (b : Int) : Bnd (weakenM M b) k := by
  unfold weakenM
  split
  · exact ⟨h.left, h.pend, h.wr⟩
  · exact h
theorem Bnd.ok {M : CM} {k : Nat} (h : Bnd M k) (hk : k ≤ 1000000000) : M.left ≤ 9223372036854775807 ∧ WrOk M := ⟨by rw [h.left]; omega, fun b _ => Nat.le_trans (h.wr b) hk⟩
theorem newBnd : Bnd newM 0 := ⟨rfl, rfl, fun _ => Nat.le_refl _⟩

set_option maxRecDepth 100000 in
set_option maxHeartbeats 4000000 in
theorem acted_any (ao : Option Addr) (cap : Nat) (acs : List ActE) (w : World) (hl : acs.length ≤ 1000) (has : ActsAt w ao acs) :
    Calls Try.prog 44 #[.slice ao acs.length cap] w fun e w' => e = .returned (.pointer (some ⟨w.heap.size, 0, none⟩)) ∧ (∃ M, ChipAt w' w.heap.size M ∧ Bnd M 1000) ∧ Ext w w' := by
  go_enter Try.func44, Try.ntmps44
  go_wp2_with (go_at_call 29; refine (new_any _).mono ?_; rintro e w1 ⟨rfl, hc1, hx1, hs1⟩)
  go_loopw [4] (fun i wx => ∃ (k : Nat) (M : CM), k ≤ acs.length ∧ i = .int .i64 k ∧ ChipAt wx w.heap.size M ∧ Bnd M k ∧ Ext w wx) (fun i _ => acs.length - (intOf i).toNat)
  case atStart => exact ⟨0, newM, Nat.zero_le _, rfl, hc1, newBnd, hx1⟩
  case round =>
    clear hc1 hx1 hs1
    obtain ⟨k, M, hk, rfl, hc, hbd, hx⟩ := hrel
    by_cases hlt : k < acs.length
    · obtain ⟨b, off, e, rfl, he, c0, c1, c2, c3, c4, c5⟩ := has.get hlt
      have hbl := lt_of_cell2 c0
      have g0 := hx.cell c0
      have g1 := hx.cell c1
      have g2 := hx.cell c2
      obtain ⟨hub, hwr⟩ := hbd.ok (by omega)
      have hsz := hx.size
      have hk0 : (0 : Int) ≤ (k : Int) := by omega
      have hk1 : (k : Int) < (acs.length : Int) := by omega
      have hes := c5.sz
      have hb1 : b < wr.drew.heap.size := Nat.lt_of_lt_of_le hbl hsz
      have hb2 : some b ≠ some w.heap.size := by intro hh; cases hh; exact absurd hbl (Nat.lt_irrefl _)
      clear c0 c1 c2 c3 c4 c5 he has
      have hcd := hc.ext ((Ext.refl wr).drew)
      by_cases hkw : (e.kind.toList == [119, 114, 105, 116, 101]) = true
      · go_wp2_with fail
        go_region_held3 (fun w' => w'.cell? ⟨b, off + k * 5 + 1, none⟩ = some (.string e.s) ∧ w'.cell? ⟨b, off + k * 5 + 2, none⟩ = some (.int .i64 e.a))
          (first | (refine ⟨?_, ?_⟩; (simpa using g1); (simpa using g2); done) | (go_split_ands; refine ⟨?_, ?_⟩; (rw [hg.cell_far _ hb1 hb2]; simpa using g1); (rw [hg.cell_far _ hb1 hb2]; simpa using g2); done))
          (first | (go_at_call 31; refine (write_any w.heap.size e.a e.s M _ hcd hub hes).mono ?_; rintro r w2 ⟨rfl, hc2, hg⟩))
        go_wp2
        go_roundw
        case rel => exact ⟨k + 1, _, by omega, by go_num, hc2, (hbd.write e.a e.s).mono (Nat.le_succ k), ((hx.drew).grown2 hg (Nat.le_refl _))⟩
        case measure => simp [intOf]; omega
      · have hkw' : (e.kind.toList == [119, 114, 105, 116, 101]) = false := by simpa using hkw
        by_cases hke : (e.kind.toList == [101, 114, 97, 115, 101]) = true
        · go_wp2_with (go_at_call 33; refine (erase_any w.heap.size e.a M _ hc hub hwr).mono ?_; rintro r w2 ⟨rfl, hc2, hg⟩)
          go_roundw
          case rel => exact ⟨k + 1, _, by omega, by go_num, hc2, hbd.erase e.a, hx.grown2 hg (Nat.le_refl _)⟩
          case measure => simp [intOf]; omega
        · have hke' : (e.kind.toList == [101, 114, 97, 115, 101]) = false := by simpa using hke
          by_cases hkk : (e.kind.toList == [119, 101, 97, 107, 101, 110]) = true
          · go_wp2_with (go_at_call 35; refine (weaken_any w.heap.size e.a M _ hc).mono ?_; rintro r w2 ⟨rfl, hc2, hg⟩)
            go_roundw
            case rel => exact ⟨k + 1, _, by omega, by go_num, hc2, (hbd.weaken e.a).mono (Nat.le_succ k), hx.grown2 hg (Nat.le_refl _)⟩
            case measure => simp [intOf]; omega
          · have hkk' : (e.kind.toList == [119, 101, 97, 107, 101, 110]) = false := by simpa using hkk
            go_wp2_with fail
            go_roundw
            case rel => exact ⟨k + 1, M, by omega, by go_num, hc, hbd.mono (Nat.le_succ k), hx⟩
            case measure => simp [intOf]; omega
    · clear has
      go_wp2_with fail
      go_ret
      exact ⟨rfl, ⟨M, hc, hbd.mono (by omega)⟩, hx⟩

end Go.Proofs.Ytpldeejagomfjaa
