
/- The document's chip: NewChip, ready, falls, Weaken, Read. -/
import Derived.Test.YtpldeejagomfjaaRefA
namespace Go.Proofs.Ytpldeejagomfjaa
open Go.RowKit

set_option maxRecDepth 100000 in
set_option maxHeartbeats 1000000 in
theorem rready_any (rb : Nat) (b : Int) (M : CM) (w : World) (h : RefAt w rb M) :
    Calls Try.prog 89 #[.pointer (some ⟨rb, 0, none⟩), .int .i64 b] w fun e w' => e = .returned (.int .i64 (readyE M b)) ∧ w' = w := by
  obtain ⟨rc, data, h1, h2, h3⟩ := h.cells
  have c97 := h1.cell 97
  rw [h2.cdown] at c97
  cases hd : downB M with
  | true =>
    have HR : Hid (readyE M b = 9) := by unfold readyE Hid; rw [hd]; rfl
    rw [hd] at c97
    go_enter Try.func89, Try.ntmps89
    go_wp2
    go_ret
    exact ⟨by rw [HR.out]; rfl, rfl⟩
  | false =>
    rw [hd] at c97
    by_cases hb : 0 ≤ b ∧ b < 24
    · obtain ⟨hb1, hb2⟩ := hb
      obtain ⟨b, rfl⟩ := Int.eq_ofNat_of_zero_le hb1
      have hb3 : b < 24 := by omega
      have hb4 : ¬ (b : Int) < 0 := by omega
      have c0 := h1.cell (72 + b)
      rw [h2.cbd b hb3] at c0
      cases hx : M.bd b with
      | true =>
        have HR : Hid (readyE M (b : Int) = 7) := by unfold readyE Hid; rw [hd, if_neg (by simp), if_pos ⟨hb1, hb2⟩, Int.toNat_natCast, hx]; rfl
        rw [hx] at c0
        clear hx
        go_enter Try.func89, Try.ntmps89
        go_wp2
        go_ret
        exact ⟨by rw [HR.out]; rfl, rfl⟩
      | false =>
        have HR : Hid (readyE M (b : Int) = 0) := by unfold readyE Hid; rw [hd, if_neg (by simp), if_pos ⟨hb1, hb2⟩, Int.toNat_natCast, hx]; rfl
        rw [hx] at c0
        clear hx
        go_enter Try.func89, Try.ntmps89
        go_wp2
        go_ret
        exact ⟨by rw [HR.out]; rfl, rfl⟩
    · have HR : Hid (readyE M b = 1) := by unfold readyE Hid; rw [hd, if_neg (by simp), if_neg hb]
      by_cases hneg : b < 0
      · clear hb
        go_enter Try.func89, Try.ntmps89
        go_wp2
        go_ret
        exact ⟨by rw [HR.out]; rfl, rfl⟩
      · have h24 : 24 ≤ b := by omega
        clear hb
        go_enter Try.func89, Try.ntmps89
        go_wp2
        go_ret
        exact ⟨by rw [HR.out]; rfl, rfl⟩

set_option maxRecDepth 100000 in
set_option maxHeartbeats 1000000 in
theorem rweaken_any (rb : Nat) (b : Int) (M : CM) (w : World) (h : RefAt w rb M) :
    Calls Try.prog 36 #[.pointer (some ⟨rb, 0, none⟩), .int .i64 b] w fun e w' => e = .returned (.int .i64 (weakenE b)) ∧ RefAt w' rb (weakenM M b) ∧ w.grownBy w' (some rb) := by
  by_cases hb : 2 ≤ b ∧ b < 24
  · have HE : Hid (weakenE b = 0) := by unfold weakenE Hid; rw [if_pos hb]
    have HM : Hid (weakenM M b = { M with wk := upd M.wk b.toNat true }) := by unfold weakenM Hid; rw [if_pos hb]
    obtain ⟨hb1, hb2⟩ := hb
    obtain ⟨b, rfl⟩ := Int.eq_ofNat_of_zero_le (show 0 ≤ b by omega)
    have hb3 : b < 24 := by omega
    have hb0 : (0 : Int) ≤ (b : Int) := by omega
    have hb4 : ¬ (b : Int) < 2 := by omega
    obtain ⟨rc, data, h1, h2, h3⟩ := h.cells
    have c0 := h1.cell (48 + b)
    rw [h2.cwk b hb3] at c0
    have f0 := h1.free (48 + b)
    generalize M.wk b = y at c0
    go_enter Try.func36, Try.ntmps36
    go_wp2
    go_ret
    refine ⟨by rw [HE.out]; rfl, ?_, grow_set _ _ _ _⟩
    rw [HM.out]
    exact ⟨_, data, h1.set _ _, (h2.setWk hb3 true).stays h1 (by decide) (grow_set _ _ _ _), h3⟩
  · have HE : Hid (weakenE b = 1) := by unfold weakenE Hid; rw [if_neg hb]
    have HM : Hid (weakenM M b = M) := by unfold weakenM Hid; rw [if_neg hb]
    by_cases hneg : b < 2
    · clear hb
      go_enter Try.func36, Try.ntmps36
      go_wp2
      go_ret
      exact ⟨by rw [HE.out]; rfl, by rw [HM.out]; exact h, grow_refl _ _⟩
    · have h24 : 24 ≤ b := by omega
      clear hb
      go_enter Try.func36, Try.ntmps36
      go_wp2
      go_ret
      exact ⟨by rw [HE.out]; rfl, by rw [HM.out]; exact h, grow_refl _ _⟩

/-- The machine falls. -/
theorem rfalls_yes (rb : Nat) (rc : Array Value) (w : World) (h1 : Blk w rb rc 60) (h96 : rc[96]? = some (.int .i64 0)) (y : Bool) (h97 : rc[97]? = some (.bool y)) :
    Calls Try.prog 90 #[.pointer (some ⟨rb, 0, none⟩)] w fun e w' => e = .returned (.bool true) ∧ w' = w.setCell ⟨rb, 97, none⟩ (.bool true) := by
  have c96 := h1.cell 96
  rw [h96] at c96
  have c97 := h1.cell 97
  rw [h97] at c97
  have f97 := h1.free 97
  go_enter Try.func90, Try.ntmps90
  go_wp2
  go_ret
  exact ⟨rfl, rfl⟩
theorem max_go {n : Int} (h : ¬ n = 0) : ¬ max n (-1) = 0 := by omega
theorem rfalls_go (rb : Nat) (M : CM) (w : World) (h : RefAt w rb M) (h0 : ¬ M.left = 0) (hub : M.left ≤ 9223372036854775807) :
    Calls Try.prog 90 #[.pointer (some ⟨rb, 0, none⟩)] w fun e w' => e = .returned (.bool false) ∧ RefAt w' rb (tickM M) ∧ w.grownBy w' (some rb) := by
  obtain ⟨rc, data, h1, h2, h3⟩ := h.cells
  have c96 := h1.cell 96
  rw [h2.cleft] at c96
  have f96 := h1.free 96
  by_cases hpos : 0 < M.left
  · have HT : Hid (tickM M = { M with left := M.left - 1 }) := by unfold tickM Hid; rw [if_pos hpos]
    have hm : max M.left (-1) = M.left := by omega
    have HL : Hid (max (M.left - 1) (-1) = M.left - 1) := by unfold Hid; omega
    rw [hm] at c96
    rw [hm] at h2
    have hz : (M.left == 0) = false := by simpa using h0
    generalize hn : M.left = n at *
    go_enter Try.func90, Try.ntmps90
    go_wp2
    go_ret
    refine ⟨rfl, ?_, grow_set _ _ _ _⟩
    rw [HT.out]
    refine ⟨_, data, h1.set _ _, ?_, h3⟩
    have := (h2.setLeft (n - 1)).stays h1 (by decide) (grow_set w rb 96 (.int .i64 (n - 1)))
    show RRep _ _ M.pg M.wr M.wk M.bd (max (n - 1) (-1)) (downB M) (tornN M.pend) data
    rw [HL.out]
    exact this
  · have HT : Hid (tickM M = M) := by unfold tickM Hid; rw [if_neg hpos]
    have hm : max M.left (-1) = -1 := by omega
    rw [hm] at c96
    clear h2 hpos h0 hub hm
    go_enter Try.func90, Try.ntmps90
    go_wp2
    go_ret
    exact ⟨rfl, by rw [HT.out]; exact h, grow_refl _ _⟩

/-- The row of a block's pages. -/
theorem RefAt.row {w : World} {rb : Nat} {M : CM} (h : RefAt w rb M) {b : Nat} (hb : b < 24) :
    ∃ so cap, w.cell? ⟨rb, b, none⟩ = some (.slice so (M.pg b).length cap) ∧ (∀ p q, (M.pg b)[p]? = some q → ∃ g, so = some ⟨g, 0, none⟩ ∧ w.cell? ⟨g, p * 2, none⟩ = (shCell q)[0]? ∧ w.cell? ⟨g, p * 2 + 1, none⟩ = (shCell q)[1]?) := by
  obtain ⟨rc, data, h1, h2, h3⟩ := h.cells
  obtain ⟨v, k1, k2, _⟩ := h2.rows b hb
  have c0 := h1.cell b
  rw [k1] at c0
  rcases k2.2 with ⟨rfl, e0⟩ | ⟨g, cap, cur, rfl, _, hh, hle, _, hcur, htake⟩
  · refine ⟨none, 0, by rw [c0, e0], fun p q hq => ?_⟩
    have := (List.getElem?_eq_some_iff.1 hq).1
    omega
  · refine ⟨_, cap, c0, fun p q hq => ⟨g, rfl, ?_, ?_⟩⟩
    · have hB : Blk w g cur 143 := ⟨hh⟩
      have hp := (List.getElem?_eq_some_iff.1 hq).1
      have e := shCells_get (M.pg b) p 0 q (by omega) hq
      rw [← htake, List.getElem?_take_of_lt (by omega)] at e
      rw [hB.cell, ← e]; simp
    · have hB : Blk w g cur 143 := ⟨hh⟩
      have hp := (List.getElem?_eq_some_iff.1 hq).1
      have e := shCells_get (M.pg b) p 1 q (by omega) hq
      rw [← htake, List.getElem?_take_of_lt (by omega)] at e
      rw [hB.cell, ← e]; simp

set_option maxRecDepth 100000 in
set_option maxHeartbeats 2000000 in
theorem rread_any (rb : Nat) (b p : Int) (M : CM) (w : World) (h : RefAt w rb M) :
    Calls Try.prog 41 #[.pointer (some ⟨rb, 0, none⟩), .int .i64 b, .int .i64 p] w fun e w' => e = .returned (.tuple #[.string (txtL (readR M b p).1), .int .i64 (readR M b p).2]) ∧ w' = w := by
  have hd97 : w.cell? ⟨rb, 97, none⟩ = some (.bool (downB M)) := by
    obtain ⟨rc, data, h1, h2, h3⟩ := h.cells
    rw [h1.cell, h2.cdown]
  cases hd : downB M with
  | true =>
    have HR : Hid (readR M b p = ([], 9)) := by unfold readR Hid; rw [hd]; rfl
    rw [hd] at hd97
    go_enter Try.func41, Try.ntmps41
    go_wp2
    go_ret2
    exact ⟨by rw [HR.out]; rfl, rfl⟩
  | false =>
    rw [hd] at hd97
    by_cases hin : 0 ≤ b ∧ b < 24 ∧ 0 ≤ p ∧ p < 8
    · have HR0 : readR M b p = (match (M.pg b.toNat)[p.toNat]? with | none => ([], 5) | some (.whole d) => (d, 0) | some .torn => ([], 4)) := by
        unfold readR; rw [hd, if_neg (by simp), if_pos hin]; cases (M.pg b.toNat)[p.toNat]? with
        | none => rfl
        | some q => cases q <;> rfl
      obtain ⟨hb1, hb2, hp1, hp2⟩ := hin
      obtain ⟨b, rfl⟩ := Int.eq_ofNat_of_zero_le hb1
      obtain ⟨p, rfl⟩ := Int.eq_ofNat_of_zero_le hp1
      rw [Int.toNat_natCast, Int.toNat_natCast] at HR0
      have hb3 : b < 24 := by omega
      have hb4 : ¬ (b : Int) < 0 := by omega
      have hp4 : ¬ (p : Int) < 0 := by omega
      obtain ⟨so, cap, c0, hrow⟩ := h.row hb3
      cases hq : (M.pg b)[p]? with
      | none =>
        have HR : Hid (readR M (b : Int) (p : Int) = ([], 5)) := by unfold Hid; rw [HR0, hq]
        have hlen : ((M.pg b).length : Int) ≤ (p : Int) := by
          have := List.getElem?_eq_none_iff.1 hq; omega
        clear hrow HR0 hq
        go_enter Try.func41, Try.ntmps41
        go_wp2
        go_ret2
        exact ⟨by rw [HR.out]; rfl, rfl⟩
      | some q =>
        have hlen : (p : Int) < ((M.pg b).length : Int) := by
          have := (List.getElem?_eq_some_iff.1 hq).1; omega
        obtain ⟨g, rfl, g0, g1⟩ := hrow p q hq
        cases q with
        | torn =>
          have HR : Hid (readR M (b : Int) (p : Int) = ([], 4)) := by unfold Hid; rw [HR0, hq]
          simp only [shCell, List.getElem?_cons_zero, List.getElem?_cons_succ] at g0 g1
          clear hrow HR0 hq
          go_enter Try.func41, Try.ntmps41
          go_wp2
          go_ret2
          exact ⟨by rw [HR.out]; rfl, rfl⟩
        | whole d =>
          have HR : Hid (readR M (b : Int) (p : Int) = (d, 0)) := by unfold Hid; rw [HR0, hq]
          simp only [shCell, List.getElem?_cons_zero, List.getElem?_cons_succ] at g0 g1
          clear hrow HR0 hq
          go_enter Try.func41, Try.ntmps41
          go_wp2
          go_ret2
          exact ⟨by rw [HR.out]; rfl, rfl⟩
    · have HR : Hid (readR M b p = ([], 1)) := by unfold readR Hid; rw [hd, if_neg (by simp), if_neg hin]
      by_cases q1 : b < 0
      · clear hin
        go_enter Try.func41, Try.ntmps41
        go_wp2
        go_ret2
        exact ⟨by rw [HR.out]; rfl, rfl⟩
      · by_cases q2 : 24 ≤ b
        · clear hin
          go_enter Try.func41, Try.ntmps41
          go_wp2
          go_ret2
          exact ⟨by rw [HR.out]; rfl, rfl⟩
        · by_cases q3 : p < 0
          · clear hin
            go_enter Try.func41, Try.ntmps41
            go_wp2
            go_ret2
            exact ⟨by rw [HR.out]; rfl, rfl⟩
          · have q4 : 8 ≤ p := by omega
            clear hin
            go_enter Try.func41, Try.ntmps41
            go_wp2
            go_ret2
            exact ⟨by rw [HR.out]; rfl, rfl⟩

def zRef : List Value := List.replicate 24 (.slice none 0 0) ++ (List.replicate 24 (.int .i64 0) ++ (List.replicate 48 (.bool false) ++ [.int .i64 0, .bool false, .int .i64 0, .string ⟨#[]⟩]))
def Z60 : Array Value := zRef.toArray
def N60 : Array Value := Z60.setIfInBounds 96 (.int .i64 (-1))
set_option maxRecDepth 100000 in
theorem zero60 (w : World) : (zeroValue 60).run Try.prog w = .ok (.agg Z60) w := by kernel_rfl
theorem zRef_a (b : Nat) (h : b < 24) : zRef[b]? = some (.slice none 0 0) := by
  unfold zRef
  rw [List.getElem?_append_left (by simp; omega), List.getElem?_replicate, if_pos h]
theorem zRef_b (b : Nat) (h : b < 24) : zRef[24 + b]? = some (.int .i64 0) := by
  unfold zRef
  rw [List.getElem?_append_right (by simp), List.length_replicate, show 24 + b - 24 = b by omega, List.getElem?_append_left (by simp; omega), List.getElem?_replicate, if_pos h]
theorem zRef_c (b : Nat) (h : b < 48) : zRef[48 + b]? = some (.bool false) := by
  unfold zRef
  rw [List.getElem?_append_right (by simp; omega), List.length_replicate, List.getElem?_append_right (by simp; omega), List.length_replicate, show 48 + b - 24 - 24 = b by omega, List.getElem?_append_left (by simp; omega), List.getElem?_replicate, if_pos h]
theorem Z60_size : Z60.size = 100 := by unfold Z60 zRef; simp
theorem N60_get (i : Nat) (h : ¬ i = 96) : N60[i]? = zRef[i]? := by
  unfold N60 Z60
  rw [Array.getElem?_setIfInBounds_ne (by omega)]; simp
theorem newRRep (w : World) : RRep w N60 newM.pg newM.wr newM.wk newM.bd (max newM.left (-1)) (downB newM) (tornN newM.pend) ⟨#[]⟩ := by
  have hz := Z60_size
  refine ⟨by unfold N60; simpa using hz, fun b hb => ⟨.slice none 0 0, ?_, ⟨rfl, .inl ⟨rfl, rfl⟩⟩, fun _ => rfl⟩, fun b b' v v' g hb hb' _ e e' e3 => ?_, fun b hb => ?_, fun b hb => ?_, fun b hb => ?_, ?_, ?_, ?_, ?_⟩
  · rw [N60_get _ (by omega), zRef_a b hb]
  · rw [N60_get _ (by omega), zRef_a b hb] at e; cases e; cases e3
  · rw [N60_get _ (by omega), zRef_b b hb]; rfl
  · rw [N60_get _ (by omega), zRef_c b (by omega)]; rfl
  · rw [N60_get _ (by omega), show 72 + b = 48 + (24 + b) by omega, zRef_c _ (by omega)]; rfl
  · unfold N60; rw [Array.getElem?_setIfInBounds_self_of_lt (by omega)]; rfl
  · rw [N60_get _ (by omega)]; rfl
  · rw [N60_get _ (by omega)]; rfl
  · rw [N60_get _ (by omega)]; rfl
theorem Z60_ne : (Z60 = #[]) = False := by
  simp only [eq_iff_iff, iff_false]
  intro h
  have := Z60_size
  rw [h] at this; simp at this
theorem Z60_set : Z60.setIfInBounds 96 (.int .i64 (-1)) = N60 := rfl
set_option maxRecDepth 100000 in
set_option maxHeartbeats 1000000 in
theorem rnew_any (w : World) : Calls Try.prog 30 #[] w fun e w' => e = .returned (.pointer (some ⟨w.heap.size, 0, none⟩)) ∧ RefAt w' w.heap.size newM ∧ Ext w w' ∧ w'.heap.size = w.heap.size + 1 := by
  have z0 := zero60
  have z1 := Z60_ne
  have z2 := Z60_set
  go_enter Try.func30, Try.ntmps30
  go_wp2
  go_ret
  exact ⟨rfl, ⟨N60, ⟨#[]⟩, Blk.new _ _ _, newRRep _, fun b d e => by cases e⟩, (Ext.refl _).alloc _, by simp⟩

end Go.Proofs.Ytpldeejagomfjaa
