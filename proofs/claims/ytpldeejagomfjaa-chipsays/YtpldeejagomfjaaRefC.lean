
/- The document's chip: Write, where nothing is written. -/
import Derived.Test.YtpldeejagomfjaaRefB
import Derived.Deep.OwnRows
import Derived.Deep.RegionHeld3
namespace Go.Proofs.Ytpldeejagomfjaa
open Go.RowKit Go.WideShapes

theorem rready_ok (rb : Nat) (b : Int) (M : CM) (w : World) (h : RefAt w rb M) (hr : readyE M b = 0) :
    Calls Try.prog 89 #[.pointer (some ⟨rb, 0, none⟩), .int .i64 b] w fun e w' => e = .returned (.int .i64 0) ∧ w' = w := by
  refine (rready_any rb b M w h).mono ?_
  rintro e w' ⟨rfl, rfl⟩
  exact ⟨by rw [hr], rfl⟩
theorem rready_no (rb : Nat) (b : Int) (M : CM) (w : World) (h : RefAt w rb M) (hr : ¬ readyE M b = 0) :
    Calls Try.prog 89 #[.pointer (some ⟨rb, 0, none⟩), .int .i64 b] w fun e w' => (∃ n : Int, e = .returned (.int .i64 n) ∧ n = readyE M b ∧ 0 < n) ∧ w' = w := by
  refine (rready_any rb b M w h).mono ?_
  rintro e w' ⟨rfl, rfl⟩
  refine ⟨⟨_, rfl, rfl, ?_⟩, rfl⟩
  revert hr
  unfold readyE
  split
  · intro; decide
  · split
    · split
      · intro; decide
      · intro h; exact absurd rfl h
    · intro; decide

/-- Zeros, as many as a page wants. -/
def zz (s : ByteArray) : List UInt8 := List.replicate (64 - s.size) 0
theorem pad_txt (s : ByteArray) : s ++ txtL (zz s) = txtL (padD s) := by
  apply ByteArray.ext
  apply Array.ext'
  simp [txtL, padD, zz]
theorem zz_size (s : ByteArray) : (txtL (zz s)).size = 64 - s.size := by
  show (zz s).toArray.size = _
  simp [zz]
theorem Try.info5 : (Try.prog.info? 5).map (fun i => (i.zero, i.size, i.bytes)) = some (some (.int .u8 0), 1, 1) := by kernel_rfl
theorem made_zz (s : ByteArray) (n : Nat) (h : n = 64 - s.size) : madeCells #[.int .u8 0] n = (Lib.byteCells (zz s)).toArray := by
  subst h
  apply Array.ext'
  simp only [madeCells, zz, Lib.byteCells, List.map_replicate]
  simp
  rw [List.eq_replicate_iff]
  refine ⟨by simp, fun b hb => ?_⟩
  rw [List.mem_map] at hb
  obtain ⟨x, _, rfl⟩ := hb
  rw [Nat.mod_one]; rfl
theorem conv_blk2 {w : World} {b : Nat} {l : List UInt8} {cap : Nat} (h : Blk w b (Lib.byteCells l).toArray 5) :
    (convert 125 9 (.slice (some ⟨b, 0, none⟩) l.length cap)).run Try.prog w = .ok (.string (txtL l)) w :=
  run_convert_bytes_back (P := Try.prog) w 125 9 5 ⟨b, 0, none⟩ cap l Try.underlying125 Try.underlying5 Try.underlying9 (fun j hj => by
    rw [add_plain, Nat.zero_add, h.cell]; simp [Lib.byteCells, hj])
theorem RefAt.at {w : World} {rb : Nat} {M : CM} (h : RefAt w rb M) {b : Nat} (hb : b < 24) :
    w.cell? ⟨rb, 48 + b, none⟩ = some (.bool (M.wk b)) ∧ w.cell? ⟨rb, 72 + b, none⟩ = some (.bool (M.bd b)) ∧ w.cell? ⟨rb, 24 + b, none⟩ = some (.int .i64 (M.wr b : Int)) ∧ (∀ i, w.frozen? ⟨rb, i, none⟩ = false) ∧ rb < w.heap.size := by
  obtain ⟨rc, data, h1, h2, h3⟩ := h.cells
  exact ⟨by rw [h1.cell, h2.cwk b hb], by rw [h1.cell, h2.cbd b hb], by rw [h1.cell, h2.cwr b hb], h1.free, h1.lt⟩
theorem RefAt.setBd {w : World} {rb : Nat} {M : CM} (h : RefAt w rb M) {b : Nat} (hb : b < 24) : RefAt (w.setCell ⟨rb, 72 + b, none⟩ (.bool true)) rb { M with bd := upd M.bd b true } := by
  obtain ⟨rc, data, h1, h2, h3⟩ := h.cells
  exact ⟨_, data, h1.set _ _, (h2.setBd hb true).stays h1 (by decide) (grow_set _ _ _ _), h3⟩
/-- The step in which the machine falls. -/
theorem RefAt.fallen {w : World} {rb : Nat} {M : CM} (h : RefAt w rb M) (p : Pend) (t : ByteArray) (ht : ∀ b d, p = .write b d → t = txtL d) :
    RefAt (((w.setCell ⟨rb, 97, none⟩ (.bool true)).setCell ⟨rb, 98, none⟩ (.int .i64 (tornN (some p)))).setCell ⟨rb, 99, none⟩ (.string t)) rb { M with pend := some p } := by
  obtain ⟨rc, data, h1, h2, h3⟩ := h.cells
  have k1 := h1.set 97 (.bool true)
  have k2 := k1.set 98 (.int .i64 (tornN (some p)))
  have r1 := (h2.setDown true).stays h1 (by decide) (grow_set w rb 97 (.bool true))
  have r2 := (r1.setHalf (tornN (some p))).stays k1 (by decide) (grow_set _ rb 98 (.int .i64 (tornN (some p))))
  have r3 := (r2.setData t).stays k2 (by decide) (grow_set _ rb 99 (.string t))
  exact ⟨_, t, k2.set _ _, r3, fun b d e => ht b d (by simpa using e)⟩
theorem RefAt.fallenE {w : World} {rb : Nat} {M : CM} (h : RefAt w rb M) (b : Nat) :
    RefAt ((w.setCell ⟨rb, 97, none⟩ (.bool true)).setCell ⟨rb, 98, none⟩ (.int .i64 (101 + (b : Int)))) rb { M with pend := some (.erase b) } := by
  obtain ⟨rc, data, h1, h2, h3⟩ := h.cells
  have k1 := h1.set 97 (.bool true)
  have r1 := (h2.setDown true).stays h1 (by decide) (grow_set w rb 97 (.bool true))
  have r2 := (r1.setHalf (101 + (b : Int))).stays k1 (by decide) (grow_set _ rb 98 (.int .i64 (101 + (b : Int))))
  exact ⟨_, data, k1.set _ _, r2, fun b d e => by simp at e⟩
/-- The pages of a block are others, in a new row. -/
theorem RefAt.lay {w1 w3 : World} {rb : Nat} {M : CM} (h : RefAt w1 rb M) {b : Nat} (hb : b < 24) (hx : Ext w1 w3) (v : Value) (l : List Pg) (hv : w3.ownsRow 0 143 2 v l.length (shCells l)) (hnl : l = [] → v = .slice none 0 0) (hnew : ∀ g, v.ownBlock = some g → w1.heap.size ≤ g) :
    RefAt (w3.setCell ⟨rb, b, none⟩ v) rb { M with pg := upd M.pg b l } ∧ w1.grownBy (w3.setCell ⟨rb, b, none⟩ v) (some rb) := by
  obtain ⟨rc, data, h1, h2, h3⟩ := h.cells
  have k1 := h1.ext hx
  refine ⟨⟨_, data, k1.set _ _, (h2.setPg hb (grow_ext hx none) v l hv hnl ?_ ?_).stays k1 (by decide) (grow_set _ _ _ _), h3⟩, grow_trans (grow_ext hx _) (grow_set _ _ _ _)⟩
  · intro c u g _ _ _ _ e; cases e
  · intro c u g hc _ hu hg hvg
    obtain ⟨u', q1, q2, _⟩ := h2.rows c hc
    rw [hu] at q1; cases q1
    obtain ⟨cur, hh⟩ := own_type q2 hg
    have := hnew g hvg
    have := lt_of_block hh
    omega

set_option maxRecDepth 100000 in
set_option maxHeartbeats 2000000 in
theorem rwrite_no (rb : Nat) (b : Int) (s : ByteArray) (M : CM) (w : World) (h : RefAt w rb M) (hno : ¬ readyE M b = 0) :
    Calls Try.prog 32 #[.pointer (some ⟨rb, 0, none⟩), .int .i64 b, .string s] w fun e w' => e = .returned (.int .i64 (writeE M b s)) ∧ RefAt w' rb (writeM M b s) ∧ w.grownBy w' (some rb) := by
  have HE : Hid (writeE M b s = readyE M b) := by unfold writeE Hid; rw [if_pos hno]
  have HM : Hid (writeM M b s = M) := by unfold writeM Hid; rw [if_pos hno]
  have HN : Hid (¬ readyE M b = 0) := hno
  clear hno
  go_enter Try.func32, Try.ntmps32
  go_wp2_with (go_at_call 89; refine (rready_no rb b M _ h HN.out).mono ?_; rintro e w' ⟨⟨n, rfl, hn, hpos⟩, rfl⟩; have HN2 : Hid (n = readyE M b) := hn; clear hn)
  go_ret
  exact ⟨by rw [HE.out, ← HN2.out]; rfl, by rw [HM.out]; exact h, grow_refl _ _⟩

set_option maxRecDepth 100000 in
set_option maxHeartbeats 2000000 in
theorem rwrite_mid (rb b : Nat) (s : ByteArray) (M : CM) (w : World) (h : RefAt w rb M) (hs : s.size ≤ 9223372036854775807) (hr : readyE M (b : Int) = 0) (hb : b < 24) (hq : 64 < s.size ∨ (s.size ≤ 64 ∧ ((M.pg b).length = 8 ∨ (¬ (M.pg b).length = 8 ∧ (M.wk b = true ∨ (M.wk b = false ∧ M.left = 0)))))) :
    Calls Try.prog 32 #[.pointer (some ⟨rb, 0, none⟩), .int .i64 (b : Int), .string s] w fun e w' => e = .returned (.int .i64 (writeE M (b : Int) s)) ∧ RefAt w' rb (writeM M (b : Int) s) ∧ w.grownBy w' (some rb) := by
  have hb0 : (0 : Int) ≤ (b : Int) := by omega
  have hb24 : (b : Int) < 24 := by omega
  have HR : Hid (readyE M (b : Int) = 0) := hr
  obtain ⟨hpn, _, _⟩ := ready_zero hr
  clear hr
  rcases hq with h64 | ⟨h64, hfull | ⟨hfull, hwk | ⟨hwk, hl0⟩⟩⟩
  · have HE : Hid (writeE M (b : Int) s = 2) := by unfold writeE Hid; rw [if_neg (by simp [HR.out]), if_pos h64]
    have HM : Hid (writeM M (b : Int) s = M) := by unfold writeM Hid; rw [if_neg (by simp [HR.out]), if_pos h64]
    have h64' : 64 < (s.size : Int) := by omega
    go_enter Try.func32, Try.ntmps32
    go_wp2_with (go_at_call 89; refine (rready_ok rb b M _ h HR.out).mono ?_; rintro e w' ⟨rfl, rfl⟩)
    go_ret
    exact ⟨by rw [HE.out]; rfl, by rw [HM.out]; exact h, grow_refl _ _⟩
  · have HE : Hid (writeE M (b : Int) s = 6) := by unfold writeE Hid; rw [Int.toNat_natCast, if_neg (by simp [HR.out]), if_neg (by omega), if_pos hfull]
    have HM : Hid (writeM M (b : Int) s = M) := by unfold writeM Hid; rw [Int.toNat_natCast, if_neg (by simp [HR.out]), if_neg (by omega), if_pos hfull]
    have h64' : ¬ 64 < (s.size : Int) := by omega
    obtain ⟨so, cap, c0, _⟩ := h.row hb
    rw [hfull] at c0
    go_enter Try.func32, Try.ntmps32
    go_wp2_with (go_at_call 89; refine (rready_ok rb b M _ h HR.out).mono ?_; rintro e w' ⟨rfl, rfl⟩)
    go_ret
    exact ⟨by rw [HE.out]; rfl, by rw [HM.out]; exact h, grow_refl _ _⟩
  · have HE : Hid (writeE M (b : Int) s = 7) := by unfold writeE Hid; rw [Int.toNat_natCast, if_neg (by simp [HR.out]), if_neg (by omega), if_neg hfull, hwk]; rfl
    have HM : Hid (writeM M (b : Int) s = { M with bd := upd M.bd b true }) := by unfold writeM Hid; rw [Int.toNat_natCast, if_neg (by simp [HR.out]), if_neg (by omega), if_neg hfull, hwk]; rfl
    have h64' : ¬ 64 < (s.size : Int) := by omega
    obtain ⟨so, cap, c0, _⟩ := h.row hb
    obtain ⟨c1, c2, _, f0, _⟩ := h.at hb
    have f2 := f0 (72 + b)
    rw [hwk] at c1
    have hf8 : (((M.pg b).length : Int) == 8) = false := by simp; omega
    have HF := h.setBd hb
    generalize M.bd b = y at *
    generalize (M.pg b).length = n at *
    go_enter Try.func32, Try.ntmps32
    go_wp2_with (go_at_call 89; refine (rready_ok rb b M _ h HR.out).mono ?_; rintro e w' ⟨rfl, rfl⟩)
    go_ret
    exact ⟨by rw [HE.out]; rfl, by rw [HM.out]; exact HF, grow_set _ _ _ _⟩
  · have HE : Hid (writeE M (b : Int) s = 9 ∧ writeM M (b : Int) s = { M with pend := some (.write b (padD s)) }) := by
      have := writeE_go HR.out h64 hfull hwk
      rw [if_pos hl0, if_pos hl0] at this; exact this
    have h64' : ¬ 64 < (s.size : Int) := by omega
    obtain ⟨so, cap, c0, _⟩ := h.row hb
    obtain ⟨c1, c2, _, f0, hlt⟩ := h.at hb
    rw [hwk] at c1
    have hf8 : (((M.pg b).length : Int) == 8) = false := by simp; omega
    have hn64 : (64 : Int) - (s.size : Int) = ((64 - s.size : Nat) : Int) := by omega
    have hmk := run_make_row' (P := Try.prog) 125 5 (.int .u8 0) 1 Try.underlying125 Try.info5 rfl .i64 .i64 (64 - s.size) (by omega) (by omega)
    rw [made_zz s (64 - s.size) rfl] at hmk
    have hzl : (zz s).length = 64 - s.size := by simp [zz]
    have hcv : (convert 125 9 (.slice (some ⟨w.heap.size, 0, none⟩) (64 - s.size) (64 - s.size))).run Try.prog (w.alloc (.cells (Lib.byteCells (zz s)).toArray 5)) = .ok (.string (txtL (zz s))) (w.alloc (.cells (Lib.byteCells (zz s)).toArray 5)) := by
      have := conv_blk2 (l := zz s) (cap := 64 - s.size) (Blk.new w (Lib.byteCells (zz s)).toArray 5)
      rw [hzl] at this; exact this
    have hx : Ext w (w.alloc (.cells (Lib.byteCells (zz s)).toArray 5)) := (Ext.refl w).alloc _
    have h2 := h.ext hx
    have HF := h2.fallen (.write b (padD s)) (txtL (padD s)) (fun b' d' e => by cases e; rfl)
    have hpad := pad_txt s
    have hzs := zz_size s
    obtain ⟨rc, data, q1, q2, q3⟩ := h2.cells
    have c96 := q2.cleft
    rw [hl0] at c96
    have c97 := q2.cdown
    have r98 := q1.cell 98
    rw [q2.chalf] at r98
    have r99 := q1.cell 99
    rw [q2.cdata] at r99
    have f98 := q1.free 98
    have f99 := q1.free 99
    have HC : Hid (rc[96]? = some (.int .i64 0)) := c96
    have HD : Hid (rc[97]? = some (.bool (downB M))) := c97
    generalize hW : w.alloc (.cells (Lib.byteCells (zz s)).toArray 5) = W at *
    generalize (M.pg b).length = n at *
    generalize tornN M.pend = tn at *
    go_enter Try.func32, Try.ntmps32
    go_wp2_with (first
      | (go_at_call 89; refine (rready_ok rb b M _ h HR.out).mono ?_; rintro e w' ⟨rfl, rfl⟩)
      | (go_at_call 90; refine (rfalls_yes rb rc _ q1 HC.out _ HD.out).mono ?_; rintro e w' ⟨rfl, rfl⟩))
    go_ret
    subst hW
    exact ⟨by rw [HE.out.1]; rfl, by rw [HE.out.2]; exact HF, grow_trans (grow_ext hx _) (grow_trans (grow_trans (grow_set _ _ _ _) (grow_set _ _ _ _)) (grow_set _ _ _ _))⟩

end Go.Proofs.Ytpldeejagomfjaa
