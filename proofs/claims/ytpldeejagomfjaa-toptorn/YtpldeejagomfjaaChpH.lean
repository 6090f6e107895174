
/- Write, Erase. -/
import Derived.Test.YtpldeejagomfjaaChpG
import Derived.Lib.BufferWrite
import Derived.Lib.UnsafeStr
namespace Go.Proofs.Ytpldeejagomfjaa
open Go.RowKit

def padD (s : ByteArray) : List UInt8 := s.data.toList ++ List.replicate (64 - s.size) 0
theorem padD_len (s : ByteArray) (h : s.size ≤ 64) : (padD s).length = 64 := by simp [padD]; omega
def writeE (M : CM) (b : Int) (s : ByteArray) : Int :=
  if ¬ readyE M b = 0 then readyE M b else if 64 < s.size then 2 else if (M.pg b.toNat).length = 8 then 6 else if M.wk b.toNat then 7 else if M.left = 0 then 9 else 0
def writeM (M : CM) (b : Int) (s : ByteArray) : CM :=
  if ¬ readyE M b = 0 then M else if 64 < s.size then M else if (M.pg b.toNat).length = 8 then M else if M.wk b.toNat then { M with bd := upd M.bd b.toNat true }
  else if M.left = 0 then { M with pend := some (.write b.toNat (padD s)) } else layM (tickM M) b.toNat (.whole (padD s))
theorem ready_zero {M : CM} {b : Int} (h : readyE M b = 0) : M.pend = none ∧ 0 ≤ b ∧ b < 24 := by
  unfold readyE downB at h
  cases hp : M.pend with
  | some p => rw [hp] at h; simp at h
  | none =>
    rw [hp] at h
    simp only [Option.isSome_none, Bool.false_eq_true, if_false] at h
    split at h
    · rename_i hb; exact ⟨rfl, hb⟩
    · simp at h
theorem ready_ok (cb : Nat) (b : Int) (M : CM) (w : World) (h : ChipAt w cb M) (hr : readyE M b = 0) :
    Calls Try.prog 83 #[.pointer (some ⟨cb, 0, none⟩), .int .i64 b] w fun e w' => e = .returned .nilIface ∧ w' = w := by
  refine (ready_any cb b M w h).mono ?_
  rintro e w' ⟨rfl, rfl⟩
  exact ⟨by rw [hr]; rfl, rfl⟩
theorem ready_no (cb : Nat) (b : Int) (M : CM) (w : World) (h : ChipAt w cb M) (hr : ¬ readyE M b = 0) :
    Calls Try.prog 83 #[.pointer (some ⟨cb, 0, none⟩), .int .i64 b] w fun e w' => (∃ n : Int, e = .returned (.iface 123 (.int .i64 n)) ∧ n = readyE M b) ∧ w' = w := by
  refine (ready_any cb b M w h).mono ?_
  rintro e w' ⟨rfl, rfl⟩
  exact ⟨⟨_, by unfold errV; rw [if_neg hr], rfl⟩, rfl⟩

theorem Ext.setCells {a : World} {g : Nat} (hg : a.heap.size ≤ g) (l : List Value) : ∀ {b : World} (_ : Ext a b) (o : Nat), Ext a (b.setCells g o l) := by
  induction l with
  | nil => intro b h o; exact h
  | cons v r ih => intro b h o; exact ih (h.set (p := ⟨g, o, none⟩) hg v) (o + 1)
theorem Ext.setRow {a b : World} (h : Ext a b) {g : Nat} (hg : a.heap.size ≤ g) (Y : Array Value) : Ext a (b.setRow g Y) :=
  ⟨h.below.trans ⟨rfl, rfl, rfl, by simp, fun k hk => setRow_other _ _ _ _ (by omega)⟩⟩
theorem putAt_all (l : List Value) (cs : Array Value) (h : cs.size = l.length) : putAt cs 0 l = l.toArray := by
  apply Array.ext_getElem?
  intro i
  by_cases hi : i < l.length
  · have := putAt_in l cs 0 i (by omega) hi
    rw [Nat.zero_add] at this
    rw [this]; simp
  · rw [Array.getElem?_eq_none (by rw [putAt_size]; omega), Array.getElem?_eq_none (by simpa using hi)]
theorem pad_row (s : ByteArray) : ((pageV 1).toArray.toList.take 1 ++ Lib.byteCells s.data.toList ++ (pageV 1).toArray.toList.drop (1 + s.size)).toArray = (pgCells (.whole (padD s))).toArray := by
  congr 1
  rw [Nat.add_comm 1 s.size]
  simp only [pageV, List.take_succ_cons, List.take_zero, List.drop_succ_cons, List.drop_replicate, pgCells, padD, List.map_append, List.map_replicate, Lib.byteCells, List.cons_append, List.nil_append]
  rfl
theorem writeE_go {M : CM} {b : Nat} {s : ByteArray} (hr : readyE M (b : Int) = 0) (h64 : s.size ≤ 64) (hf : ¬ (M.pg b).length = 8) (hw : M.wk b = false) :
    writeE M (b : Int) s = (if M.left = 0 then 9 else 0) ∧ writeM M (b : Int) s = (if M.left = 0 then { M with pend := some (.write b (padD s)) } else layM (tickM M) b (.whole (padD s))) := by
  have hr' : ¬ ¬ readyE M (b : Int) = 0 := by simp [hr]
  have h64' : ¬ 64 < s.size := by omega
  constructor
  · unfold writeE
    rw [Int.toNat_natCast, if_neg hr', if_neg h64', if_neg hf, hw]; simp
  · unfold writeM
    rw [Int.toNat_natCast, if_neg hr', if_neg h64', if_neg hf, hw]; simp
theorem tick_pg (M : CM) : (tickM M).pg = M.pg := by unfold tickM; split <;> rfl
theorem tick_pend (M : CM) : (tickM M).pend = M.pend := by unfold tickM; split <;> rfl
theorem tick_wr (M : CM) : (tickM M).wr = M.wr := by unfold tickM; split <;> rfl

set_option maxRecDepth 100000 in
set_option maxHeartbeats 2000000 in
/-- The last statement of Write. -/
theorem write_step (cb b kb pb : Nat) (s : ByteArray) (M : CM) (w : World) (hb : b < 24) (h64 : s.size ≤ 64) (h : ChipAt w cb M) (hub : M.left ≤ 9223372036854775807) (hpn : M.pend = none) (hl : (M.pg b).length < 8)
    (hk : Blk w kb #[.pointer (some ⟨cb, b * 524, none⟩)] 139) (hp : Blk w pb (pgCells (.whole (padD s))).toArray 132) (hkc : ¬ kb = cb) (hpc : ¬ pb = cb) :
    Calls Try.prog 85 #[.pointer (some ⟨cb, 0, none⟩), .func (.func 86) #[] #[.pointer (some ⟨kb, 0, none⟩), .pointer (some ⟨pb, 0, none⟩)], .func (.func 88) #[] #[.pointer (some ⟨kb, 0, none⟩)]] w fun e w' =>
      e = .returned (errV (if M.left = 0 then 9 else 0)) ∧ ChipAt w' cb (if M.left = 0 then { M with pend := some (.write b (padD s)) } else layM (tickM M) b (.whole (padD s))) ∧ w.grownBy w' (some cb) := by
  have hcl : CellsAt w cb M := h.cells
  by_cases h0 : M.left = 0
  · rw [if_pos h0, if_pos h0]
    refine (step_fall cb 86 88 _ _ M w hcl h0).mono ?_
    rintro e w' ⟨rfl, rfl⟩
    have hlt := hcl.lt
    have hx : Ext (w.setCell ⟨cb, 12577, none⟩ (fellV w.heap.size (w.heap.size + 1))) (((w.setCell ⟨cb, 12577, none⟩ (fellV w.heap.size (w.heap.size + 1))).alloc (.cells #[.func (.func 86) #[] #[.pointer (some ⟨kb, 0, none⟩), .pointer (some ⟨pb, 0, none⟩)]] 1)).alloc (.cells #[.func (.func 88) #[] #[.pointer (some ⟨kb, 0, none⟩)]] 1)) := ((Ext.refl _).alloc _).alloc _
    have hsz : (w.setCell ⟨cb, 12577, none⟩ (fellV w.heap.size (w.heap.size + 1))).heap.size = w.heap.size := by simp [World.setCell]
    obtain ⟨cs, fv, k1, k2, k3⟩ := hcl
    refine ⟨rfl, ⟨⟨_, _, (k1.set 12577 _).ext hx, k2.setFell _ _, ?_⟩, ?_⟩, grow_trans (grow_set _ _ _ _) (grow_ext hx _)⟩
    · refine ⟨w.heap.size, w.heap.size + 1, kb, pb, rfl, by omega, by omega, hkc, hpc, hb, padD_len s h64, ?_, ?_, (hk.other hkc _).ext hx, (hp.other hpc _).ext hx⟩
      · exact (Blk.new' _ _ _ hsz.symm).alloc _
      · exact Blk.new' _ _ _ (by simp [hsz])
    · intro b' d' he
      simp only [Option.some.injEq, Pend.write.injEq] at he
      obtain ⟨rfl, _⟩ := he
      exact hl
  · rw [if_neg h0, if_neg h0]
    refine (step_go46 cb 88 _ _ M (layM (tickM M) b (.whole (padD s))) w hcl h0 hub (fun W hg hc => ?_)).mono ?_
    · exact write1_any cb b kb pb (tickM M) (padD s) W hb (by rw [tick_pg]; exact hl) (padD_len s h64) hc (hk.grown hg hkc) (hp.grown hg hpc)
    · rintro e w' ⟨rfl, hc, hg⟩
      refine ⟨rfl, ⟨hc, fun b' d' he => ?_⟩, hg⟩
      simp only [layM, tick_pend, hpn] at he
      cases he

set_option maxRecDepth 100000 in
set_option maxHeartbeats 2000000 in
theorem write_any (cb : Nat) (b : Int) (s : ByteArray) (M : CM) (w : World) (h : ChipAt w cb M) (hub : M.left ≤ 9223372036854775807) (hs : s.size ≤ 9223372036854775807) :
    Calls Try.prog 31 #[.pointer (some ⟨cb, 0, none⟩), .int .i64 b, .string s] w fun e w' => e = .returned (errV (writeE M b s)) ∧ ChipAt w' cb (writeM M b s) ∧ w.grownBy w' (some cb) := by
  by_cases hr : readyE M b = 0
  · obtain ⟨hpn, hb1, hb2⟩ := ready_zero hr
    obtain ⟨b, rfl⟩ := Int.eq_ofNat_of_zero_le hb1
    have hb3 : b < 24 := by omega
    have HR : Hid (readyE M (b : Int) = 0) := hr
    clear hr
    by_cases h64 : s.size ≤ 64
    · by_cases hfull : (M.pg b).length = 8
      · obtain ⟨c0, _, _, _⟩ := h.at hb3
        have hx : Ext w (w.alloc (.cells #[.pointer (some ⟨cb, b * 524, none⟩)] 139)) := (Ext.refl w).alloc _
        have c0' := hx.cell c0
        rw [hfull] at c0'
        have HE : Hid (writeE M (b : Int) s = 6) := by unfold writeE Hid; rw [Int.toNat_natCast, if_neg (by simp [HR.out]), if_neg (by omega), if_pos hfull]
        have HM : Hid (writeM M (b : Int) s = M) := by unfold writeM Hid; rw [Int.toNat_natCast, if_neg (by simp [HR.out]), if_neg (by omega), if_pos hfull]
        have H2 : Hid (ChipAt (w.alloc (.cells #[.pointer (some ⟨cb, b * 524, none⟩)] 139)) cb M) := h.ext hx
        clear c0 hfull hx
        go_enter Try.func31, Try.ntmps31
        go_wp2_with (go_at_call 83; refine (ready_ok cb b M _ h HR.out).mono ?_; rintro e w' ⟨rfl, rfl⟩)
        go_ret
        refine ⟨by rw [HE.out]; rfl, by rw [HM.out]; exact H2.out, grow_alloc _ _ _⟩
      · cases hwk : M.wk b with
        | true =>
          obtain ⟨c0, _, _, _⟩ := h.at hb3
          have hx : Ext w (w.alloc (.cells #[.pointer (some ⟨cb, b * 524, none⟩)] 139)) := (Ext.refl w).alloc _
          have h2 := h.ext hx
          have c0' := hx.cell c0
          have hneq' : (((M.pg b).length : Int) == 8) = false := by simp; omega
          have HE : Hid (writeE M (b : Int) s = 7) := by unfold writeE Hid; rw [Int.toNat_natCast, if_neg (by simp [HR.out]), if_neg (by omega), if_neg hfull, hwk]; rfl
          have HM : Hid (writeM M (b : Int) s = givesM M b) := by unfold writeM givesM Hid; rw [Int.toNat_natCast, if_neg (by simp [HR.out]), if_neg (by omega), if_neg hfull, hwk]; rfl
          generalize (M.pg b).length = n at *
          clear c0 hx
          go_enter Try.func31, Try.ntmps31
          go_wp2_with (first
            | (go_at_call 83; refine (ready_ok cb b M _ h HR.out).mono ?_; rintro e w' ⟨rfl, rfl⟩)
            | (go_at_call 84; refine (gives_any cb b M _ hb3 h2).mono ?_; rw [hwk]; rintro e w2 ⟨rfl, hg1, hg2, _⟩))
          go_ret
          refine ⟨by rw [HE.out]; rfl, by rw [HM.out]; exact hg1, grow_trans (grow_alloc _ _ _) hg2⟩
        | false =>
          obtain ⟨c0, _, _, _⟩ := h.at hb3
          have hx : Ext w (w.alloc (.cells #[.pointer (some ⟨cb, b * 524, none⟩)] 139)) := (Ext.refl w).alloc _
          have h2 := h.ext hx
          have c0' := hx.cell c0
          have hneq' : (((M.pg b).length : Int) == 8) = false := by simp; omega
          have hl8 : (M.pg b).length < 8 := by
            obtain ⟨⟨cs, fv, k1, k2, k3⟩, _⟩ := h
            have := (k2.blk b hb3).len8
            omega
          have HE : Hid (writeE M (b : Int) s = (if M.left = 0 then 9 else 0) ∧ writeM M (b : Int) s = (if M.left = 0 then { M with pend := some (.write b (padD s)) } else layM (tickM M) b (.whole (padD s)))) := writeE_go HR.out h64 hfull hwk
          have hlt := CellsAt.lt (w := w) (cb := cb) (M := M) h.cells
          have hx2 := hx.alloc (.cells Z83 132)
          have hBp : Blk ((w.alloc (.cells #[.pointer (some ⟨cb, b * 524, none⟩)] 139)).alloc (.cells Z83 132)) (w.heap.size + 1) Z83 132 := Blk.new' _ _ _ (by simp)
          have hZs : Z83.size = 65 := by simp [Z83, pageV]
          have hsc := store_run (w.heap.size + 1) 0 (pageV 1) _ (hBp.there (o := 0) (n := (pageV 1).length) (by rw [pageV_len, hZs]; omega)) (pageV_one 1)
          have hBp3 := Blk.setCells (pageV 1) hBp 0
          rw [putAt_all _ _ (by rw [hZs, pageV_len])] at hBp3
          have hx3 := Ext.setCells (g := w.heap.size + 1) (by omega) (pageV 1) hx2 0
          have hBk : Blk ((w.alloc (.cells #[.pointer (some ⟨cb, b * 524, none⟩)] 139)).alloc (.cells Z83 132)) w.heap.size #[.pointer (some ⟨cb, b * 524, none⟩)] 139 := (Blk.new _ _ _).alloc _
          have hBk3 : Blk (((w.alloc (.cells #[.pointer (some ⟨cb, b * 524, none⟩)] 139)).alloc (.cells Z83 132)).setCells (w.heap.size + 1) 0 (pageV 1)) w.heap.size #[.pointer (some ⟨cb, b * 524, none⟩)] 139 := hBk.grown (grow_setCells _ _) (by omega)
          generalize hW3 : ((w.alloc (.cells #[.pointer (some ⟨cb, b * 524, none⟩)] 139)).alloc (.cells Z83 132)).setCells (w.heap.size + 1) 0 (pageV 1) = W3 at *
          clear hW3
          have hinfo : (Try.prog.info? 5).map (·.size) = some 1 := by kernel_rfl
          have hcp := Lib.run_copy_row_string (P := Try.prog) W3 125 9 3 5 (w.heap.size + 1) 1 64 64 s (pageV 1).toArray 132 Try.underlying125 hinfo hBp3.blk (by omega) (by rw [List.size_toArray, pageV_len]; omega)
          rw [pad_row s] at hcp
          have hBp4 : Blk (W3.setRow (w.heap.size + 1) (pgCells (.whole (padD s))).toArray) (w.heap.size + 1) (pgCells (.whole (padD s))).toArray 132 := ⟨setRow_heap _ _ _ _ 132 (0, 0) hBp3.blk⟩
          have hBk4 : Blk (W3.setRow (w.heap.size + 1) (pgCells (.whole (padD s))).toArray) w.heap.size #[.pointer (some ⟨cb, b * 524, none⟩)] 139 := ⟨by rw [setRow_other _ _ _ _ (by omega)]; exact hBk3.blk⟩
          have hx4 := hx3.setRow (g := w.heap.size + 1) (by omega) (pgCells (.whole (padD s))).toArray
          have HS : Hid (Calls Try.prog 85 #[.pointer (some ⟨cb, 0, none⟩), .func (.func 86) #[] #[.pointer (some ⟨w.heap.size, 0, none⟩), .pointer (some ⟨w.heap.size + 1, 0, none⟩)], .func (.func 88) #[] #[.pointer (some ⟨w.heap.size, 0, none⟩)]] (W3.setRow (w.heap.size + 1) (pgCells (.whole (padD s))).toArray) fun e w' =>
            e = .returned (errV (if M.left = 0 then 9 else 0)) ∧ ChipAt w' cb (if M.left = 0 then { M with pend := some (.write b (padD s)) } else layM (tickM M) b (.whole (padD s))) ∧ World.grownBy (W3.setRow (w.heap.size + 1) (pgCells (.whole (padD s))).toArray) w' (some cb)) :=
            write_step cb b w.heap.size (w.heap.size + 1) s M _ hb3 h64 (h.ext hx4) hub hpn hl8 hBk4 hBp4 (by omega) (by omega)
          have HG : Hid (w.grownBy (W3.setRow (w.heap.size + 1) (pgCells (.whole (padD s))).toArray) (some cb)) := grow_ext hx4 _
          generalize (pgCells (.whole (padD s))).toArray = Y at *
          generalize (if M.left = 0 then (9 : Int) else 0) = E at *
          generalize (if M.left = 0 then { M with pend := some (.write b (padD s)) } else layM (tickM M) b (.whole (padD s))) = M2 at *
          clear hBp hBp3 hBk hBk3 hBp4 hBk4 hx4 hx3 hx2 hZs hl8 hinfo hpn hub
          have z0 := zero83
          have z1 := Z83_ne
          have z2 := Z83_set 1
          generalize (M.pg b).length = n at *
          go_enter Try.func31, Try.ntmps31
          go_wp2_with (first
            | (go_at_call 83; refine (ready_ok cb b M _ h HR.out).mono ?_; rintro e w' ⟨rfl, rfl⟩)
            | (go_at_call 84; refine (gives_any cb b M _ hb3 h2).mono ?_; rw [hwk]; rintro e w' ⟨rfl, _, _, hw'⟩; obtain rfl := hw' rfl))
          go_wp2_with (go_at_call 85; refine HS.out.mono ?_; rintro e w4 ⟨rfl, hc4, hg4⟩)
          go_ret
          refine ⟨?_, ?_, ?_⟩
          · rw [HE.out.1]; rfl
          · rw [HE.out.2]; exact hc4
          · exact grow_trans HG.out hg4
    · have HE : Hid (writeE M (b : Int) s = 2) := by unfold writeE Hid; rw [if_neg (by simp [HR.out]), if_pos (by omega)]
      have HM : Hid (writeM M (b : Int) s = M) := by unfold writeM Hid; rw [if_neg (by simp [HR.out]), if_pos (by omega)]
      have H2 : Hid (ChipAt (w.alloc (.cells #[.pointer (some ⟨cb, b * 524, none⟩)] 139)) cb M) := h.ext ((Ext.refl w).alloc _)
      go_enter Try.func31, Try.ntmps31
      go_wp2_with (go_at_call 83; refine (ready_ok cb b M _ h HR.out).mono ?_; rintro e w' ⟨rfl, rfl⟩)
      go_ret
      refine ⟨by rw [HE.out]; rfl, by rw [HM.out]; exact H2.out, grow_alloc _ _ _⟩
  · have HR : Hid (¬ readyE M b = 0) := hr
    have HE : Hid (writeE M b s = readyE M b) := by unfold writeE Hid; rw [if_pos hr]
    have HM : Hid (writeM M b s = M) := by unfold writeM Hid; rw [if_pos hr]
    clear hr
    go_enter Try.func31, Try.ntmps31
    go_wp2_with (go_at_call 83; refine (ready_no cb b M _ h HR.out).mono ?_; rintro e w' ⟨⟨n, rfl, hn⟩, rfl⟩; have HN : Hid (n = readyE M b) := hn; clear hn)
    go_ret
    refine ⟨?_, by rw [HM.out]; exact h, grow_refl _ _⟩
    rw [HE.out, HN.out]; unfold errV; rw [if_neg HR.out]; rfl

end Go.Proofs.Ytpldeejagomfjaa
