/- TabI. -/
import Derived.Test.YtjeinblcpejpnabGreatDoorTabHJ

/- Tables: Write, every way. -/
namespace Go.Proofs.YtjeinblcpejpnabGreatDoor
open Go.RowKit Go.WideShapes
attribute [local go_sem ↓] Go.wp_at_zero Go.wp_at_succ

theorem tabS_keys : ∀ (es : List Ent) (p : Option Ent), tabS p es = 0 → ∀ e ∈ es, faultB e.key e.val e.gone = 0
  | [], _, _, e, he => by cases he
  | x :: xs, p, h, e, he => by
    unfold tabS at h
    by_cases h1 : faultB x.key x.val x.gone = 0
    · rw [if_neg (by simp [h1])] at h
      split at h
      · cases h
      · rcases List.mem_cons.1 he with rfl | he'
        · exact h1
        · exact tabS_keys xs _ h e he'
    · rw [if_pos h1] at h; exact absurd h h1
theorem faultB_key {k v : ByteArray} {g : Bool} (h : faultB k v g = 0) : k.size ≤ 8 := by
  unfold faultB at h
  split at h
  · cases h
  · split at h
    · cases h
    · rename_i h2; simp at h2; omega
theorem tabF_zero {es : List Ent} (h : tabF es = 0) : 0 < es.length ∧ es.length ≤ 14 ∧ tabS none es = 0 := by
  unfold tabF at h
  split at h
  · cases h
  · rename_i h1; exact ⟨by omega, by omega, h⟩
def WrEnd (w : World) (cb : Nat) (r : CM × Int) (e : Ending) (w' : World) : Prop := e = .returned (errV r.2) ∧ ChipAt w' cb r.1 ∧ w.grownBy w' (some cb)
set_option maxRecDepth 100000 in
set_option maxHeartbeats 4000000 in
theorem tabWrite_any (cb : Nat) (b : Int) (ao : Option Addr) (cap : Nat) (es : List Ent) (M : CM) (w : World) (h : ChipAt w cb M) (hub : M.left ≤ 9223372036854775807) (hwr : WrOk M) (hl : es.length ≤ 1000) (hcap : es.length ≤ cap) (hes : EntsAt w ao es) (hne0 : tabF es = 0 → ∀ a, ao = some a → ¬ a.block = cb) :
    Calls Tryz.prog 85 #[.pointer (some ⟨cb, 0, none⟩), .int .i64 b, .slice ao es.length cap] w (WrEnd w cb (writeT M b es)) := by
  by_cases hz : tabF es = 0
  · have hne := hne0 hz
    obtain ⟨_, hl14, hS⟩ := tabF_zero hz
    have hks : ∀ e ∈ es, e.key.size ≤ 8 := fun e he => faultB_key (tabS_keys es none hS e he)
    by_cases he : eraseE M b = 0
    · by_cases hw : writeE (eraseM M b) b (headT es) = 0
      · have := tabWrite_main cb b ao cap es M w h hub hwr hl14 hcap hks hes hne hz he hw
        unfold writeT
        rw [if_neg (by simp [hz]), if_neg (by simp [he]), if_neg (by simp [hw])]
        exact this
      · have HR : Hid (writeT M b es = (writeM (eraseM M b) b (headT es), writeE (eraseM M b) b (headT es))) := by
          unfold writeT Hid
          rw [if_neg (by simp [hz]), if_neg (by simp [he]), if_pos hw]
        have hclt := h.lt
        have HC : Hid (∀ W, Ext w W → Calls Tryz.prog 106 #[.slice ao es.length cap] W fun e w' => e = .returned .nilIface ∧ Ext W w') := fun W hx => by
          have := tabCheck_any ao cap es W (by omega) (hes.ext hx); rw [hz] at this; exact this
        have HE : Hid (∀ W, Ext w W → Calls Tryz.prog 66 #[.pointer (some ⟨cb, 0, none⟩), .int .i64 b] W fun e w' => e = .returned .nilIface ∧ ChipAt w' cb (eraseM M b) ∧ W.grownBy w' (some cb)) := fun W hx => by
          have := erase_any cb b M W (h.ext hx) hub hwr; rw [he] at this; exact this
        have HH : Hid (∀ W, w.grownBy W (some cb) → Calls Tryz.prog 108 #[.slice ao es.length cap] W fun e w' => e = .returned (.string (headT es)) ∧ Ext W w') := fun W hx => head_any ao cap es W hl14 hks (hes.grown hx hne)
        have HL1 : (eraseM M b).left ≤ 9223372036854775807 := eraseM_left' M b hub (by decide)
        have HW : Hid (∀ W, ChipAt W cb (eraseM M b) → Calls Tryz.prog 45 #[.pointer (some ⟨cb, 0, none⟩), .int .i64 b, .string (headT es)] W fun e w' => e = .returned (.iface 88 (.int .i64 (writeE (eraseM M b) b (headT es)))) ∧ ChipAt w' cb (writeM (eraseM M b) b (headT es)) ∧ W.grownBy w' (some cb)) := fun W hc => by
          have := write_any cb b (headT es) (eraseM M b) W hc HL1 (by rw [headT_size]; decide); unfold errV at this; rw [if_neg hw] at this; exact this
        have HN : Hid (¬ writeE (eraseM M b) b (headT es) = 0) := hw
        clear hz he hw hub hwr h HL1 hS hks hes
        rw [HR.out]
        generalize writeE (eraseM M b) b (headT es) = f at *
        generalize writeM (eraseM M b) b (headT es) = M0 at *
        generalize headT es = T at *
        generalize eraseM M b = M1 at *
        have hx0 : Ext w (((w.alloc (.cells #[.pointer (some ⟨cb, 0, none⟩)] 31)).alloc (.cells #[.int .i64 b] 3)).alloc (.cells #[.nilIface] 28)) := (((Ext.refl w).alloc _).alloc _).alloc _
        have b3 : Blk (((w.alloc (.cells #[.pointer (some ⟨cb, 0, none⟩)] 31)).alloc (.cells #[.int .i64 b] 3)).alloc (.cells #[.nilIface] 28)) w.heap.size #[.pointer (some ⟨cb, 0, none⟩)] 31 := ((Blk.new w _ _).alloc _).alloc _
        have b4 : Blk (((w.alloc (.cells #[.pointer (some ⟨cb, 0, none⟩)] 31)).alloc (.cells #[.int .i64 b] 3)).alloc (.cells #[.nilIface] 28)) (w.heap.size + 1) #[.int .i64 b] 3 := (Blk.new' _ _ _ (by simp)).alloc _
        have b6 : Blk (((w.alloc (.cells #[.pointer (some ⟨cb, 0, none⟩)] 31)).alloc (.cells #[.int .i64 b] 3)).alloc (.cells #[.nilIface] 28)) (w.heap.size + 2) #[.nilIface] 28 := Blk.new' _ _ _ (by simp)
        have hcn : ¬ w.heap.size = cb := by omega
        have hcn1 : ¬ w.heap.size + 1 = cb := by omega
        have hcn2 : ¬ w.heap.size + 2 = cb := by omega
        go_enter Tryz.func85, Tryz.ntmps85
        go_wp2_with (first
          | (go_at_call 106; refine (HC.out _ hx0).mono ?_; rintro e w1 ⟨rfl, hx1⟩; have k3 := (Blk.ext hx1 b3).cell 0; have k4 := (Blk.ext hx1 b4).cell 0)
          | (go_at_call 66; refine (HE.out _ (hx0.trans hx1)).mono ?_; rintro e w2 ⟨rfl, hc2, hg2⟩))
        have q3 := (Blk.ext hx1 b3).grown hg2 hcn
        have q4 := (Blk.ext hx1 b4).grown hg2 hcn1
        have q6 := (Blk.ext hx1 b6).grown hg2 hcn2
        have hgw2 : w.grownBy w2 (some cb) := grow_trans (grow_ext (hx0.trans hx1) _) hg2
        clear b3 b4 b6 hx0 k3 k4 hg2 hx1
        have z3 := q3.cell 0
        have z4 := q4.cell 0
        have HHH : Hid (∀ W, Ext w2 W → Calls Tryz.prog 108 #[.slice ao es.length cap] W fun e w' => e = .returned (.string T) ∧ Ext W w') := fun W hx => HH.out W (grow_trans hgw2 (grow_ext hx _))
        go_region_held3 (fun w' => w'.cell? ⟨w.heap.size, 0, none⟩ = some (.pointer (some ⟨cb, 0, none⟩)) ∧ w'.cell? ⟨w.heap.size + 1, 0, none⟩ = some (.int .i64 b))
          (first | (refine ⟨?_, ?_⟩; (simpa using z3); (simpa using z4); done) | (refine ⟨?_, ?_⟩; (exact (q3.drew.ext hx3).cell 0); (exact (q4.drew.ext hx3).cell 0); done) | (refine ⟨?_, ?_⟩; (exact ((q3.drew.ext hx3).grown hg4 hcn).cell 0); (exact ((q4.drew.ext hx3).grown hg4 hcn1).cell 0); done))
          (first | (go_at_call 108; refine (HHH.out _ (Ext.refl _).drew).mono ?_; rintro e w3 ⟨rfl, hx3⟩) | (go_at_call 45; refine (HW.out _ (hc2.ext ((Ext.refl w2).drew.trans hx3))).mono ?_; rintro e w4 ⟨rfl, hc4, hg4⟩))
        have p6 := (q6.drew.ext hx3).grown hg4 hcn2
        have hgw4 : w.grownBy w4 (some cb) := grow_trans hgw2 (grow_trans (grow_ext ((Ext.refl w2).drew.trans hx3) _) hg4)
        have y6 := p6.cell 0
        have y6f := p6.free 0
        clear q3 q4 q6 z3 z4 hx3 hg4 hgw2 hc2
        go_wp2_with fail
        have hz6 := (p6.set 0 (.iface 88 (.int .i64 f))).cell 0
        exact bodyPost_ret (v := .iface 88 (.int .i64 f)) (by simp [results, Tryz.results85, go_sem, hz6]) rfl ⟨by unfold errV; rw [if_neg HN.out], hc4.setBox hcn2 p6 rfl 0 _, grow_kept hgw4 (Nat.le_refl _) (grow_set w4 _ 0 _) (fun r e => by cases e; omega)⟩
    · have HR : Hid (writeT M b es = (eraseM M b, eraseE M b)) := by
        unfold writeT Hid
        rw [if_neg (by simp [hz]), if_pos he]
      have hclt := h.lt
      have HC : Hid (∀ W, Ext w W → Calls Tryz.prog 106 #[.slice ao es.length cap] W fun e w' => e = .returned .nilIface ∧ Ext W w') := fun W hx => by
        have := tabCheck_any ao cap es W (by omega) (hes.ext hx); rw [hz] at this; exact this
      have HE : Hid (∀ W, Ext w W → Calls Tryz.prog 66 #[.pointer (some ⟨cb, 0, none⟩), .int .i64 b] W fun e w' => e = .returned (.iface 88 (.int .i64 (eraseE M b))) ∧ ChipAt w' cb (eraseM M b) ∧ W.grownBy w' (some cb)) := fun W hx => by
        have := erase_any cb b M W (h.ext hx) hub hwr; unfold errV at this; rw [if_neg he] at this; exact this
      have HN : Hid (¬ eraseE M b = 0) := he
      clear hz he hub hwr h hS hks hes
      rw [HR.out]
      generalize eraseE M b = f at *
      generalize eraseM M b = M1 at *
      have hx0 : Ext w (((w.alloc (.cells #[.pointer (some ⟨cb, 0, none⟩)] 31)).alloc (.cells #[.int .i64 b] 3)).alloc (.cells #[.nilIface] 28)) := (((Ext.refl w).alloc _).alloc _).alloc _
      have b3 : Blk (((w.alloc (.cells #[.pointer (some ⟨cb, 0, none⟩)] 31)).alloc (.cells #[.int .i64 b] 3)).alloc (.cells #[.nilIface] 28)) w.heap.size #[.pointer (some ⟨cb, 0, none⟩)] 31 := ((Blk.new w _ _).alloc _).alloc _
      have b4 : Blk (((w.alloc (.cells #[.pointer (some ⟨cb, 0, none⟩)] 31)).alloc (.cells #[.int .i64 b] 3)).alloc (.cells #[.nilIface] 28)) (w.heap.size + 1) #[.int .i64 b] 3 := (Blk.new' _ _ _ (by simp)).alloc _
      have b6 : Blk (((w.alloc (.cells #[.pointer (some ⟨cb, 0, none⟩)] 31)).alloc (.cells #[.int .i64 b] 3)).alloc (.cells #[.nilIface] 28)) (w.heap.size + 2) #[.nilIface] 28 := Blk.new' _ _ _ (by simp)
      have hcn2 : ¬ w.heap.size + 2 = cb := by omega
      go_enter Tryz.func85, Tryz.ntmps85
      go_wp2_with (first
        | (go_at_call 106; refine (HC.out _ hx0).mono ?_; rintro e w1 ⟨rfl, hx1⟩; have k3 := (Blk.ext hx1 b3).cell 0; have k4 := (Blk.ext hx1 b4).cell 0)
        | (go_at_call 66; refine (HE.out _ (hx0.trans hx1)).mono ?_; rintro e w2 ⟨rfl, hc2, hg2⟩; have y6 := ((Blk.ext hx1 b6).grown hg2 hcn2).cell 0; have y6f := ((Blk.ext hx1 b6).grown hg2 hcn2).free 0))
      have q6 := (Blk.ext hx1 b6).grown hg2 hcn2
      have hgw2 : w.grownBy w2 (some cb) := grow_trans (grow_ext (hx0.trans hx1) _) hg2
      have hz6 := (q6.set 0 (.iface 88 (.int .i64 f))).cell 0
      exact bodyPost_ret (v := .iface 88 (.int .i64 f)) (by simp [results, Tryz.results85, go_sem, hz6]) rfl ⟨by unfold errV; rw [if_neg HN.out], hc2.setBox hcn2 q6 rfl 0 _, grow_kept hgw2 (Nat.le_refl _) (grow_set w2 _ 0 _) (fun r e => by cases e; omega)⟩
  · have HR : Hid (writeT M b es = (M, tabF es)) := by
      unfold writeT Hid
      rw [if_pos hz]
    have hclt := h.lt
    have HC : Hid (∀ W, Ext w W → Calls Tryz.prog 106 #[.slice ao es.length cap] W fun e w' => e = .returned (.iface 88 (.int .i64 (tabF es))) ∧ Ext W w') := fun W hx => by
      have := tabCheck_any ao cap es W (by omega) (hes.ext hx); unfold errV at this; rw [if_neg hz] at this; exact this
    have HN : Hid (¬ tabF es = 0) := hz
    have HM : Hid (ChipAt w cb M) := h
    clear hz hub hwr h hes
    rw [HR.out]
    generalize tabF es = f at *
    have hx0 : Ext w (((w.alloc (.cells #[.pointer (some ⟨cb, 0, none⟩)] 31)).alloc (.cells #[.int .i64 b] 3)).alloc (.cells #[.nilIface] 28)) := (((Ext.refl w).alloc _).alloc _).alloc _
    have b6 : Blk (((w.alloc (.cells #[.pointer (some ⟨cb, 0, none⟩)] 31)).alloc (.cells #[.int .i64 b] 3)).alloc (.cells #[.nilIface] 28)) (w.heap.size + 2) #[.nilIface] 28 := Blk.new' _ _ _ (by simp)
    have hcn2 : ¬ w.heap.size + 2 = cb := by omega
    go_enter Tryz.func85, Tryz.ntmps85
    go_wp2_with (first
      | (go_at_call 106; refine (HC.out _ hx0).mono ?_; rintro e w1 ⟨rfl, hx1⟩; have y6 := (Blk.ext hx1 b6).cell 0; have y6f := (Blk.ext hx1 b6).free 0))
    have q6 := Blk.ext hx1 b6
    have hz6 := (q6.set 0 (.iface 88 (.int .i64 f))).cell 0
    exact bodyPost_ret (v := .iface 88 (.int .i64 f)) (by simp [results, Tryz.results85, go_sem, hz6]) rfl ⟨by unfold errV; rw [if_neg HN.out], (HM.out.ext (hx0.trans hx1)).setBox hcn2 q6 rfl 0 _, grow_kept (grow_ext (hx0.trans hx1) _) (Nat.le_refl _) (grow_set w1 _ 0 _) (fun r e => by cases e; omega)⟩
end Go.Proofs.YtjeinblcpejpnabGreatDoor
