/- TabI TabJ TabK TabL StoM StoN. -/
import Derived.Test.YtkibgflbidkalaaGreatDoorTabHJ
import Derived.Test.YtkibgflbidkalaaGreatDoorLstMJ
import Derived.Test.YtkibgflbidkalaaGreatDoorLstGJ
import Derived.Test.YtkibgflbidkalaaGreatDoorManMJ

/- Tables: Write, every way. -/
namespace Go.Proofs.YtkibgflbidkalaaGreatDoor
open Go.RowKit Go.WideShapes
attribute [local go_sem ↓] Go.wp_at_zero Go.wp_at_succ

theorem tabS_keys : ∀ (es : List Ent) (p : Option Ent), tabS p es = 0 → ∀ e ∈ es, faultB e.key e.val e.gone = 0
  | [], _, _, e, he => by cases he
  | x :: xs, p, h, e, he => by
    unfold tabS at h
    by_cases h1 : faultB x.key x.val x.gone = 0
    · rw [if_neg (by simp [h1])] at h
      split at h
      · cases h
      · rcases List.mem_cons.1 he with rfl | he'
        · exact h1
        · exact tabS_keys xs _ h e he'
    · rw [if_pos h1] at h; exact absurd h h1
theorem faultB_key {k v : ByteArray} {g : Bool} (h : faultB k v g = 0) : k.size ≤ 8 := by
  unfold faultB at h
  split at h
  · cases h
  · split at h
    · cases h
    · rename_i h2; simp at h2; omega
theorem tabF_zero {es : List Ent} (h : tabF es = 0) : 0 < es.length ∧ es.length ≤ 14 ∧ tabS none es = 0 := by
  unfold tabF at h
  split at h
  · cases h
  · rename_i h1; exact ⟨by omega, by omega, h⟩
def WrEnd (w : World) (cb : Nat) (r : CM × Int) (e : Ending) (w' : World) : Prop := e = .returned (errV r.2) ∧ ChipAt w' cb r.1 ∧ w.grownBy w' (some cb)
set_option maxRecDepth 100000 in
set_option maxHeartbeats 4000000 in
theorem tabWrite_any (cb : Nat) (b : Int) (ao : Option Addr) (cap : Nat) (es : List Ent) (M : CM) (w : World) (h : ChipAt w cb M) (hub : M.left ≤ 9223372036854775807) (hwr : WrOk M) (hl : es.length ≤ 1000) (hcap : es.length ≤ cap) (hes : EntsAt w ao es) (hne0 : tabF es = 0 → ∀ a, ao = some a → ¬ a.block = cb) :
    Calls Tryz.prog 145 #[.pointer (some ⟨cb, 0, none⟩), .int .i64 b, .slice ao es.length cap] w (WrEnd w cb (writeT M b es)) := by
  by_cases hz : tabF es = 0
  · have hne := hne0 hz
    obtain ⟨_, hl14, hS⟩ := tabF_zero hz
    have hks : ∀ e ∈ es, e.key.size ≤ 8 := fun e he => faultB_key (tabS_keys es none hS e he)
    by_cases he : eraseE M b = 0
    · by_cases hw : writeE (eraseM M b) b (headT es) = 0
      · have := tabWrite_main cb b ao cap es M w h hub hwr hl14 hcap hks hes hne hz he hw
        unfold writeT
        rw [if_neg (by simp [hz]), if_neg (by simp [he]), if_neg (by simp [hw])]
        exact this
      · have HR : Hid (writeT M b es = (writeM (eraseM M b) b (headT es), writeE (eraseM M b) b (headT es))) := by
          unfold writeT Hid
          rw [if_neg (by simp [hz]), if_neg (by simp [he]), if_pos hw]
        have hclt := h.lt
        have HC : Hid (∀ W, Ext w W → Calls Tryz.prog 167 #[.slice ao es.length cap] W fun e w' => e = .returned .nilIface ∧ Ext W w') := fun W hx => by
          have := tabCheck_any ao cap es W (by omega) (hes.ext hx); rw [hz] at this; exact this
        have HE : Hid (∀ W, Ext w W → Calls Tryz.prog 24 #[.pointer (some ⟨cb, 0, none⟩), .int .i64 b] W fun e w' => e = .returned .nilIface ∧ ChipAt w' cb (eraseM M b) ∧ W.grownBy w' (some cb)) := fun W hx => by
          have := erase_any cb b M W (h.ext hx) hub hwr; rw [he] at this; exact this
        have HH : Hid (∀ W, w.grownBy W (some cb) → Calls Tryz.prog 169 #[.slice ao es.length cap] W fun e w' => e = .returned (.string (headT es)) ∧ Ext W w') := fun W hx => head_any ao cap es W hl14 hks (hes.grown hx hne)
        have HL1 : (eraseM M b).left ≤ 9223372036854775807 := eraseM_left' M b hub (by decide)
        have HW : Hid (∀ W, ChipAt W cb (eraseM M b) → Calls Tryz.prog 82 #[.pointer (some ⟨cb, 0, none⟩), .int .i64 b, .string (headT es)] W fun e w' => e = .returned (.iface 39 (.int .i64 (writeE (eraseM M b) b (headT es)))) ∧ ChipAt w' cb (writeM (eraseM M b) b (headT es)) ∧ W.grownBy w' (some cb)) := fun W hc => by
          have := write_any cb b (headT es) (eraseM M b) W hc HL1 (by rw [headT_size]; decide); unfold errV at this; rw [if_neg hw] at this; exact this
        have HN : Hid (¬ writeE (eraseM M b) b (headT es) = 0) := hw
        clear hz he hw hub hwr h HL1 hS hks hes
        rw [HR.out]
        generalize writeE (eraseM M b) b (headT es) = f at *
        generalize writeM (eraseM M b) b (headT es) = M0 at *
        generalize headT es = T at *
        generalize eraseM M b = M1 at *
        have hx0 : Ext w (((w.alloc (.cells #[.pointer (some ⟨cb, 0, none⟩)] 41)).alloc (.cells #[.int .i64 b] 3)).alloc (.cells #[.nilIface] 25)) := (((Ext.refl w).alloc _).alloc _).alloc _
        have b3 : Blk (((w.alloc (.cells #[.pointer (some ⟨cb, 0, none⟩)] 41)).alloc (.cells #[.int .i64 b] 3)).alloc (.cells #[.nilIface] 25)) w.heap.size #[.pointer (some ⟨cb, 0, none⟩)] 41 := ((Blk.new w _ _).alloc _).alloc _
        have b4 : Blk (((w.alloc (.cells #[.pointer (some ⟨cb, 0, none⟩)] 41)).alloc (.cells #[.int .i64 b] 3)).alloc (.cells #[.nilIface] 25)) (w.heap.size + 1) #[.int .i64 b] 3 := (Blk.new' _ _ _ (by simp)).alloc _
        have b6 : Blk (((w.alloc (.cells #[.pointer (some ⟨cb, 0, none⟩)] 41)).alloc (.cells #[.int .i64 b] 3)).alloc (.cells #[.nilIface] 25)) (w.heap.size + 2) #[.nilIface] 25 := Blk.new' _ _ _ (by simp)
        have hcn : ¬ w.heap.size = cb := by omega
        have hcn1 : ¬ w.heap.size + 1 = cb := by omega
        have hcn2 : ¬ w.heap.size + 2 = cb := by omega
        go_enter Tryz.func145, Tryz.ntmps145
        go_wp2_with (first
          | (go_at_call 167; refine (HC.out _ hx0).mono ?_; rintro e w1 ⟨rfl, hx1⟩; have k3 := (Blk.ext hx1 b3).cell 0; have k4 := (Blk.ext hx1 b4).cell 0)
          | (go_at_call 24; refine (HE.out _ (hx0.trans hx1)).mono ?_; rintro e w2 ⟨rfl, hc2, hg2⟩))
        have q3 := (Blk.ext hx1 b3).grown hg2 hcn
        have q4 := (Blk.ext hx1 b4).grown hg2 hcn1
        have q6 := (Blk.ext hx1 b6).grown hg2 hcn2
        have hgw2 : w.grownBy w2 (some cb) := grow_trans (grow_ext (hx0.trans hx1) _) hg2
        clear b3 b4 b6 hx0 k3 k4 hg2 hx1
        have z3 := q3.cell 0
        have z4 := q4.cell 0
        have HHH : Hid (∀ W, Ext w2 W → Calls Tryz.prog 169 #[.slice ao es.length cap] W fun e w' => e = .returned (.string T) ∧ Ext W w') := fun W hx => HH.out W (grow_trans hgw2 (grow_ext hx _))
        go_region_held3 (fun w' => w'.cell? ⟨w.heap.size, 0, none⟩ = some (.pointer (some ⟨cb, 0, none⟩)) ∧ w'.cell? ⟨w.heap.size + 1, 0, none⟩ = some (.int .i64 b))
          (first | (refine ⟨?_, ?_⟩; (simpa using z3); (simpa using z4); done) | (refine ⟨?_, ?_⟩; (exact (q3.drew.ext hx3).cell 0); (exact (q4.drew.ext hx3).cell 0); done) | (refine ⟨?_, ?_⟩; (exact ((q3.drew.ext hx3).grown hg4 hcn).cell 0); (exact ((q4.drew.ext hx3).grown hg4 hcn1).cell 0); done))
          (first | (go_at_call 169; refine (HHH.out _ (Ext.refl _).drew).mono ?_; rintro e w3 ⟨rfl, hx3⟩) | (go_at_call 82; refine (HW.out _ (hc2.ext ((Ext.refl w2).drew.trans hx3))).mono ?_; rintro e w4 ⟨rfl, hc4, hg4⟩))
        have p6 := (q6.drew.ext hx3).grown hg4 hcn2
        have hgw4 : w.grownBy w4 (some cb) := grow_trans hgw2 (grow_trans (grow_ext ((Ext.refl w2).drew.trans hx3) _) hg4)
        have y6 := p6.cell 0
        have y6f := p6.free 0
        clear q3 q4 q6 z3 z4 hx3 hg4 hgw2 hc2
        go_wp2_with fail
        have hz6 := (p6.set 0 (.iface 39 (.int .i64 f))).cell 0
        exact bodyPost_ret (v := .iface 39 (.int .i64 f)) (by simp [results, Tryz.results145, go_sem, hz6]) rfl ⟨by unfold errV; rw [if_neg HN.out], hc4.setBox hcn2 p6 rfl 0 _, grow_kept hgw4 (Nat.le_refl _) (grow_set w4 _ 0 _) (fun r e => by cases e; omega)⟩
    · have HR : Hid (writeT M b es = (eraseM M b, eraseE M b)) := by
        unfold writeT Hid
        rw [if_neg (by simp [hz]), if_pos he]
      have hclt := h.lt
      have HC : Hid (∀ W, Ext w W → Calls Tryz.prog 167 #[.slice ao es.length cap] W fun e w' => e = .returned .nilIface ∧ Ext W w') := fun W hx => by
        have := tabCheck_any ao cap es W (by omega) (hes.ext hx); rw [hz] at this; exact this
      have HE : Hid (∀ W, Ext w W → Calls Tryz.prog 24 #[.pointer (some ⟨cb, 0, none⟩), .int .i64 b] W fun e w' => e = .returned (.iface 39 (.int .i64 (eraseE M b))) ∧ ChipAt w' cb (eraseM M b) ∧ W.grownBy w' (some cb)) := fun W hx => by
        have := erase_any cb b M W (h.ext hx) hub hwr; unfold errV at this; rw [if_neg he] at this; exact this
      have HN : Hid (¬ eraseE M b = 0) := he
      clear hz he hub hwr h hS hks hes
      rw [HR.out]
      generalize eraseE M b = f at *
      generalize eraseM M b = M1 at *
      have hx0 : Ext w (((w.alloc (.cells #[.pointer (some ⟨cb, 0, none⟩)] 41)).alloc (.cells #[.int .i64 b] 3)).alloc (.cells #[.nilIface] 25)) := (((Ext.refl w).alloc _).alloc _).alloc _
      have b3 : Blk (((w.alloc (.cells #[.pointer (some ⟨cb, 0, none⟩)] 41)).alloc (.cells #[.int .i64 b] 3)).alloc (.cells #[.nilIface] 25)) w.heap.size #[.pointer (some ⟨cb, 0, none⟩)] 41 := ((Blk.new w _ _).alloc _).alloc _
      have b4 : Blk (((w.alloc (.cells #[.pointer (some ⟨cb, 0, none⟩)] 41)).alloc (.cells #[.int .i64 b] 3)).alloc (.cells #[.nilIface] 25)) (w.heap.size + 1) #[.int .i64 b] 3 := (Blk.new' _ _ _ (by simp)).alloc _
      have b6 : Blk (((w.alloc (.cells #[.pointer (some ⟨cb, 0, none⟩)] 41)).alloc (.cells #[.int .i64 b] 3)).alloc (.cells #[.nilIface] 25)) (w.heap.size + 2) #[.nilIface] 25 := Blk.new' _ _ _ (by simp)
      have hcn2 : ¬ w.heap.size + 2 = cb := by omega
      go_enter Tryz.func145, Tryz.ntmps145
      go_wp2_with (first
        | (go_at_call 167; refine (HC.out _ hx0).mono ?_; rintro e w1 ⟨rfl, hx1⟩; have k3 := (Blk.ext hx1 b3).cell 0; have k4 := (Blk.ext hx1 b4).cell 0)
        | (go_at_call 24; refine (HE.out _ (hx0.trans hx1)).mono ?_; rintro e w2 ⟨rfl, hc2, hg2⟩; have y6 := ((Blk.ext hx1 b6).grown hg2 hcn2).cell 0; have y6f := ((Blk.ext hx1 b6).grown hg2 hcn2).free 0))
      have q6 := (Blk.ext hx1 b6).grown hg2 hcn2
      have hgw2 : w.grownBy w2 (some cb) := grow_trans (grow_ext (hx0.trans hx1) _) hg2
      have hz6 := (q6.set 0 (.iface 39 (.int .i64 f))).cell 0
      exact bodyPost_ret (v := .iface 39 (.int .i64 f)) (by simp [results, Tryz.results145, go_sem, hz6]) rfl ⟨by unfold errV; rw [if_neg HN.out], hc2.setBox hcn2 q6 rfl 0 _, grow_kept hgw2 (Nat.le_refl _) (grow_set w2 _ 0 _) (fun r e => by cases e; omega)⟩
  · have HR : Hid (writeT M b es = (M, tabF es)) := by
      unfold writeT Hid
      rw [if_pos hz]
    have hclt := h.lt
    have HC : Hid (∀ W, Ext w W → Calls Tryz.prog 167 #[.slice ao es.length cap] W fun e w' => e = .returned (.iface 39 (.int .i64 (tabF es))) ∧ Ext W w') := fun W hx => by
      have := tabCheck_any ao cap es W (by omega) (hes.ext hx); unfold errV at this; rw [if_neg hz] at this; exact this
    have HN : Hid (¬ tabF es = 0) := hz
    have HM : Hid (ChipAt w cb M) := h
    clear hz hub hwr h hes
    rw [HR.out]
    generalize tabF es = f at *
    have hx0 : Ext w (((w.alloc (.cells #[.pointer (some ⟨cb, 0, none⟩)] 41)).alloc (.cells #[.int .i64 b] 3)).alloc (.cells #[.nilIface] 25)) := (((Ext.refl w).alloc _).alloc _).alloc _
    have b6 : Blk (((w.alloc (.cells #[.pointer (some ⟨cb, 0, none⟩)] 41)).alloc (.cells #[.int .i64 b] 3)).alloc (.cells #[.nilIface] 25)) (w.heap.size + 2) #[.nilIface] 25 := Blk.new' _ _ _ (by simp)
    have hcn2 : ¬ w.heap.size + 2 = cb := by omega
    go_enter Tryz.func145, Tryz.ntmps145
    go_wp2_with (first
      | (go_at_call 167; refine (HC.out _ hx0).mono ?_; rintro e w1 ⟨rfl, hx1⟩; have y6 := (Blk.ext hx1 b6).cell 0; have y6f := (Blk.ext hx1 b6).free 0))
    have q6 := Blk.ext hx1 b6
    have hz6 := (q6.set 0 (.iface 39 (.int .i64 f))).cell 0
    exact bodyPost_ret (v := .iface 39 (.int .i64 f)) (by simp [results, Tryz.results145, go_sem, hz6]) rfl ⟨by unfold errV; rw [if_neg HN.out], (HM.out.ext (hx0.trans hx1)).setBox hcn2 q6 rfl 0 _, grow_kept (grow_ext (hx0.trans hx1) _) (Nat.le_refl _) (grow_set w1 _ 0 _) (fun r e => by cases e; omega)⟩
end Go.Proofs.YtkibgflbidkalaaGreatDoor

/- Tables: a block that holds a table, in plain words. -/
namespace Go.Proofs.YtkibgflbidkalaaGreatDoor
open Go.RowKit Go.WideShapes

theorem tabS_ris : ∀ (es : List Ent) (p : Option Ent), tabS p es = 0 → Ris es ∧ ∀ q, p = some q → ∀ e ∈ es, Lt q.key e.key
  | [], p, _ => ⟨Ris.nil, fun _ _ e he => by cases he⟩
  | x :: xs, p, h => by
    unfold tabS at h
    by_cases h1 : faultB x.key x.val x.gone = 0
    · rw [if_neg (by simp [h1])] at h
      split at h
      · cases h
      · rename_i hn
        obtain ⟨hr, hx⟩ := tabS_ris xs (some x) h
        have hx' := hx x rfl
        refine ⟨hr.cons hx', fun q hq e he => ?_⟩
        subst hq
        have hqx : Lt q.key x.key := by
          unfold notUp at hn
          rcases Lt.tri q.key x.key with h | h | h
          · exact h
          · simp [h] at hn
          · simp [h.less] at hn
        rcases List.mem_cons.1 he with rfl | he'
        · exact hqx
        · exact hqx.trans (hx' e he')
    · rw [if_pos h1] at h; exact absurd h h1
theorem tabF_ris {es : List Ent} (h : tabF es = 0) : Ris es := (tabS_ris es none (tabF_zero h).2.2).1
theorem tabF_fault {es : List Ent} (h : tabF es = 0) : ∀ e ∈ es, faultE e = 0 := fun e he => tabS_keys es none (tabF_zero h).2.2 e he
theorem faultsE_of : ∀ (es : List Ent), (∀ e ∈ es, faultE e = 0) → faultsE es = 0
  | [], _ => rfl
  | x :: xs, h => by
    unfold faultsE
    rw [if_pos (h x (List.mem_cons_self ..))]
    exact faultsE_of xs (fun e he => h e (List.mem_cons_of_mem _ he))
theorem encE_le {e : Ent} (h : faultE e = 0) : (encE e).length ≤ 27 := by
  obtain ⟨h1, h2⟩ := fault_zero h
  simp [encE]
  have e1 : e.key.data.size = e.key.size := rfl
  have e2 : e.val.data.size = e.val.size := rfl
  omega
theorem flat_le : ∀ (es : List Ent), (∀ e ∈ es, faultE e = 0) → (es.flatMap encE).length ≤ 27 * es.length
  | [], _ => by simp
  | x :: xs, h => by
    have h1 := encE_le (h x (List.mem_cons_self ..))
    have h2 := flat_le xs (fun e he => h e (List.mem_cons_of_mem _ he))
    rw [List.flatMap_cons, List.length_append, List.length_cons]
    omega
theorem bytesT_part {es : List Ent} (h : ∀ e ∈ es, faultE e = 0) (hl : es.length ≤ 2) : bytesT es = (encT es, 0) := by
  unfold bytesT
  rw [if_neg (by simp [faultsE_of es h]), if_neg]
  have := flat_le es h
  simp [encT] at *
  omega
structure TabAt (M : CM) (b : Nat) (es : List Ent) : Prop where
  ok : tabF es = 0
  lt : b < 24
  pg : M.pg b = Pg.whole (padD (headT es)) :: (partsE 2 es).map (fun p => Pg.whole (padD (txt (encT p))))
theorem part_mem {n : Nat} {es : List Ent} {k : Nat} {e : Ent} (h : e ∈ partE n es k) : e ∈ es := List.mem_of_mem_drop (List.mem_of_mem_take h)
theorem parts_len (es : List Ent) : (partsE 2 es).length = (es.length + 1) / 2 := by simp [partsE, partsN]
theorem parts_get (es : List Ent) (k : Nat) (hk : k < (es.length + 1) / 2) : (partsE 2 es)[k]? = some (partE 2 es k) := by
  have hk' : k < partsN 2 es.length := hk
  simp [partsE, hk']
theorem TabAt.page {M : CM} {b : Nat} {es : List Ent} (h : TabAt M b es) (hp : M.pend = none) (k : Nat) (hk : k < (es.length + 1) / 2) : pageE M (b : Int) ((k + 1 : Nat) : Int) = (partE 2 es k, 0) := by
  have h14 := (tabF_zero h.ok).2.1
  have hlt := h.lt
  have hr : readR M (b : Int) ((k + 1 : Nat) : Int) = (padD (txt (encT (partE 2 es k))), 0) := by
    unfold readR downB
    rw [hp]
    rw [if_neg (by simp), if_pos ⟨by omega, by omega, by omega, by omega⟩]
    simp only [Int.toNat_natCast, h.pg, List.getElem?_cons_succ, List.getElem?_map, parts_get es k hk, Option.map_some]
  unfold pageE
  rw [hr]
  simp only [if_true]
  have hf : ∀ e ∈ partE 2 es k, faultE e = 0 := fun e he => tabF_fault h.ok e (part_mem he)
  have hl : (partE 2 es k).length ≤ 2 := by rw [partE_len]; unfold partL; omega
  have hT : parseT (txtL (padD (txt (encT (partE 2 es k))))) = some (partE 2 es k) := by
    have := parse_encT (partE 2 es k) (64 - (txt (encT (partE 2 es k))).size) hf (by omega)
    unfold padD txtL
    unfold txt at this ⊢
    simpa using this
  unfold entsT
  rw [hT]
theorem TabAt.blank {M : CM} {b : Nat} {es : List Ent} (h : TabAt M b es) (hp : M.pend = none) (p : Nat) (hk : (es.length + 1) / 2 < p) (h8 : p < 8) : pageE M (b : Int) (p : Int) = ([], 5) := by
  have hlt := h.lt
  have hr : readR M (b : Int) (p : Int) = ([], 5) := by
    unfold readR downB
    rw [hp]
    rw [if_neg (by simp), if_pos ⟨by omega, by omega, by omega, by omega⟩]
    have : (M.pg b)[p]? = none := by
      rw [h.pg]; apply List.getElem?_eq_none; simp [parts_len]; omega
    simp only [Int.toNat_natCast, this]
  unfold pageE
  rw [hr]
  rfl
theorem headN_byteN (f : Nat) (d : List UInt8) (h : ∀ i, i < 8 → d.getD (1 + i) 0 = byteN f i) : ∀ k, k ≤ 8 → headN d k = f % 256 ^ k := by
  intro k
  induction k with
  | zero => intro _; simp [headN, Nat.mod_one]
  | succ k ih =>
    intro hk
    have := ih (by omega)
    unfold headN
    rw [this]
    have hb : bytA d (1 + k) = f / 256 ^ k % 256 := by
      unfold bytA
      rw [h k (by omega)]
      unfold byteN
      simp
    rw [hb, Nat.pow_succ, Nat.mod_mul]
    rw [Nat.mul_comm]
theorem TabAt.head {M : CM} {b : Nat} {es : List Ent} (h : TabAt M b es) (hp : M.pend = none) : headR M (b : Int) = (filterN (keysE es), 0) := by
  have hlt := h.lt
  have hr : readR M (b : Int) 0 = (padD (headT es), 0) := by
    unfold readR downB
    rw [hp]
    rw [if_neg (by simp), if_pos ⟨by omega, by omega, by omega, by omega⟩]
    simp only [Int.toNat_natCast, h.pg]
    rfl
  have hd : padD (headT es) = headB (filterN (keysE es)) 8 ++ List.replicate 55 0 := by
    unfold padD
    rw [headT_size]
    rfl
  unfold headR
  rw [hr]
  have h0 : bytA (padD (headT es)) 0 = 70 := by rw [hd]; rfl
  rw [if_neg (by simp), if_neg (by simp [h0])]
  have := headN_byteN (filterN (keysE es)) (padD (headT es)) (fun i hi => by
    rw [hd]
    simp only [headB, List.getD_eq_getElem?_getD]
    rw [Nat.add_comm 1 i, List.cons_append, List.getElem?_cons_succ, List.getElem?_append_left (by simp; omega)]
    simp [hi]) 8 (by omega)
  have hf := filterN_lt (keysE es)
  simp only
  rw [this, Nat.mod_eq_of_lt (by omega)]
theorem parts_flat (n : Nat) (es : List Ent) : ∀ k, ((List.range k).map (partE n es)).flatten = es.take (k * n)
  | 0 => by simp
  | k + 1 => by
    rw [List.range_succ, List.map_append, List.flatten_append, parts_flat n es k, Nat.succ_mul, List.take_add]
    simp [partE]
theorem TabAt.goA {M : CM} {b : Nat} {es : List Ent} (h : TabAt M b es) (hp : M.pend = none) : ∀ (r : Nat), r ≤ 7 → goA M (b : Int) (es.take ((7 - r) * 2)) r = (es, 0) := by
  have hz := tabF_zero h.ok
  intro r
  induction r with
  | zero =>
    intro _
    unfold Go.Proofs.YtkibgflbidkalaaGreatDoor.goA
    rw [List.take_of_length_le (by omega)]
    simp [h.ok]
  | succ r ih =>
    intro hr
    have ih' := ih (by omega)
    rw [goA_succ]
    rw [show (8 - (r + 1) : Nat) = 7 - r by omega]
    by_cases hk : 7 - (r + 1) < (es.length + 1) / 2
    · have hpg := h.page hp (7 - (r + 1)) hk
      rw [show 7 - (r + 1) + 1 = 7 - r by omega] at hpg
      rw [hpg]
      rw [if_neg (by simp), if_neg (by simp)]
      rw [← ih']
      congr 1
      rw [show (7 - r) * 2 = (7 - (r + 1)) * 2 + 2 by omega, List.take_add]
      rfl
    · have hpg := h.blank hp (7 - r) (by omega) (by omega)
      rw [hpg]
      rw [if_pos rfl, ← ih']
      congr 1
      rw [List.take_of_length_le (by omega), List.take_of_length_le (by omega)]
theorem TabAt.all {M : CM} {b : Nat} {es : List Ent} (h : TabAt M b es) (hp : M.pend = none) : allR M (b : Int) = (es, 0) := by
  unfold allR
  rw [h.head hp, if_neg (by simp)]
  exact h.goA hp 7 (by omega)
end Go.Proofs.YtkibgflbidkalaaGreatDoor

/- Tables: Get. -/
namespace Go.Proofs.YtkibgflbidkalaaGreatDoor
open Go.RowKit Go.WideShapes
attribute [local go_sem ↓] Go.wp_at_zero Go.wp_at_succ

def got3 (o : Option Ent) : Value := .tuple #[entV (o.getD noEnt), .bool o.isSome, .nilIface]
structure Mid (es : List Ent) (key : ByteArray) (lo hi : Nat) : Prop where
  one : 1 ≤ lo
  le : lo ≤ hi
  top : hi ≤ (es.length + 1) / 2 + 1
  low : ∀ i e, i < (lo - 1) * 2 → es[i]? = some e → Lt e.key key
  high : ∀ i e, (hi - 1) * 2 ≤ i → es[i]? = some e → Lt key e.key
theorem Mid.done {es : List Ent} {key : ByteArray} {lo : Nat} (h : Mid es key lo lo) : getE es key = none := by
  refine getE_none fun e he hk => ?_
  obtain ⟨i, hi⟩ := List.getElem?_of_mem he
  rcases Nat.lt_or_ge i ((lo - 1) * 2) with hl | hl
  · exact (h.low i e hl hi).ne hk
  · exact (h.high i e hl hi).ne hk.symm
theorem part_get {n : Nat} {es : List Ent} {k i : Nat} {e : Ent} (h : (partE n es k)[i]? = some e) : es[k * n + i]? = some e := by
  unfold partE at h
  rw [List.getElem?_take] at h
  split at h
  · rw [List.getElem?_drop] at h; exact h
  · cases h
theorem ris_lt {es : List Ent} (h : Ris es) {i j : Nat} {x y : Ent} (hx : es[i]? = some x) (hy : es[j]? = some y) (hij : i < j) : Lt x.key y.key := by
  obtain ⟨hi, rfl⟩ := List.getElem?_eq_some_iff.1 hx
  obtain ⟨hj, rfl⟩ := List.getElem?_eq_some_iff.1 hy
  exact List.pairwise_iff_getElem.1 h i j hi hj hij
theorem part_ris {n : Nat} {es : List Ent} (h : Ris es) (k : Nat) : Ris (partE n es k) := List.Pairwise.sublist ((List.take_sublist _ _).trans (List.drop_sublist _ _)) h
theorem ge_mono {l : List Ent} (h : Ris l) (key : ByteArray) : ∀ i j, i ≤ j → j < l.length → geK l key i = true → geK l key j = true := fun i j hij hj hg => by
  rcases Nat.lt_or_eq_of_le hij with hlt | rfl
  · have hx := List.getElem?_eq_getElem (show i < l.length by omega)
    have hy := List.getElem?_eq_getElem hj
    have := ris_lt h hx hy hlt
    unfold geK at hg ⊢
    rw [hx] at hg
    rw [hy]
    simp only [Bool.not_eq_true'] at hg ⊢
    apply Lt.nless
    intro hc
    have h2 : Lt l[i].key key := this.trans hc
    rw [h2.less] at hg
    cases hg
  · exact hg
theorem geK_no {l : List Ent} {key : ByteArray} {i : Nat} {e : Ent} (he : l[i]? = some e) (h : geK l key i = false) : Lt e.key key := by
  unfold geK at h; simp only [he, Bool.not_eq_false'] at h; exact h
theorem geK_yes {l : List Ent} {key : ByteArray} {i : Nat} {e : Ent} (he : l[i]? = some e) (h : geK l key i = true) (hne : e.key ≠ key) : Lt key e.key := by
  unfold geK at h; simp only [he, Bool.not_eq_true'] at h
  rcases Lt.tri e.key key with h1 | h1 | h1
  · rw [h1.less] at h; cases h
  · exact absurd h1 hne
  · exact h1
theorem Mid.goHigh {es : List Ent} {key : ByteArray} {lo hi p : Nat} (h : Mid es key lo hi) (hr : Ris es) (h1 : lo ≤ p) (h2 : p < hi) {e : Ent} (he : (partE 2 es (p - 1))[0]? = some e) (hk : Lt key e.key) : Mid es key lo p :=
  ⟨h.one, h1, by have := h.top; omega, h.low, fun i x hi' hx => by
    have he' := part_get he
    rcases Nat.lt_or_eq_of_le hi' with hlt | heq
    · exact hk.trans (ris_lt hr he' hx (by omega))
    · rw [← heq] at hx
      rw [Nat.add_zero, hx] at he'
      cases he'
      exact hk⟩
theorem Mid.goLow {es : List Ent} {key : ByteArray} {lo hi p : Nat} (h : Mid es key lo hi) (h1 : lo ≤ p) (h2 : p < hi) (hk : ∀ (i : Nat) (e : Ent), (partE 2 es (p - 1))[i]? = some e → Lt e.key key) (hr : Ris es) : Mid es key (p + 1) hi := by
  have hone := h.one
  refine ⟨by omega, by omega, h.top, fun i x hi' hx => ?_, h.high⟩
  rcases Nat.lt_or_ge i ((p - 1) * 2) with hlt | hge
  · have hlen : (p - 1) * 2 < es.length := by have := h.top; omega
    have hy := List.getElem?_eq_getElem hlen
    have hin : (partE 2 es (p - 1))[0]? = some es[(p - 1) * 2] := by
      unfold partE; rw [List.getElem?_take, if_pos (by omega), List.getElem?_drop, Nat.add_zero]; exact hy
    exact (ris_lt hr hx hy hlt).trans (hk 0 _ hin)
  · refine hk (i - (p - 1) * 2) x ?_
    unfold partE
    rw [List.getElem?_take, if_pos (by omega), List.getElem?_drop, show (p - 1) * 2 + (i - (p - 1) * 2) = i by omega]
    exact hx
theorem Mid.between {es : List Ent} (hr : Ris es) {key : ByteArray} {k r : Nat} {x y : Ent} (hx : (partE 2 es k)[r]? = some x) (hy : (partE 2 es k)[r + 1]? = some y) (h1 : Lt x.key key) (h2 : Lt key y.key) : getE es key = none := by
  have hx' := part_get hx
  have hy' := part_get hy
  refine getE_none fun e he hk => ?_
  obtain ⟨i, hi⟩ := List.getElem?_of_mem he
  rcases Nat.lt_or_ge (k * 2 + r) i with hlt | hle
  · rcases Nat.lt_or_eq_of_le (show k * 2 + (r + 1) ≤ i by omega) with h3 | h3
    · have := h2.trans (ris_lt hr hy' hi h3); exact this.ne hk.symm
    · rw [← h3, hy'] at hi; cases hi; exact h2.ne hk.symm
  · rcases Nat.lt_or_eq_of_le hle with h3 | h3
    · have := (ris_lt hr hi hx' h3).trans h1; exact this.ne hk
    · rw [h3, hx'] at hi; cases hi; exact h1.ne hk
theorem Mid.start (es : List Ent) (key : ByteArray) : Mid es key 1 ((es.length + 1) / 2 + 1) :=
  ⟨by omega, by omega, by omega, fun i e h => by omega, fun i e h he => by
    have := (List.getElem?_eq_some_iff.1 he).1; omega⟩
set_option maxRecDepth 20000 in
set_option maxHeartbeats 4000000 in
theorem tabGet_any (cb b : Nat) (es : List Ent) (key : ByteArray) (M : CM) (w : World) (h : ChipAt w cb M) (hp : M.pend = none) (ht : TabAt M b es) (hks : key.size ≤ 4611686018427387904) :
    Calls Tryz.prog 172 #[.pointer (some ⟨cb, 0, none⟩), .int .i64 (b : Int), .string key] w fun e w' => e = .returned (got3 (getE es key)) ∧ Ext w w' := by
  have hris := tabF_ris ht.ok
  have hz := tabF_zero ht.ok
  have hx0 : Ext w ((w.alloc (.cells #[.string key] 9)).alloc (.cells #[.string ⟨#[]⟩, .string ⟨#[]⟩, .bool false] 56)) := ((Ext.refl w).alloc _).alloc _
  have b5 : Blk ((w.alloc (.cells #[.string key] 9)).alloc (.cells #[.string ⟨#[]⟩, .string ⟨#[]⟩, .bool false] 56)) w.heap.size #[.string key] 9 := (Blk.new w _ _).alloc _
  have b6 : Blk ((w.alloc (.cells #[.string key] 9)).alloc (.cells #[.string ⟨#[]⟩, .string ⟨#[]⟩, .bool false] 56)) (w.heap.size + 1) #[.string ⟨#[]⟩, .string ⟨#[]⟩, .bool false] 56 := Blk.new' _ _ _ (by simp)
  have HH : Hid (∀ W, Ext w W → Calls Tryz.prog 165 #[.pointer (some ⟨cb, 0, none⟩), .int .i64 (b : Int)] W fun e w' => e = .returned (.tuple #[.int .u64 (filterN (keysE es) : Int), .nilIface]) ∧ Ext W w') := fun W hx => by
    have := readHead_any cb b M W (h.ext hx); rw [ht.head hp] at this; exact this
  have hf := filterN_lt (keysE es)
  have HM : Hid (∀ W, Calls Tryz.prog 181 #[.int .u64 (filterN (keysE es) : Int), .string key] W fun e w' => e = .returned (.bool (mayN (filterN (keysE es)) key.data.toList)) ∧ Ext W w') := fun W =>
    (may_any _ key W (by omega) hks).mono fun e w' ⟨he, q, hq⟩ => ⟨he, by rw [hq]; exact (Ext.refl W).drewN q⟩
  have hpl : (M.pg b).length = (es.length + 1) / 2 + 1 := by rw [ht.pg]; simp [parts_len]
  have HN : Hid (∀ W, Ext w W → Calls Tryz.prog 81 #[.pointer (some ⟨cb, 0, none⟩), .int .i64 (b : Int)] W fun e w' => e = .returned (.int .i64 (((es.length + 1) / 2 + 1 : Nat) : Int)) ∧ w' = W) := fun W hx => by
    have := next_any cb b M W ht.lt (h.ext hx); rw [hpl] at this; exact this
  have HMID := Mid.start es key
  by_cases hmay : mayN (filterN (keysE es)) key.data.toList = true
  · rw [hmay] at HM
    have HP : Hid (∀ W (p : Nat), Ext w W → 1 ≤ p → p < (es.length + 1) / 2 + 1 → Calls Tryz.prog 166 #[.pointer (some ⟨cb, 0, none⟩), .int .i64 (b : Int), .int .i64 (p : Int)] W fun e w' => ∃ ao c, e = .returned (.tuple #[.slice ao (partE 2 es (p - 1)).length c, .nilIface]) ∧ EntsAt w' ao (partE 2 es (p - 1)) ∧ Ext W w') := fun W p hx h1 h2 => by
      have := readEnts_any cb b (p : Int) M W (h.ext hx)
      have hpg := ht.page hp (p - 1) (by omega)
      rw [show p - 1 + 1 = p by omega] at hpg
      rw [hpg] at this
      exact this
    have HRIS : Hid (Ris es) := hris
    have hN : (es.length + 1) / 2 + 1 ≤ 8 := by omega
    have HLEN : Hid (0 < es.length ∧ es.length ≤ 14) := ⟨hz.1, hz.2.1⟩
    clear h hp ht hpl hris hz hmay
    generalize hNN : (es.length + 1) / 2 + 1 = N at *
    generalize filterN (keysE es) = f at *
    go_enter Tryz.func172, Tryz.ntmps172
    go_wp2_with (first
      | (go_at_call 165; refine (HH.out _ hx0).mono ?_; rintro e w1 ⟨rfl, hx1⟩; have k5 := (Blk.ext hx1 b5).cell 0)
      | (go_at_call 181; refine (HM.out _).mono ?_; rintro e w2 ⟨rfl, hx2⟩)
      | (go_at_call 81; refine (HN.out _ (hx0.trans (hx1.trans hx2))).mono ?_; rintro e w3 ⟨rfl, rfl⟩))
    have hxw : Ext w w3 := hx0.trans (hx1.trans hx2)
    have B5 := Blk.ext (hx1.trans hx2) b5
    have B6 := Blk.ext (hx1.trans hx2) b6
    clear k5 hx0 hx1 hx2 b5 b6
    go_loopw [11, 12] (fun a c wr => ∃ lo hi : Nat, a = .int .i64 lo ∧ c = .int .i64 hi ∧ Mid es key lo hi ∧ Ext w3 wr) (fun a c _ => (intOf c).toNat - (intOf a).toNat)
    case atStart => exact ⟨1, N, rfl, rfl, HMID, Ext.refl _⟩
    case round =>
      obtain ⟨lo, hi, rfl, rfl, hm, hxr⟩ := hrel
      have C5 := Blk.ext hxr B5
      have C6 := Blk.ext hxr B6
      have hxwr := hxw.trans hxr
      have c60 := C6.cell 0
      have c61 := C6.cell 1
      have c62 := C6.cell 2
      have f60 := C6.free 0
      have f61 := C6.free 1
      have f62 := C6.free 2
      have hs6 := C6.lt
      have HMD : Hid (Mid es key lo hi) := hm
      have hm1 := hm.one
      have hm2 := hm.le
      have hm3 := hm.top
      clear hm HMID
      by_cases hlt : lo < hi
      · obtain ⟨p, hp⟩ : ∃ p : Nat, p = (lo + hi) / 2 := ⟨_, rfl⟩
        have hp1 : lo ≤ p := by omega
        have hp2 : p < hi := by omega
        have hpI : ((lo : Int) + (hi : Int)) / 2 = (p : Int) := by omega
        have HPP := HP.out wr p hxwr (by omega) (by omega)
        have hpl : 0 < (partE 2 es (p - 1)).length ∧ (partE 2 es (p - 1)).length ≤ 2 := by
          have := HLEN.out
          rw [partE_len]; unfold partL; omega
        have HRP : Hid (Ris (partE 2 es (p - 1))) := part_ris HRIS.out _
        have HPC : Hid (Calls Tryz.prog 166 #[.pointer (some ⟨cb, 0, none⟩), .int .i64 (b : Int), .int .i64 (p : Int)] wr fun e w' => ∃ ao c, e = .returned (.tuple #[.slice ao (partE 2 es (p - 1)).length c, .nilIface]) ∧ EntsAt w' ao (partE 2 es (p - 1)) ∧ Ext wr w') := HPP
        clear HPP hp
        have HES : Hid (partE 2 es (p - 1) = partE 2 es (p - 1)) := rfl
        obtain ⟨pl, hpl'⟩ : ∃ pl, partE 2 es (p - 1) = pl := ⟨_, rfl⟩
        have HPL : Hid (partE 2 es (p - 1) = pl) := hpl'
        rw [hpl'] at HPC hpl HRP
        clear hpl' HES
        go_wp2_with (first
          | (go_at_call 166; refine HPC.out.mono ?_; rintro e w4 ⟨ao, cp, rfl, hE4, hx4⟩)
          | (go_at_call 139; refine (search_any w4.heap.size w.heap.size pl key _ ⟨⟨ao, cp, Blk.new _ _ _, hE4.ext ((Ext.refl _).alloc _)⟩, (C5.ext hx4).alloc _⟩ ?_ ?_).mono ?_; omega; exact ge_mono HRP.out key; rintro e w5 ⟨⟨r, rfl, hF⟩, hx5⟩))
        have hx45 : Ext w4 w5 := ((Ext.refl w4).alloc _).trans hx5
        have D14 : Blk w5 w4.heap.size #[.slice ao pl.length cp] 31 := (Blk.new _ _ _).ext hx5
        have d14 := D14.cell 0
        have d5 := ((C5.ext hx4).ext hx45).cell 0
        have D6 := (C6.ext hx4).ext hx45
        have c60 := D6.cell 0
        have c61 := D6.cell 1
        have c62 := D6.cell 2
        have f60 := D6.free 0
        have f61 := D6.free 1
        have f62 := D6.free 2
        have hE5 := hE4.ext hx45
        have hxw5 : Ext w w5 := hxwr.trans (hx4.trans hx45)
        have hx35 : Ext w3 w5 := hxr.trans (hx4.trans hx45)
        have HF : Hid (From (geK pl key) pl.length r) := hF
        have hFle := hF.le
        clear hF hx5 hE4 hxr
        by_cases hr : r < pl.length
        · obtain ⟨eb, eo, ek, ev, eg, rfl, he, g1, g2, g3⟩ := hE5.get hr
          have HE : Hid (pl[r]? = some (⟨ek, ev, eg⟩ : Ent)) := he
          clear he hE5
          by_cases hk : ek = key
          · subst hk
            have HR : Hid (getE es ek = some ⟨ek, ev, eg⟩) := by
              have h1 := part_get (n := 2) (es := es) (k := p - 1) (i := r) (e := ⟨ek, ev, eg⟩) (by rw [HPL.out]; exact HE.out)
              exact getE_of_mem HRIS.out (e := ⟨ek, ev, eg⟩) (List.mem_of_getElem? h1)
            go_quiet (fail)
            go_wp2_with fail
            have E6 := (((D6.drewN nq).set 0 (.string ek)).set 1 (.string ev)).set 2 (.bool eg)
            have e0 := E6.cell 0
            have e1 := E6.cell 1
            have e2 := E6.cell 2
            refine bodyPost_ret (v := .tuple #[.agg #[.string ek, .string ev, .bool eg], .bool true, .nilIface]) (by simp [results, go_sem, e0, e1, e2]) rfl ⟨by rw [HR.out]; rfl, (((hxw5.drewN nq).set (p := ⟨w.heap.size + 1, 0, none⟩) (by show w.heap.size ≤ w.heap.size + 1; omega) _).set (p := ⟨w.heap.size + 1, 1, none⟩) (by show w.heap.size ≤ w.heap.size + 1; omega) _).set (p := ⟨w.heap.size + 1, 2, none⟩) (by show w.heap.size ≤ w.heap.size + 1; omega) _⟩
          · have hbe : (ek.toList == key.toList) = false := beq_ne hk
            have HK : Hid (Lt key ek) := geK_yes HE.out (HF.out.hi r (Nat.le_refl _) hr) hk
            clear hk
            by_cases h0 : r = 0
            · have h0' : ((r : Int) == 0) = true := by simp; omega
              have HE0 : Hid (pl[0]? = some (⟨ek, ev, eg⟩ : Ent)) := by rw [← h0]; exact HE.out
              clear h0
              go_quiet (fail)
              go_wp2_with fail
              go_roundw
              case rel => exact ⟨lo, p, rfl, rfl, HMD.out.goHigh HRIS.out hp1 hp2 (e := ⟨ek, ev, eg⟩) (by rw [HPL.out]; exact HE0.out) HK.out, hx35.drewN _⟩
              case measure => simp [intOf]; omega
            · have h0' : ((r : Int) == 0) = false := by simp; omega
              have h1' : ((r : Int) == (pl.length : Int)) = false := by simp; omega
              have HR : Hid (getE es key = none) := by
                obtain ⟨q, rfl⟩ : ∃ q, r = q + 1 := ⟨r - 1, by omega⟩
                have hx := List.getElem?_eq_getElem (show q < pl.length by omega)
                refine Mid.between HRIS.out (k := p - 1) (r := q) (x := pl[q]) (y := ⟨ek, ev, eg⟩) (by rw [HPL.out]; exact hx) (by rw [HPL.out]; exact HE.out) ?_ HK.out
                exact geK_no hx (HF.out.lo q (by omega))
              go_quiet (fail)
              go_wp2_with fail
              rw [HR.out]
              have E6 := (((D6.drewN nq).set 0 (.string ⟨#[]⟩)).set 1 (.string ⟨#[]⟩)).set 2 (.bool false)
              have e0 := E6.cell 0
              have e1 := E6.cell 1
              have e2 := E6.cell 2
              refine bodyPost_ret (v := .tuple #[.agg #[.string ⟨#[]⟩, .string ⟨#[]⟩, .bool false], .bool false, .nilIface]) (by simp [results, go_sem, e0, e1, e2]) rfl ⟨rfl, (((hxw5.drewN nq).set (p := ⟨w.heap.size + 1, 0, none⟩) (by show w.heap.size ≤ w.heap.size + 1; omega) _).set (p := ⟨w.heap.size + 1, 1, none⟩) (by show w.heap.size ≤ w.heap.size + 1; omega) _).set (p := ⟨w.heap.size + 1, 2, none⟩) (by show w.heap.size ≤ w.heap.size + 1; omega) _⟩
        · have hrl : r = pl.length := by omega
          have HLO : Hid (Mid es key (p + 1) hi) := HMD.out.goLow hp1 hp2 (fun i x hx => by
            rw [HPL.out] at hx
            have hi' := (List.getElem?_eq_some_iff.1 hx).1
            exact geK_no hx (HF.out.lo i (by omega))) HRIS.out
          subst hrl
          have h0' : ((pl.length : Int) == 0) = false := beq_eq_false_iff_ne.2 (by omega)
          clear hE5
          go_quiet (fail)
          go_wp2_with fail
          go_roundw
          case rel => exact ⟨p + 1, hi, by go_num, rfl, HLO.out, hx35.drewN _⟩
          case measure => simp [intOf]; omega
      · have hle : lo = hi := by omega
        subst hle
        have HR : Hid (getE es key = none) := HMD.out.done
        go_wp2_with fail
        rw [HR.out]
        have E6 := (((C6).set 0 (.string ⟨#[]⟩)).set 1 (.string ⟨#[]⟩)).set 2 (.bool false)
        have e0 := E6.cell 0
        have e1 := E6.cell 1
        have e2 := E6.cell 2
        refine bodyPost_ret (v := .tuple #[.agg #[.string ⟨#[]⟩, .string ⟨#[]⟩, .bool false], .bool false, .nilIface]) (by simp [results, go_sem, e0, e1, e2]) rfl ⟨rfl, (((hxwr).set (p := ⟨w.heap.size + 1, 0, none⟩) (by show w.heap.size ≤ w.heap.size + 1; omega) _).set (p := ⟨w.heap.size + 1, 1, none⟩) (by show w.heap.size ≤ w.heap.size + 1; omega) _).set (p := ⟨w.heap.size + 1, 2, none⟩) (by show w.heap.size ≤ w.heap.size + 1; omega) _⟩
  · have hmay' : mayN (filterN (keysE es)) key.data.toList = false := by simpa using hmay
    rw [hmay'] at HM
    have HR : Hid (getE es key = none) := getE_none fun e he hk => by
      have := mayN_mem (keysE es) key (by rw [← hk]; exact List.mem_map_of_mem he)
      rw [this] at hmay'
      cases hmay'
    rw [HR.out]
    clear h hp ht hpl hris hz hmay hmay' HMID HN
    generalize filterN (keysE es) = f at *
    go_enter Tryz.func172, Tryz.ntmps172
    go_wp2_with (first
      | (go_at_call 165; refine (HH.out _ hx0).mono ?_; rintro e w1 ⟨rfl, hx1⟩; have k5 := (Blk.ext hx1 b5).cell 0)
      | (go_at_call 181; refine (HM.out _).mono ?_; rintro e w2 ⟨rfl, hx2⟩; have C6 := Blk.ext (hx1.trans hx2) b6; have c60 := C6.cell 0; have c61 := C6.cell 1; have c62 := C6.cell 2; have f60 := C6.free 0; have f61 := C6.free 1; have f62 := C6.free 2))
    have E6 := (((C6).set 0 (.string ⟨#[]⟩)).set 1 (.string ⟨#[]⟩)).set 2 (.bool false)
    have e0 := E6.cell 0
    have e1 := E6.cell 1
    have e2 := E6.cell 2
    refine bodyPost_ret (v := .tuple #[.agg #[.string ⟨#[]⟩, .string ⟨#[]⟩, .bool false], .bool false, .nilIface]) (by simp [results, go_sem, e0, e1, e2]) rfl ⟨rfl, (((hx0.trans (hx1.trans hx2)).set (p := ⟨w.heap.size + 1, 0, none⟩) (by show w.heap.size ≤ w.heap.size + 1; omega) _).set (p := ⟨w.heap.size + 1, 1, none⟩) (by show w.heap.size ≤ w.heap.size + 1; omega) _).set (p := ⟨w.heap.size + 1, 2, none⟩) (by show w.heap.size ≤ w.heap.size + 1; omega) _⟩
end Go.Proofs.YtkibgflbidkalaaGreatDoor

/- Tables: what Write leaves on a chip that nothing hinders. -/
namespace Go.Proofs.YtkibgflbidkalaaGreatDoor
open Go.RowKit Go.WideShapes

theorem encT_le {p : List Ent} (h : ∀ e ∈ p, faultE e = 0) (hl : p.length ≤ 2) : (encT p).length ≤ 64 := by
  have := flat_le p h
  simp [encT] at *
  omega
end Go.Proofs.YtkibgflbidkalaaGreatDoor

/- A store in plain words: which blocks are free, how one is claimed, how tables are laid. -/
namespace Go.Proofs.YtkibgflbidkalaaGreatDoor
open Go.RowKit

def freeStep (M : CM) (L : List Int) (o : Option Nat) (b : Nat) : Option Nat :=
  if (b : Int) ∈ L ∨ M.bd b = true then o else match o with
    | none => some b
    | some l => if M.wr b < M.wr l then some b else some l
def freeTo (M : CM) (L : List Int) : Nat → Option Nat
  | 0 => none
  | k + 1 => freeStep M L (freeTo M L k) (k + 2)
def freeS (M : CM) (L : List Int) : Option Nat := freeTo M L 22
structure FreeOk (M : CM) (L : List Int) (k b : Nat) : Prop where
  ge : 2 ≤ b
  lt : b < k + 2
  un : (b : Int) ∉ L
  bd : M.bd b = false
  least : ∀ c : Nat, 2 ≤ c → c < k + 2 → (c : Int) ∉ L → M.bd c = false → M.wr b ≤ M.wr c
theorem freeTo_is (M : CM) (L : List Int) : ∀ k, (∀ b, freeTo M L k = some b → FreeOk M L k b) ∧ (freeTo M L k = none → ∀ c : Nat, 2 ≤ c → c < k + 2 → (c : Int) ∈ L ∨ M.bd c = true)
  | 0 => ⟨fun b h => (by cases h), fun _ c h1 h2 => (by omega)⟩
  | k + 1 => by
    obtain ⟨ih1, ih2⟩ := freeTo_is M L k
    have hstep : freeTo M L (k + 1) = freeStep M L (freeTo M L k) (k + 2) := rfl
    by_cases hu : ((k + 2 : Nat) : Int) ∈ L ∨ M.bd (k + 2) = true
    · have e : freeTo M L (k + 1) = freeTo M L k := by rw [hstep]; unfold freeStep; rw [if_pos hu]
      rw [e]
      have away : ∀ c : Nat, c < k + 1 + 2 → (c : Int) ∉ L → M.bd c = false → c < k + 2 := fun c h1 h2 h3 => by
        rcases Nat.lt_or_ge c (k + 2) with h | h
        · exact h
        · obtain rfl : c = k + 2 := by omega
          rcases hu with hu | hu
          · exact absurd hu h2
          · rw [h3] at hu; cases hu
      refine ⟨fun b hb => ?_, fun hn c h1 h2 => ?_⟩
      · have := ih1 b hb
        exact ⟨this.ge, by have := this.lt; omega, this.un, this.bd, fun c h1 h2 h3 h4 => this.least c h1 (away c h2 h3 h4) h3 h4⟩
      · rcases Nat.lt_or_ge c (k + 2) with h | h
        · exact ih2 hn c h1 h
        · obtain rfl : c = k + 2 := by omega
          exact hu
    · have hu1 : ((k + 2 : Nat) : Int) ∉ L := fun h => hu (.inl h)
      have hu2 : M.bd (k + 2) = false := by
        cases h : M.bd (k + 2) with
        | true => exact absurd (.inr h) hu
        | false => rfl
      cases ho : freeTo M L k with
      | none =>
        have e : freeTo M L (k + 1) = some (k + 2) := by rw [hstep, ho]; unfold freeStep; rw [if_neg hu]
        rw [e]
        refine ⟨fun b hb => ?_, fun hn => by cases hn⟩
        simp only [Option.some.injEq] at hb
        subst hb
        refine ⟨by omega, by omega, hu1, hu2, fun c h1 h2 h3 h4 => ?_⟩
        rcases Nat.lt_or_ge c (k + 2) with h | h
        · rcases ih2 ho c h1 h with h | h
          · exact absurd h h3
          · rw [h4] at h; cases h
        · obtain rfl : c = k + 2 := by omega
          exact Nat.le_refl _
      | some l =>
        have hl := ih1 l ho
        by_cases hw : M.wr (k + 2) < M.wr l
        · have e : freeTo M L (k + 1) = some (k + 2) := by
            rw [hstep, ho]; unfold freeStep; rw [if_neg hu]; simp only; rw [if_pos hw]
          rw [e]
          refine ⟨fun b hb => ?_, fun hn => by cases hn⟩
          simp only [Option.some.injEq] at hb
          subst hb
          refine ⟨by omega, by omega, hu1, hu2, fun c h1 h2 h3 h4 => ?_⟩
          rcases Nat.lt_or_ge c (k + 2) with h | h
          · have := hl.least c h1 h h3 h4; omega
          · obtain rfl : c = k + 2 := by omega
            exact Nat.le_refl _
        · have e : freeTo M L (k + 1) = some l := by
            rw [hstep, ho]; unfold freeStep; rw [if_neg hu]; simp only; rw [if_neg hw]
          rw [e]
          refine ⟨fun b hb => ?_, fun hn => by cases hn⟩
          simp only [Option.some.injEq] at hb
          subst hb
          refine ⟨hl.ge, by have := hl.lt; omega, hl.un, hl.bd, fun c h1 h2 h3 h4 => ?_⟩
          rcases Nat.lt_or_ge c (k + 2) with h | h
          · exact hl.least c h1 h h3 h4
          · obtain rfl : c = k + 2 := by omega
            omega
theorem freeS_some {M : CM} {L : List Int} {b : Nat} (h : freeS M L = some b) : FreeOk M L 22 b := (freeTo_is M L 22).1 b h
theorem freeS_none {M : CM} {L : List Int} (h : freeS M L = none) : ∀ c : Nat, 2 ≤ c → c < 24 → (c : Int) ∈ L ∨ M.bd c = true := (freeTo_is M L 22).2 h

def pendB : Pend → Nat
  | .write b _ => b
  | .erase b => b
structure Stp (b : Nat) (M M' : CM) : Prop where
  pg : ∀ c, ¬ c = b → M'.pg c = M.pg c
  wk : M'.wk = M.wk
  bd : M'.bd = M.bd
  wr : ∀ c, M'.wr c ≤ M.wr c + (if c = b then 1 else 0)
  left : M.left < 0 → M'.left = M.left
  leq : ∀ n, M.left ≤ n → 0 ≤ n → M'.left ≤ n
structure RdOk (rd : CM → Nat → CM × Int) (Post : CM → Nat → Prop) : Prop where
  post : ∀ M M' b, M'.pg b = M.pg b → Post M b → Post M' b
  weak : ∀ M b, M.pend = none → b < 24 → M.bd b = false → M.wk b = true → rd M b = ({ M with bd := upd M.bd b true }, 7)
  sound : ∀ M b, M.pend = none → b < 24 → M.bd b = false → M.wk b = false → Stp b M (rd M b).1 ∧
    (((rd M b).2 = 0 ∧ (rd M b).1.pend = none ∧ Post (rd M b).1 b) ∨ ((rd M b).2 = 9 ∧ ¬ M.left < 0 ∧ ∃ p, (rd M b).1.pend = some p ∧ pendB p = b))
inductive Claimed (rd : CM → Nat → CM × Int) : CM → List Int → CM → List Int → Nat → Int → Prop
  | full {M : CM} {L : List Int} (h : freeS M L = none) : Claimed rd M L M L 0 8
  | got {M : CM} {L : List Int} {b : Nat} (h : freeS M L = some b) (h0 : (rd M b).2 = 0) : Claimed rd M L (rd M b).1 (L ++ [(b : Int)]) b 0
  | err {M : CM} {L : List Int} {b : Nat} (h : freeS M L = some b) (h0 : ¬ (rd M b).2 = 0) (h7 : ¬ (rd M b).2 = 7) : Claimed rd M L (rd M b).1 (L ++ [(b : Int)]) 0 (rd M b).2
  | next {M M' : CM} {L L' : List Int} {b c : Nat} {e : Int} (h : freeS M L = some b) (h7 : (rd M b).2 = 7) (hr : Claimed rd (rd M b).1 (L ++ [(b : Int)]) M' L' c e) : Claimed rd M L M' L' c e
structure Adv (L : List Int) (M : CM) (L' : List Int) (M' : CM) : Prop where
  mono : ∀ x ∈ L, x ∈ L'
  pg : ∀ b : Nat, (b : Int) ∈ L → M'.pg b = M.pg b
  low : ∀ b : Nat, b < 2 → M'.pg b = M.pg b
  wr : ∀ b : Nat, M'.wr b ≤ M.wr b + 1 ∧ ((b : Int) ∈ L ∨ (b : Int) ∉ L' → M'.wr b ≤ M.wr b)
  wk : M'.wk = M.wk
  bd : ∀ b, M.bd b = true → M'.bd b = true
  bw : ∀ b, M'.bd b = true → M.bd b = true ∨ M.wk b = true
  left : M.left < 0 → M'.left = M.left
  leq : ∀ n, M.left ≤ n → 0 ≤ n → M'.left ≤ n
theorem Adv.refl (L : List Int) (M : CM) : Adv L M L M := ⟨fun _ h => h, fun _ _ => rfl, fun _ _ => rfl, fun _ => ⟨by omega, fun _ => Nat.le_refl _⟩, rfl, fun _ h => h, fun _ h => .inl h, fun _ => rfl, fun _ h _ => h⟩
theorem Adv.trans {L L' L'' : List Int} {M M' M'' : CM} (h : Adv L M L' M') (k : Adv L' M' L'' M'') : Adv L M L'' M'' := by
  refine ⟨fun x hx => k.mono x (h.mono x hx), fun b hb => (k.pg b (h.mono _ hb)).trans (h.pg b hb), fun b hb => (k.low b hb).trans (h.low b hb), fun b => ⟨?_, fun hb => ?_⟩, k.wk.trans h.wk, fun b hb => k.bd b (h.bd b hb), fun b hb => ?_, fun hl => ?_, fun n h1 h2 => k.leq n (h.leq n h1 h2) h2⟩
  · by_cases hb : (b : Int) ∈ L'
    · have h1 := (k.wr b).2 (.inl hb); have h2 := (h.wr b).1; omega
    · have h1 := (k.wr b).1; have h2 := (h.wr b).2 (.inr hb); omega
  · rcases hb with hb | hb
    · exact Nat.le_trans ((k.wr b).2 (.inl (h.mono _ hb))) ((h.wr b).2 (.inl hb))
    · exact Nat.le_trans ((k.wr b).2 (.inr hb)) ((h.wr b).2 (.inr fun hh => hb (k.mono _ hh)))
  · rcases k.bw b hb with h' | h'
    · exact h.bw b h'
    · rw [h.wk] at h'; exact .inr h'
  · rw [k.left (by rw [h.left hl]; exact hl), h.left hl]
theorem Adv.step {L : List Int} {M M' : CM} {b : Nat} (h : Stp b M M') (h2 : 2 ≤ b) (hu : (b : Int) ∉ L) : Adv L M (L ++ [(b : Int)]) M' := by
  have hne : ∀ c : Nat, (c : Int) ∈ L → ¬ c = b := fun c hc e => hu (e ▸ hc)
  refine ⟨fun x hx => List.mem_append_left _ hx, fun c hc => h.pg c (hne c hc), fun c hc => h.pg c (by omega), fun c => ⟨?_, fun hc => ?_⟩, h.wk, fun c hc => by rw [h.bd]; exact hc, fun c hc => .inl (by rw [h.bd] at hc; exact hc), h.left, h.leq⟩
  · have := h.wr c; split at this <;> omega
  · have hcb : ¬ c = b := by
      rcases hc with hc | hc
      · exact hne c hc
      · intro e; subst e; exact hc (by simp)
    have := h.wr c; rw [if_neg hcb] at this; exact this
theorem Adv.weak {L : List Int} {M : CM} {b : Nat} (hw : M.wk b = true) : Adv L M (L ++ [(b : Int)]) { M with bd := upd M.bd b true } := by
  refine ⟨fun x hx => List.mem_append_left _ hx, fun _ _ => rfl, fun _ _ => rfl, fun c => ⟨Nat.le_succ _, fun _ => Nat.le_refl _⟩, rfl, fun c hc => ?_, fun c hc => ?_, fun _ => rfl, fun _ h _ => h⟩
  · show upd M.bd b true c = true
    unfold upd; split
    · rfl
    · exact hc
  · by_cases e : c = b
    · subst e; exact .inr hw
    · have : upd M.bd b true c = true := hc
      rw [upd_other _ _ _ e] at this; exact .inl this
def goodN (wk : Nat → Bool) (L : List Int) : Nat := (List.range' 2 22).countP (fun b : Nat => !wk b && !decide ((b : Int) ∈ L))
def wkN (wk : Nat → Bool) : Nat := (List.range' 2 22).countP wk
theorem range_nodup : (List.range' 2 22).Nodup := by decide
theorem count_in (X : List Nat) (hX : X.Nodup) : ∀ L : List Int, X.countP (fun b : Nat => decide ((b : Int) ∈ L)) ≤ L.length
  | [] => by simp
  | x :: L => by
    have ih := count_in X hX L
    have h1 : X.countP (fun b : Nat => decide ((b : Int) = x)) ≤ 1 := by
      clear ih
      induction X with
      | nil => simp
      | cons y Y ihY =>
        obtain ⟨hy, hY⟩ := List.nodup_cons.1 hX
        rw [List.countP_cons]
        by_cases e : (y : Int) = x
        · have : Y.countP (fun b : Nat => decide ((b : Int) = x)) = 0 := by
            rw [List.countP_eq_zero]
            intro z hz hzx
            simp at hzx
            have : z = y := by omega
            subst this; exact hy hz
          rw [this, if_pos (by simpa using e)]; omega
        · rw [if_neg (by simpa using e)]
          exact ihY hY
    have h2 : ∀ Y : List Nat, Y.countP (fun b : Nat => decide ((b : Int) ∈ x :: L)) ≤ Y.countP (fun b : Nat => decide ((b : Int) = x)) + Y.countP (fun b : Nat => decide ((b : Int) ∈ L)) := by
      intro Y
      induction Y with
      | nil => simp
      | cons y Y ihY =>
        simp only [List.countP_cons]
        by_cases e1 : (y : Int) = x <;> by_cases e2 : (y : Int) ∈ L <;> simp [e1, e2] at ihY ⊢ <;> omega
    have := h2 X
    simp only [List.length_cons]
    omega
theorem good_ge (wk : Nat → Bool) (L : List Int) : 22 ≤ goodN wk L + L.length + wkN wk := by
  have h1 := count_in (List.range' 2 22) range_nodup L
  have h2 : ∀ X : List Nat, X.length ≤ X.countP (fun b : Nat => !wk b && !decide ((b : Int) ∈ L)) + X.countP (fun b : Nat => decide ((b : Int) ∈ L)) + X.countP wk := by
    intro X
    induction X with
    | nil => simp
    | cons y Y ih =>
      simp only [List.countP_cons, List.length_cons]
      by_cases e2 : (y : Int) ∈ L <;> cases e1 : wk y <;> simp [e2] at ih ⊢ <;> omega
  have := h2 (List.range' 2 22)
  simp only [List.length_range'] at this
  unfold goodN wkN
  omega
theorem good_snoc (wk : Nat → Bool) (L : List Int) (b : Nat) : goodN wk L ≤ goodN wk (L ++ [(b : Int)]) + 1 := by
  have key : ∀ X : List Nat, X.Nodup → X.countP (fun c : Nat => !wk c && !decide ((c : Int) ∈ L)) ≤ X.countP (fun c : Nat => !wk c && !decide ((c : Int) ∈ L ++ [(b : Int)])) + X.countP (fun c : Nat => decide ((c : Int) ∈ [(b : Int)])) := by
    intro X hX
    induction X with
    | nil => simp
    | cons y Y ih =>
      have := ih (List.nodup_cons.1 hX).2
      simp only [List.countP_cons]
      by_cases e1 : wk y = true <;> by_cases e2 : (y : Int) ∈ L <;> by_cases e3 : (y : Int) = (b : Int) <;> simp [e1, e2, e3] at this ⊢ <;> (try split) <;> omega
  have h1 := key _ range_nodup
  have h2 := count_in (List.range' 2 22) range_nodup [(b : Int)]
  unfold goodN
  simp only [List.length_singleton] at h2
  omega
theorem good_weak {wk : Nat → Bool} (L : List Int) {b : Nat} (h : wk b = true) : goodN wk (L ++ [(b : Int)]) = goodN wk L := by
  unfold goodN
  apply List.countP_congr
  intro c _
  by_cases e : c = b
  · subst e; simp [h]
  · have : ¬ (c : Int) = (b : Int) := by omega
    simp [this]
theorem good_none {M : CM} {L : List Int} (hbw : ∀ b, M.bd b = true → M.wk b = true) (h : freeS M L = none) : goodN M.wk L = 0 := by
  unfold goodN
  rw [List.countP_eq_zero]
  intro c hc
  rw [List.mem_range'_1] at hc
  rcases freeS_none h c hc.1 (by omega) with h' | h'
  · simp [h']
  · simp [hbw c h']
structure ClaimOk (Post : CM → Nat → Prop) (M : CM) (L : List Int) (M' : CM) (L' : List Int) (b : Nat) (e : Int) : Prop where
  adv : Adv L M L' M'
  end_ : (e = 0 ∧ 2 ≤ b ∧ b < 24 ∧ (b : Int) ∉ L ∧ (b : Int) ∈ L' ∧ M'.pend = none ∧ Post M' b ∧ M'.wk b = false ∧ M'.bd b = false ∧ goodN M.wk L ≤ goodN M.wk L' + 1) ∨
    (e = 8 ∧ goodN M.wk L = 0 ∧ M'.pend = none) ∨
    (e = 9 ∧ ¬ M.left < 0 ∧ ∃ p, M'.pend = some p ∧ 2 ≤ pendB p ∧ pendB p < 24 ∧ ((pendB p : Nat) : Int) ∉ L)
theorem Claimed.ok {rd : CM → Nat → CM × Int} {Post : CM → Nat → Prop} (hrd : RdOk rd Post) {M M' : CM} {L L' : List Int} {b : Nat} {e : Int} (h : Claimed rd M L M' L' b e) :
    M.pend = none → (∀ b, M.bd b = true → M.wk b = true) → ClaimOk Post M L M' L' b e := by
  induction h with
  | full h => intro hp hb; exact ⟨Adv.refl _ _, .inr (.inl ⟨rfl, good_none hb h, hp⟩)⟩
  | @got M L b h h0 =>
    intro hp hb
    have hf := freeS_some h
    cases hw : M.wk b with
    | true => rw [hrd.weak M b hp hf.lt hf.bd hw] at h0; cases h0
    | false =>
      obtain ⟨hs, hh⟩ := hrd.sound M b hp hf.lt hf.bd hw
      rcases hh with ⟨_, h1, h2⟩ | ⟨h9, _⟩
      · exact ⟨Adv.step hs hf.ge hf.un, .inl ⟨rfl, hf.ge, hf.lt, hf.un, by simp, h1, h2, by rw [hs.wk]; exact hw, by rw [hs.bd]; exact hf.bd, good_snoc _ _ _⟩⟩
      · rw [h9] at h0; cases h0
  | @err M L b h h0 h7 =>
    intro hp hb
    have hf := freeS_some h
    cases hw : M.wk b with
    | true => rw [hrd.weak M b hp hf.lt hf.bd hw] at h7; exact absurd rfl h7
    | false =>
      obtain ⟨hs, hh⟩ := hrd.sound M b hp hf.lt hf.bd hw
      rcases hh with ⟨h1, _⟩ | ⟨h9, hl, p, h1, h2⟩
      · exact absurd h1 h0
      · exact ⟨Adv.step hs hf.ge hf.un, .inr (.inr ⟨h9, hl, p, h1, by rw [h2]; exact hf.ge, by rw [h2]; exact hf.lt, by rw [h2]; exact hf.un⟩)⟩
  | @next M M' L L' b c e h h7 hr ih =>
    intro hp hb
    have hf := freeS_some h
    cases hw : M.wk b with
    | false =>
      obtain ⟨hs, hh⟩ := hrd.sound M b hp hf.lt hf.bd hw
      rcases hh with ⟨h1, _⟩ | ⟨h9, _⟩
      · rw [h1] at h7; cases h7
      · rw [h9] at h7; cases h7
    | true =>
      rw [hrd.weak M b hp hf.lt hf.bd hw] at ih
      have ha : Adv L M (L ++ [(b : Int)]) { M with bd := upd M.bd b true } := Adv.weak hw
      have hg : goodN M.wk (L ++ [(b : Int)]) = goodN M.wk L := good_weak L hw
      have := ih hp (fun c hc => by
        rcases ha.bw c hc with h | h
        · exact hb c h
        · exact h)
      refine ⟨ha.trans this.adv, ?_⟩
      rcases this.end_ with ⟨h0, h1, h2, h3, h4, h5, h6, h7, h8, h9⟩ | ⟨h0, h1, h2⟩ | ⟨h0, h1, p, h2, h3, h4, h5⟩
      · refine .inl ⟨h0, h1, h2, fun hh => h3 (List.mem_append_left _ hh), h4, h5, h6, h7, h8, ?_⟩
        rw [← hg]; exact h9
      · exact .inr (.inl ⟨h0, by rw [← hg]; exact h1, h2⟩)
      · exact .inr (.inr ⟨h0, h1, p, h2, h3, h4, fun hh => h5 (List.mem_append_left _ hh)⟩)
end Go.Proofs.YtkibgflbidkalaaGreatDoor

/- A store in plain words: a block is erased, a table is written, with falls; tables are laid. -/
namespace Go.Proofs.YtkibgflbidkalaaGreatDoor
open Go.RowKit

structure LayB (b : Nat) (M M' : CM) : Prop where
  pg : ∀ c, ¬ c = b → M'.pg c = M.pg c
  wk : M'.wk = M.wk
  bd : M'.bd = M.bd
  wr : M'.wr = M.wr
  left : M.left < 0 → M'.left = M.left
  leq : ∀ n, M.left ≤ n → 0 ≤ n → M'.left ≤ n
theorem LayB.refl (b : Nat) (M : CM) : LayB b M M := ⟨fun _ _ => rfl, rfl, rfl, rfl, fun _ => rfl, fun _ h _ => h⟩
theorem LayB.trans {b : Nat} {M M' M'' : CM} (h : LayB b M M') (k : LayB b M' M'') : LayB b M M'' :=
  ⟨fun c hc => (k.pg c hc).trans (h.pg c hc), k.wk.trans h.wk, k.bd.trans h.bd, k.wr.trans h.wr, fun hl => by rw [k.left (by rw [h.left hl]; exact hl), h.left hl], fun n h1 h2 => k.leq n (h.leq n h1 h2) h2⟩
theorem Stp.lay {b : Nat} {M M' M'' : CM} (h : Stp b M M') (k : LayB b M' M'') : Stp b M M'' :=
  ⟨fun c hc => (k.pg c hc).trans (h.pg c hc), k.wk.trans h.wk, k.bd.trans h.bd, fun c => by rw [k.wr]; exact h.wr c, fun hl => by rw [k.left (by rw [h.left hl]; exact hl), h.left hl], fun n h1 h2 => k.leq n (h.leq n h1 h2) h2⟩
theorem tick_leq (M : CM) : ∀ n, M.left ≤ n → 0 ≤ n → (tickM M).left ≤ n := fun n h1 h2 => by
  rcases tick_left M with h | h <;> omega
theorem tick_keep {M : CM} (h : M.left < 0) : (tickM M).left = M.left := by rw [tick_neg h]
theorem layB_pend (b : Nat) (M : CM) (p : Option Pend) : LayB b M { M with pend := p } := ⟨fun _ _ => rfl, rfl, rfl, rfl, fun _ => rfl, fun _ h _ => h⟩
theorem layB_page (b : Nat) (M : CM) (p : Pg) : LayB b M (layM (tickM M) b p) :=
  ⟨fun c hc => by show upd (tickM M).pg b _ c = _; rw [upd_other _ _ _ hc, tick_pg], tick_wk M, tick_bd M, tick_wr M, fun h => tick_keep h, tick_leq M⟩
theorem LayB.stp {b : Nat} {M M' : CM} (h : LayB b M M') : Stp b M M' := ⟨h.pg, h.wk, h.bd, fun c => by rw [h.wr]; omega, h.left, h.leq⟩
theorem stp_wipe (b : Nat) (M : CM) (l : List Pg) : Stp b M (wipeM (tickM M) b l) :=
  ⟨fun c hc => by show upd (tickM M).pg b _ c = _; rw [upd_other _ _ _ hc, tick_pg], tick_wk M, tick_bd M, fun c => by
    show upd (tickM M).wr b _ c ≤ _
    by_cases e : c = b
    · subst e; rw [upd_same, tick_wr, if_pos rfl]; omega
    · rw [upd_other _ _ _ e, tick_wr]; omega, fun h => tick_keep h, tick_leq M⟩

def rdErase (M : CM) (b : Nat) : CM × Int := (eraseM M (b : Int), eraseE M (b : Int))
def rdTab (es : List Ent) (M : CM) (b : Nat) : CM × Int := writeT M (b : Int) es
theorem erase_weak {M : CM} {b : Nat} (hp : M.pend = none) (hb : b < 24) (hbd : M.bd b = false) (hw : M.wk b = true) : eraseE M (b : Int) = 7 ∧ eraseM M (b : Int) = { M with bd := upd M.bd b true } := by
  have hr := ready_nst hp hb hbd
  have : (b : Int).toNat = b := by omega
  constructor
  · unfold eraseE
    rw [if_neg (by simp [hr]), this, if_pos hw]
  · unfold eraseM
    rw [if_neg (by simp [hr]), this, if_pos hw]
theorem rdErase_ok : RdOk rdErase (fun M b => M.pg b = []) := by
  refine ⟨fun M M' b h1 h2 => by rw [h1]; exact h2, fun M b hp hb hbd hw => ?_, fun M b hp hb hbd hw => ?_⟩
  · unfold rdErase; rw [(erase_weak hp hb hbd hw).1, (erase_weak hp hb hbd hw).2]
  · obtain ⟨h1, h2⟩ := erase_nst hp hb hbd hw
    unfold rdErase
    rw [h1, h2]
    by_cases hl : M.left = 0
    · rw [if_pos hl, if_pos hl]
      exact ⟨(layB_pend b M _).stp, .inr ⟨rfl, by omega, _, rfl, rfl⟩⟩
    · rw [if_neg hl, if_neg hl]
      refine ⟨stp_wipe b M [], .inl ⟨rfl, ?_, ?_⟩⟩
      · show (tickM M).pend = none; rw [tick_pend]; exact hp
      · show upd (tickM M).pg b [] b = []; exact upd_same _ _ _
theorem goW_gen {b : Nat} (hb : b < 24) : ∀ (ps : List (List Ent)) (M : CM), M.pend = none → M.bd b = false → M.wk b = false → (M.pg b).length + ps.length ≤ 8 → (∀ p ∈ ps, bytesT p = (encT p, 0) ∧ (encT p).length ≤ 64) →
    LayB b M (goW (b : Int) M ps).1 ∧ (((goW (b : Int) M ps).2 = 0 ∧ (goW (b : Int) M ps).1.pend = none ∧ (goW (b : Int) M ps).1.pg b = M.pg b ++ ps.map (fun p => Pg.whole (padD (txt (encT p))))) ∨
      ((goW (b : Int) M ps).2 = 9 ∧ ¬ M.left < 0 ∧ ∃ p, (goW (b : Int) M ps).1.pend = some p ∧ pendB p = b))
  | [], M, hp, _, _, _, _ => ⟨LayB.refl b M, .inl ⟨rfl, hp, by simp [goW]⟩⟩
  | p :: ps, M, hp, hbd, hwk, hl, hP => by
    obtain ⟨hb1, hb2⟩ := hP p (List.mem_cons_self ..)
    have hs : (txt (encT p)).size ≤ 64 := by
      have : (txt (encT p)).size = (encT p).length := by simp [txt, ByteArray.size]
      omega
    simp only [List.length_cons] at hl
    obtain ⟨h1, h2⟩ := write_nst (s := txt (encT p)) hp hb hbd hwk hs (by omega)
    have hg : goW (b : Int) M (p :: ps) = if ¬ writeE M (b : Int) (txt (encT p)) = 0 then (writeM M (b : Int) (txt (encT p)), writeE M (b : Int) (txt (encT p))) else goW (b : Int) (writeM M (b : Int) (txt (encT p))) ps := by
      simp only [goW, hb1]; rw [if_neg (by simp)]
    rw [hg, h1, h2]
    by_cases h0 : M.left = 0
    · rw [if_pos h0, if_pos h0, if_pos (by simp)]
      exact ⟨layB_pend b M _, .inr ⟨rfl, by omega, _, rfl, rfl⟩⟩
    · rw [if_neg h0, if_neg h0, if_neg (by simp)]
      have hpg : (layM (tickM M) b (.whole (padD (txt (encT p))))).pg b = M.pg b ++ [.whole (padD (txt (encT p)))] := by
        show upd (tickM M).pg b _ b = _
        rw [upd_same, tick_pg]
      have hL := layB_page b M (.whole (padD (txt (encT p))))
      have hpn : (layM (tickM M) b (.whole (padD (txt (encT p))))).pend = none := by show (tickM M).pend = none; rw [tick_pend]; exact hp
      obtain ⟨k1, k2⟩ := goW_gen hb ps (layM (tickM M) b (.whole (padD (txt (encT p))))) hpn (by rw [hL.bd]; exact hbd) (by rw [hL.wk]; exact hwk) (by rw [hpg]; simp; omega) (fun q hq => hP q (List.mem_cons_of_mem _ hq))
      refine ⟨hL.trans k1, ?_⟩
      rcases k2 with ⟨k3, k4, k5⟩ | ⟨k3, k4, k5⟩
      · refine .inl ⟨k3, k4, ?_⟩
        rw [k5, hpg]; simp
      · refine .inr ⟨k3, fun hn => k4 ?_, k5⟩
        rw [hL.left hn]; exact hn
theorem rdTab_ok {es : List Ent} (hz : tabF es = 0) : RdOk (rdTab es) (fun M b => TabAt M b es) := by
  refine ⟨fun M M' b h1 h2 => ⟨h2.ok, h2.lt, by rw [h1]; exact h2.pg⟩, fun M b hp hb hbd hw => ?_, fun M b hp hb hbd hw => ?_⟩
  · unfold rdTab writeT
    obtain ⟨h1, h2⟩ := erase_weak hp hb hbd hw
    rw [if_neg (by simp [hz]), if_pos (by rw [h1]; simp), h1, h2]
  · obtain ⟨h1, h2⟩ := erase_nst hp hb hbd hw
    unfold rdTab writeT
    rw [if_neg (by simp [hz]), h1, h2]
    by_cases hl : M.left = 0
    · rw [if_pos hl, if_pos hl, if_pos (by simp)]
      exact ⟨(layB_pend b M _).stp, .inr ⟨rfl, by omega, _, rfl, rfl⟩⟩
    · rw [if_neg hl, if_neg hl, if_neg (by simp)]
      have hS := stp_wipe b M []
      have hpn : (wipeM (tickM M) b []).pend = none := by show (tickM M).pend = none; rw [tick_pend]; exact hp
      have hpg : (wipeM (tickM M) b []).pg b = [] := upd_same _ _ _
      have hneg : (wipeM (tickM M) b []).left < 0 ↔ M.left < 0 := by
        show (tickM M).left < 0 ↔ _
        unfold tickM; split
        · rename_i h; simp only; omega
        · rfl
      generalize hM1 : wipeM (tickM M) b [] = M1 at *
      have hbd1 : M1.bd b = false := by rw [hS.bd]; exact hbd
      have hwk1 : M1.wk b = false := by rw [hS.wk]; exact hw
      obtain ⟨h3, h4⟩ := write_nst (s := headT es) hpn hb hbd1 hwk1 (by rw [headT_size]; omega) (by rw [hpg]; simp)
      rw [h3, h4]
      by_cases hl1 : M1.left = 0
      · rw [if_pos hl1, if_pos hl1, if_pos (by simp)]
        exact ⟨hS.lay (layB_pend b M1 _), .inr ⟨rfl, by rw [← hneg]; omega, _, rfl, rfl⟩⟩
      · rw [if_neg hl1, if_neg hl1, if_neg (by simp)]
        have hL := layB_page b M1 (.whole (padD (headT es)))
        have hpg2 : (layM (tickM M1) b (.whole (padD (headT es)))).pg b = [.whole (padD (headT es))] := by
          show upd (tickM M1).pg b _ b = _
          rw [upd_same, tick_pg, hpg]; rfl
        have hpn2 : (layM (tickM M1) b (.whole (padD (headT es)))).pend = none := by show (tickM M1).pend = none; rw [tick_pend]; exact hpn
        obtain ⟨h0, h14, _⟩ := tabF_zero hz
        have hpl : (partsE 2 es).length ≤ 7 := by rw [parts_len]; omega
        obtain ⟨k1, k2⟩ := goW_gen hb (partsE 2 es) (layM (tickM M1) b (.whole (padD (headT es)))) hpn2 (by rw [hL.bd]; exact hbd1) (by rw [hL.wk]; exact hwk1) (by rw [hpg2]; simp; omega) (fun p hp' => by
          obtain ⟨k, hk, rfl⟩ := List.mem_map.1 hp'
          have hf : ∀ e ∈ partE 2 es k, faultE e = 0 := fun e he => tabF_fault hz e (part_mem he)
          have h2 : (partE 2 es k).length ≤ 2 := by unfold partE; simp; omega
          exact ⟨bytesT_part hf h2, encT_le hf h2⟩)
        refine ⟨(hS.lay hL).lay k1, ?_⟩
        rcases k2 with ⟨k3, k4, k5⟩ | ⟨k3, k4, k5⟩
        · refine .inl ⟨k3, k4, hz, hb, ?_⟩
          rw [k5, hpg2]; rfl
        · refine .inr ⟨k3, fun hn => k4 ?_, k5⟩
          have := hneg.2 hn
          rw [hL.left this]; exact this
inductive Laid (M : CM) (L : List Int) : List (List Ent) → CM → List Int → List Nat → Prop
  | nil : Laid M L [] M L []
  | snoc {M1 M2 : CM} {L1 L2 : List Int} {ps : List (List Ent)} {p : List Ent} {bs : List Nat} {b : Nat} (h : Laid M L ps M1 L1 bs) (k : Claimed (rdTab p) M1 L1 M2 L2 b 0) : Laid M L (ps ++ [p]) M2 L2 (bs ++ [b])
structure LaidOk (M : CM) (L : List Int) (ps : List (List Ent)) (M' : CM) (L' : List Int) (bs : List Nat) : Prop where
  adv : Adv L M L' M'
  up : M'.pend = none
  bw : ∀ b, M'.bd b = true → M'.wk b = true
  len : bs.length = ps.length
  tab : ∀ (i : Nat) b p, bs[i]? = some b → ps[i]? = some p → TabAt M' b p
  at_ : ∀ b ∈ bs, 2 ≤ b ∧ b < 24 ∧ (b : Int) ∉ L ∧ (b : Int) ∈ L'
  nodup : bs.Nodup
  good : goodN M.wk L ≤ goodN M.wk L' + ps.length
  nb : ∀ b ∈ bs, M.bd b = false
theorem Laid.ok {M M' : CM} {L L' : List Int} {ps : List (List Ent)} {bs : List Nat} (h : Laid M L ps M' L' bs) :
    M.pend = none → (∀ b, M.bd b = true → M.wk b = true) → (∀ p ∈ ps, tabF p = 0) → LaidOk M L ps M' L' bs := by
  induction h with
  | nil => intro hp hb _; exact ⟨Adv.refl _ _, hp, hb, rfl, fun i b p h => by simp at h, fun b h => by simp at h, List.nodup_nil, by simp, fun b h => by simp at h⟩
  | @snoc M1 M2 L1 L2 ps p bs b h k ih =>
    intro hp hb hz
    have I := ih hp hb (fun q hq => hz q (List.mem_append_left _ hq))
    have C := k.ok (rdTab_ok (hz p (by simp))) I.up I.bw
    obtain ⟨_, c1, c2, c3, c4, c5, c6, c7, c8, c9⟩ | ⟨c, _⟩ | ⟨c, _⟩ := C.end_
    · have hwk : M1.wk = M.wk := I.adv.wk
      refine ⟨I.adv.trans C.adv, c5, fun b hb => ?_, by simp [I.len], fun i b' q h1 h2 => ?_, fun b' hb' => ?_, ?_, ?_, fun b' hb' => ?_⟩
      · rcases C.adv.bw b hb with h | h
        · rw [C.adv.wk]; exact I.bw b h
        · rw [C.adv.wk]; exact h
      · rcases Nat.lt_or_ge i bs.length with hi | hi
        · rw [List.getElem?_append_left hi] at h1
          rw [List.getElem?_append_left (by rw [← I.len]; exact hi)] at h2
          have ht := I.tab i b' q h1 h2
          have hm := (I.at_ b' (List.mem_of_getElem? h1)).2.2.2
          exact ⟨ht.ok, ht.lt, by rw [C.adv.pg b' hm]; exact ht.pg⟩
        · have hi2 : i = bs.length := by
            have := (List.getElem?_eq_some_iff.1 h1).1
            simp at this; omega
          subst hi2
          rw [List.getElem?_concat_length] at h1
          rw [I.len, List.getElem?_concat_length] at h2
          cases h1; cases h2
          exact c6
      · rcases List.mem_append.1 hb' with h' | h'
        · obtain ⟨a1, a2, a3, a4⟩ := I.at_ b' h'
          exact ⟨a1, a2, a3, C.adv.mono _ a4⟩
        · simp at h'; subst h'
          exact ⟨c1, c2, fun hh => c3 (I.adv.mono _ hh), c4⟩
      · rw [List.nodup_append]
        refine ⟨I.nodup, by simp, fun x hx y hy => ?_⟩
        simp at hy; subst hy
        intro e; subst e
        exact c3 (I.at_ x hx).2.2.2
      · have := I.good
        rw [hwk] at c9
        simp; omega
      · rcases List.mem_append.1 hb' with h' | h'
        · exact I.nb b' h'
        · simp at h'; subst h'
          cases hh : M.bd b' with
          | false => rfl
          | true => have := C.adv.bd b' (I.adv.bd b' hh); rw [c8] at this; cases this
    · cases c
    · cases c
end Go.Proofs.YtkibgflbidkalaaGreatDoor
