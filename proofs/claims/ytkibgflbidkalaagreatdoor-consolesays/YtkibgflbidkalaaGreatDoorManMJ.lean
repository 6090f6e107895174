/- ManI ManJ ManK ManL ManM. -/
import Derived.Test.YtkibgflbidkalaaGreatDoorManHJ
import Derived.Test.YtkibgflbidkalaaGreatDoorChpJJ

/- Manifests on a chip: read. -/
namespace Go.Proofs.YtkibgflbidkalaaGreatDoor
open Go.RowKit Go.WideShapes
attribute [local go_sem ↓] Go.wp_at_zero Go.wp_at_succ

theorem ChipAt.d64 {w : World} {cb : Nat} {M : CM} (h : ChipAt w cb M) {b p : Nat} {d : List UInt8} (hb : b < 24) (hg : (M.pg b)[p]? = some (.whole d)) : d.length = 64 := by
  obtain ⟨⟨cs, fv, _, h2, _⟩, _⟩ := h
  exact (h2.blk b hb).d64 p d hg
def pageM (M : CM) (b p : Nat) : Option Man := match (M.pg b)[p]? with
  | some (.whole d) => parseB d
  | _ => none
theorem readR_of {M : CM} {b p : Nat} (hd : downB M = false) (hb : b < 24) (hp : p < 8) : readR M (b : Int) (p : Int) = (match (M.pg b)[p]? with | none => ([], 5) | some (.whole d) => (d, 0) | some .torn => ([], 4)) := by
  unfold readR; rw [hd, if_neg (by simp), if_pos ⟨by omega, by omega, by omega, by omega⟩, Int.toNat_natCast, Int.toNat_natCast]; rfl
def ReadEnd (w w' : World) (e : Ending) (o : Option Man) : Prop :=
  (∃ m v, o = some m ∧ e = .returned (.tuple #[v, .nilIface]) ∧ ManV w' w.heap.size m v ∧ Ext w w') ∨ (o = none ∧ ∃ n, e = .returned (.tuple #[zeroV, .iface 39 (.int .i64 n)]) ∧ Ext w w')

set_option maxRecDepth 20000 in
set_option maxHeartbeats 1000000 in
theorem readM_err (cb b p : Nat) (n : Int) (M : CM) (w : World) (h : ChipAt w cb M) (hn : ¬ n = 0) (hr : readR M (b : Int) (p : Int) = ([], n)) :
    Calls Tryz.prog 40 #[.pointer (some ⟨cb, 0, none⟩), .int .i64 (b : Int), .int .i64 (p : Int)] w fun e w' => e = .returned (.tuple #[zeroV, .iface 39 (.int .i64 n)]) ∧ Ext w w' := by
  have HR : Hid (∀ o, Calls Tryz.prog 73 #[.pointer (some ⟨cb, 0, none⟩), .int .i64 (b : Int), .int .i64 (p : Int)] (w.alloc o) fun e w' => e = .returned (.tuple #[.string ⟨#[]⟩, .iface 39 (.int .i64 n)]) ∧ w' = w.alloc o) := fun o => by
    have := read_any cb (b : Int) (p : Int) M (w.alloc o) (h.ext ((Ext.refl w).alloc o))
    rw [hr] at this; unfold errV at this; rw [if_neg hn] at this; exact this
  clear h hr hn
  go_enter Tryz.func40, Tryz.ntmps40
  go_wp2_with (go_at_call 73; refine (HR.out _).mono ?_; rintro e w' ⟨rfl, rfl⟩)
  refine bodyPost_ret (v := .tuple #[zeroV, .iface 39 (.int .i64 n)]) (by simp [results, go_sem, zeroV]) rfl ⟨rfl, ?_⟩
  exact (Ext.refl w).alloc _

set_option maxRecDepth 20000 in
set_option maxHeartbeats 1000000 in
theorem readM_ok (cb b p : Nat) (d : List UInt8) (M : CM) (w : World) (h : ChipAt w cb M) (hd : d.length = 64) (hr : readR M (b : Int) (p : Int) = (d, 0)) :
    Calls Tryz.prog 40 #[.pointer (some ⟨cb, 0, none⟩), .int .i64 (b : Int), .int .i64 (p : Int)] w fun e w' => ReadEnd w w' e (parseB d) := by
  have HR : Hid (∀ o, Calls Tryz.prog 73 #[.pointer (some ⟨cb, 0, none⟩), .int .i64 (b : Int), .int .i64 (p : Int)] (w.alloc o) fun e w' => e = .returned (.tuple #[.string (txtL d), .nilIface]) ∧ w' = w.alloc o) := fun o => by
    have := read_any cb (b : Int) (p : Int) M (w.alloc o) (h.ext ((Ext.refl w).alloc o))
    rw [hr] at this; unfold errV at this; rw [if_pos rfl] at this; exact this
  have HP : Hid (∀ W, Calls Tryz.prog 74 #[.string (txtL d)] W fun e w' => PEnd W w' e (parseB d)) := fun W => parseM_any (txtL d) W (by rw [Lib.size_eq]; simp [txtL, hd])
  have HBR : Hid (∀ W, Ext (w.alloc (.cells #[.int .i64 0, .int .i64 0, .slice none 0 0, .slice none 0 0] 73)) W → Blk W w.heap.size #[.int .i64 0, .int .i64 0, .slice none 0 0, .slice none 0 0] 73) := fun W hx => Blk.ext hx (Blk.new _ _ _)
  clear h hr hd
  generalize parseB d = o at *
  generalize txtL d = T at *
  go_enter Tryz.func40, Tryz.ntmps40
  go_wp2_with (first
    | (go_at_call 73; refine (HR.out _).mono ?_; rintro e w' ⟨rfl, rfl⟩)
    | (go_at_call 74; refine (HP.out _).mono ?_; rintro e w2 (⟨m, v, rfl, rfl, ⟨a1, c1, a2, c2, rfl, q1, q2⟩, hx⟩ | ⟨rfl, rfl, hx⟩) <;> (have hB := HBR.out _ hx; have r0 : _ = some (Value.int .i64 0) := hB.cell 0; have r1 : _ = some (Value.int .i64 0) := hB.cell 1; have r2 : _ = some (Value.slice none 0 0) := hB.cell 2; have r3 : _ = some (Value.slice none 0 0) := hB.cell 3; have f0 := hB.free 0; have f1 := hB.free 1; have f2 := hB.free 2; have f3 := hB.free 3; have hlt := hB.lt; try unfold zeroV)))
  · have hg : w.heap.size ≤ (w.alloc (.cells #[.int .i64 0, .int .i64 0, .slice none 0 0, .slice none 0 0] 73)).heap.size := by simp
    have k1 := ((((q1.mono hg).set 0 (.int .i64 m.ep)).set 1 (.int .i64 m.lg)).set 2 (.slice a1 m.nw.length c1)).set 3 (.slice a2 m.od.length c2)
    have k2 := ((((q2.mono hg).set 0 (.int .i64 m.ep)).set 1 (.int .i64 m.lg)).set 2 (.slice a1 m.nw.length c1)).set 3 (.slice a2 m.od.length c2)
    refine bodyPost_ret (v := .tuple #[.agg #[.int .i64 m.ep, .int .i64 m.lg, .slice a1 m.nw.length c1, .slice a2 m.od.length c2], .nilIface]) (by simp [results, go_sem, r0, r1, r2, r3]) rfl (.inl ⟨m, _, rfl, rfl, ⟨a1, c1, a2, c2, rfl, k1, k2⟩, ?_⟩)
    refine Ext.set (Ext.set (Ext.set (Ext.set (((Ext.refl w).alloc _).trans hx) ?_ _) ?_ _) ?_ _) ?_ _ <;> exact Nat.le_refl _
  · refine bodyPost_ret (v := .tuple #[zeroV, .iface 39 (.int .i64 4)]) (by simp [results, go_sem, r0, r1, r2, r3, zeroV]) rfl (.inr ⟨rfl, 4, rfl, ?_⟩)
    refine Ext.set (Ext.set (Ext.set (Ext.set (((Ext.refl w).alloc _).trans hx) ?_ _) ?_ _) ?_ _) ?_ _ <;> exact Nat.le_refl _
theorem readM_any (cb b p : Nat) (M : CM) (w : World) (h : ChipAt w cb M) (hd : downB M = false) (hb : b < 24) (hp : p < 8) :
    Calls Tryz.prog 40 #[.pointer (some ⟨cb, 0, none⟩), .int .i64 (b : Int), .int .i64 (p : Int)] w fun e w' => ReadEnd w w' e (pageM M b p) := by
  have hr := readR_of hd hb hp
  unfold pageM
  cases hg : (M.pg b)[p]? with
  | none =>
    rw [hg] at hr
    refine (readM_err cb b p 5 M w h (by decide) hr).mono ?_
    rintro e w' ⟨rfl, hx⟩
    exact .inr ⟨rfl, 5, rfl, hx⟩
  | some q =>
    rw [hg] at hr
    cases q with
    | torn =>
      refine (readM_err cb b p 4 M w h (by decide) hr).mono ?_
      rintro e w' ⟨rfl, hx⟩
      exact .inr ⟨rfl, 4, rfl, hx⟩
    | whole d => exact readM_ok cb b p d M w h (h.d64 hb hg) hr
end Go.Proofs.YtkibgflbidkalaaGreatDoor

/- Manifests on a chip: Find. -/
namespace Go.Proofs.YtkibgflbidkalaaGreatDoor
open Go.RowKit Go.WideShapes
attribute [local go_sem ↓] Go.wp_at_zero Go.wp_at_succ

def oM (o : Option (Man × Nat)) : Man := match o with
  | none => ⟨0, 0, [], []⟩
  | some n => n.1
def oA (o : Option (Man × Nat)) : Nat := match o with
  | none => 0
  | some n => n.2
def better (o : Option (Man × Nat)) (b : Nat) (q : Option Man) : Option (Man × Nat) := match q with
  | none => o
  | some m => if (oM o).ep < m.ep then some (m, b) else o
def scanB (M : CM) (b : Nat) (o : Option (Man × Nat)) : Nat → Option (Man × Nat)
  | 0 => o
  | k + 1 => better (scanB M b o k) b (pageM M b k)
def outS (M : CM) : Nat → Option (Man × Nat)
  | 0 => none
  | b + 1 => scanB M b (outS M b) 8
def findS (M : CM) : Option (Man × Nat) := outS M 2

theorem parseB_ep {l : List UInt8} {m : Man} (h : parseB l = some m) : manFault m = 0 := by
  unfold parseB at h
  split at h
  · rename_i hc; simp at h; subst h; exact hc.2.2.2
  · cases h
theorem manFault_ep {m : Man} (h : manFault m = 0) : 1 ≤ m.ep ∧ m.ep ≤ 100000 := (manF_zero h).1
theorem pageM_fault {M : CM} {b p : Nat} {m : Man} (h : pageM M b p = some m) : manFault m = 0 := by
  unfold pageM at h
  split at h
  · exact parseB_ep h
  · cases h

theorem better_fault {o : Option (Man × Nat)} {b : Nat} {q : Option Man} (h : ∀ m a, o = some (m, a) → manFault m = 0) (hq : ∀ m, q = some m → manFault m = 0) : ∀ m a, better o b q = some (m, a) → manFault m = 0 := by
  intro m a he
  cases q with
  | none => exact h m a he
  | some m' =>
    simp only [better] at he
    split at he
    · simp at he; rw [← he.1]; exact hq m' rfl
    · exact h m a he
theorem scanB_fault {M : CM} {b : Nat} {o : Option (Man × Nat)} (h : ∀ m a, o = some (m, a) → manFault m = 0) : ∀ k m a, scanB M b o k = some (m, a) → manFault m = 0
  | 0 => h
  | k + 1 => better_fault (scanB_fault h k) (fun _ hq => pageM_fault hq)
theorem outS_fault {M : CM} : ∀ b m a, outS M b = some (m, a) → manFault m = 0
  | 0 => fun m a h => by cases h
  | b + 1 => scanB_fault (outS_fault b) 8
structure FndAt (w wr : World) (o : Option (Man × Nat)) : Prop where
  res : Blk wr w.heap.size #[.int .i64 0, .int .i64 0, .slice none 0 0, .slice none 0 0] 73
  cur : ∃ a1 c1 a2 c2, Blk wr (w.heap.size + 1) #[.int .i64 (oM o).ep, .int .i64 (oM o).lg, .slice a1 (oM o).nw.length c1, .slice a2 (oM o).od.length c2] 73 ∧ NumsF wr (w.heap.size + 1) a1 (oM o).nw ∧ NumsF wr (w.heap.size + 1) a2 (oM o).od
  ext : Ext w wr
theorem FndAt.more {w wr wx : World} {o : Option (Man × Nat)} (h : FndAt w wr o) (hx : Ext wr wx) : FndAt w wx o := by
  obtain ⟨a1, c1, a2, c2, hb, h1, h2⟩ := h.cur
  exact ⟨Blk.ext hx h.res, ⟨a1, c1, a2, c2, Blk.ext hx hb, NumsF.ext hx h1, NumsF.ext hx h2⟩, h.ext.trans hx⟩
theorem readM_none (cb b p : Nat) (M : CM) (w : World) (h : ChipAt w cb M) (hd : downB M = false) (hb : b < 24) (hp : p < 8) (hq : pageM M b p = none) :
    Calls Tryz.prog 40 #[.pointer (some ⟨cb, 0, none⟩), .int .i64 (b : Int), .int .i64 (p : Int)] w fun e w' => ∃ n, e = .returned (.tuple #[.agg #[.int .i64 0, .int .i64 0, .slice none 0 0, .slice none 0 0], .iface 39 (.int .i64 n)]) ∧ Ext w w' := by
  refine (readM_any cb b p M w h hd hb hp).mono ?_
  rw [hq]
  rintro e w' (⟨m, v, h1, _⟩ | ⟨_, n, h1, h2⟩)
  · cases h1
  · exact ⟨n, h1, h2⟩
theorem readM_some (cb b p : Nat) (M : CM) (w : World) (m : Man) (h : ChipAt w cb M) (hd : downB M = false) (hb : b < 24) (hp : p < 8) (hq : pageM M b p = some m) :
    Calls Tryz.prog 40 #[.pointer (some ⟨cb, 0, none⟩), .int .i64 (b : Int), .int .i64 (p : Int)] w fun e w' => ∃ a1 c1 a2 c2, e = .returned (.tuple #[.agg #[.int .i64 m.ep, .int .i64 m.lg, .slice a1 m.nw.length c1, .slice a2 m.od.length c2], .nilIface]) ∧ NumsF w' w.heap.size a1 m.nw ∧ NumsF w' w.heap.size a2 m.od ∧ Ext w w' := by
  refine (readM_any cb b p M w h hd hb hp).mono ?_
  rw [hq]
  rintro e w' (⟨m', v, h1, rfl, ⟨a1, c1, a2, c2, rfl, k1, k2⟩, hx⟩ | ⟨h1, _⟩)
  · cases h1; exact ⟨a1, c1, a2, c2, rfl, k1, k2, hx⟩
  · cases h1
theorem Ext.four {a b : World} (h : Ext a b) {g : Nat} (hg : a.heap.size ≤ g) (x y z u : Value) : Ext a ((((b.setCell ⟨g, 0, none⟩ x).setCell ⟨g, 1, none⟩ y).setCell ⟨g, 2, none⟩ z).setCell ⟨g, 3, none⟩ u) :=
  (((h.set hg x).set hg y).set hg z).set hg u

set_option maxRecDepth 20000 in
set_option maxHeartbeats 4000000 in
theorem find_up (cb : Nat) (M : CM) (w : World) (h : ChipAt w cb M) (hd : downB M = false) :
    Calls Tryz.prog 21 #[.pointer (some ⟨cb, 0, none⟩)] w fun e w' => Ext w w' ∧
      ((∃ m a a1 c1 a2 c2, findS M = some (m, a) ∧ e = .returned (.tuple #[.agg #[.int .i64 m.ep, .int .i64 m.lg, .slice a1 m.nw.length c1, .slice a2 m.od.length c2], .int .i64 (a : Int), .nilIface]) ∧ NumsF w' w.heap.size a1 m.nw ∧ NumsF w' w.heap.size a2 m.od) ∨
       (findS M = none ∧ e = .returned (.tuple #[.agg #[.int .i64 0, .int .i64 0, .slice none 0 0, .slice none 0 0], .int .i64 0, .iface 39 (.int .i64 4)]))) := by
  have HD : Hid (∀ W, Ext w W → Calls Tryz.prog 39 #[.pointer (some ⟨cb, 0, none⟩)] W fun e w' => e = .returned (.bool false) ∧ w' = W) := fun W hx => by
    have := down_any cb M W (h.ext hx); rw [hd] at this; exact this
  go_enter Tryz.func21, Tryz.ntmps21
  go_wp2_with (go_at_call 39; refine (HD.out _ ((Ext.refl w).alloc _)).mono ?_; rintro e w1 ⟨rfl, rfl⟩)
  go_loopw [6, 15] (fun at' i wr => ∃ b : Nat, b ≤ 2 ∧ i = .int .i64 b ∧ at' = .int .i64 (oA (outS M b) : Int) ∧ FndAt w wr (outS M b)) (fun _ i _ => 2 - (intOf i).toNat)
  case atStart => exact ⟨0, by omega, rfl, rfl, ⟨(Blk.new _ _ _).alloc _, ⟨none, 0, none, 0, Blk.new' _ _ _ (by simp), NumsF.nil _ _, NumsF.nil _ _⟩, ((Ext.refl w).alloc _).alloc _⟩⟩
  case round =>
    obtain ⟨b, hb, rfl, rfl, hF⟩ := hrel
    by_cases hlt : b < 2
    · have hlt' : (b : Int) < 2 := by omega
      go_wp2_with fail
      go_loopw [6, 18] (fun at' i wx => ∃ p : Nat, p ≤ 8 ∧ i = .int .i64 p ∧ at' = .int .i64 (oA (scanB M b (outS M b) p) : Int) ∧ FndAt w wx (scanB M b (outS M b) p)) (fun _ i _ => 8 - (intOf i).toNat)
      case atStart => exact ⟨0, by omega, rfl, rfl, hF⟩
      case round =>
        clear hF
        obtain ⟨p, hp, rfl, rfl, hF⟩ := hrel
        by_cases hlp : p < 8
        · have hlp' : (p : Int) < 8 := by omega
          have HS : Hid (scanB M b (outS M b) (p + 1) = better (scanB M b (outS M b) p) b (pageM M b p)) := rfl
          have hcx := h.ext hF.ext
          generalize scanB M b (outS M b) p = o at *
          cases hq : pageM M b p with
          | none =>
            have HC : Hid (∀ W, Ext w W → Calls Tryz.prog 40 #[.pointer (some ⟨cb, 0, none⟩), .int .i64 (b : Int), .int .i64 (p : Int)] W fun e w' => ∃ n, e = .returned (.tuple #[.agg #[.int .i64 0, .int .i64 0, .slice none 0 0, .slice none 0 0], .iface 39 (.int .i64 n)]) ∧ Ext W w') := fun W hx => readM_none cb b p M W (h.ext hx) hd (by omega) hlp hq
            have HO : Hid (scanB M b (outS M b) (p + 1) = o) := by unfold Hid; rw [HS.out, hq]; rfl
            have HF : Hid (FndAt w wr o) := hF
            clear hq hF HS hcx
            go_wp2_with (go_at_call 40; refine (HC.out _ HF.out.ext).mono ?_; rintro e w2 ⟨n, rfl, hx2⟩)
            go_roundw
            case rel => exact ⟨p + 1, by omega, by go_num, by rw [HO.out], by rw [HO.out]; exact HF.out.more (hx2.alloc _)⟩
            case measure => simp [intOf]; omega
          | some m =>
            have HC : Hid (∀ W, Ext w W → Calls Tryz.prog 40 #[.pointer (some ⟨cb, 0, none⟩), .int .i64 (b : Int), .int .i64 (p : Int)] W fun e w' => ∃ a1 c1 a2 c2, e = .returned (.tuple #[.agg #[.int .i64 m.ep, .int .i64 m.lg, .slice a1 m.nw.length c1, .slice a2 m.od.length c2], .nilIface]) ∧ NumsF w' W.heap.size a1 m.nw ∧ NumsF w' W.heap.size a2 m.od ∧ Ext W w') := fun W hx => readM_some cb b p M W m (h.ext hx) hd (by omega) hlp hq
            have HF : Hid (FndAt w wr o) := hF
            have hsz := hF.res.lt
            obtain ⟨x1, k1, x2, k2, hB, N1, N2⟩ := hF.cur
            have hsz2 := hB.lt
            by_cases hep : (oM o).ep < m.ep
            · have HO : Hid (scanB M b (outS M b) (p + 1) = some (m, b)) := by unfold Hid; rw [HS.out, hq]; simp only [better]; rw [if_pos hep]
              have HB : Hid (Blk wr (w.heap.size + 1) #[.int .i64 (oM o).ep, .int .i64 (oM o).lg, .slice x1 (oM o).nw.length k1, .slice x2 (oM o).od.length k2] 73) := hB
              clear hq hF HS hcx hB N1 N2
              generalize (oM o).ep = ep at *
              generalize (oM o).lg = lg at *
              generalize (oM o).nw.length = nl at *
              generalize (oM o).od.length = ol at *
              go_wp2_with (go_at_call 40; refine (HC.out _ HF.out.ext).mono ?_; rintro e w2 ⟨a1, c1, a2, c2, rfl, q1, q2, hx2⟩; have B2 := Blk.ext hx2 HB.out; have e0 : _ = some (Value.int .i64 ep) := B2.cell 0; have e1 : _ = some (Value.int .i64 lg) := B2.cell 1; have e2 : _ = some (Value.slice x1 nl k1) := B2.cell 2; have e3 : _ = some (Value.slice x2 ol k2) := B2.cell 3; have f0 := B2.free 0; have f1 := B2.free 1; have f2 := B2.free 2; have f3 := B2.free 3; have hl2 := B2.lt; have hne2 : ¬ w.heap.size + 1 = w2.heap.size := Nat.ne_of_lt hl2)
              go_roundw
              case rel =>
                have hg : w.heap.size + 1 ≤ wr.heap.size := Nat.le_of_lt hsz2
                have n1 := ((((q1.mono hg).set 0 (.int .i64 m.ep)).set 1 (.int .i64 m.lg)).set 2 (.slice a1 m.nw.length c1)).set 3 (.slice a2 m.od.length c2)
                have n2 := ((((q2.mono hg).set 0 (.int .i64 m.ep)).set 1 (.int .i64 m.lg)).set 2 (.slice a1 m.nw.length c1)).set 3 (.slice a2 m.od.length c2)
                have hne : ∀ o : Nat, w.heap.size ≠ (⟨w.heap.size + 1, o, none⟩ : Addr).block := fun o => by show w.heap.size ≠ w.heap.size + 1; omega
                refine ⟨p + 1, by omega, by go_num, by rw [HO.out]; rfl, ?_⟩
                rw [HO.out]
                exact ⟨(((((Blk.ext hx2 HF.out.res).other (hne 0) _).other (hne 1) _).other (hne 2) _).other (hne 3) _).alloc _, ⟨a1, c1, a2, c2, B2.put4.alloc _, NumsF.ext ((Ext.refl _).alloc _) n1, NumsF.ext ((Ext.refl _).alloc _) n2⟩, (Ext.four (HF.out.ext.trans hx2) (Nat.le_succ _) _ _ _ _).alloc _⟩
              case measure => simp [intOf]; omega
            · have HO : Hid (scanB M b (outS M b) (p + 1) = o) := by unfold Hid; rw [HS.out, hq]; simp only [better]; rw [if_neg hep]
              have HB : Hid (Blk wr (w.heap.size + 1) #[.int .i64 (oM o).ep, .int .i64 (oM o).lg, .slice x1 (oM o).nw.length k1, .slice x2 (oM o).od.length k2] 73) := hB
              clear hq hF HS hcx hB N1 N2
              generalize (oM o).ep = ep at *
              generalize (oM o).lg = lg at *
              generalize (oM o).nw.length = nl at *
              generalize (oM o).od.length = ol at *
              go_wp2_with (go_at_call 40; refine (HC.out _ HF.out.ext).mono ?_; rintro e w2 ⟨a1, c1, a2, c2, rfl, q1, q2, hx2⟩; have B2 := Blk.ext hx2 HB.out; have e0 : _ = some (Value.int .i64 ep) := B2.cell 0; have e1 : _ = some (Value.int .i64 lg) := B2.cell 1; have e2 : _ = some (Value.slice x1 nl k1) := B2.cell 2; have e3 : _ = some (Value.slice x2 ol k2) := B2.cell 3; have f0 := B2.free 0; have f1 := B2.free 1; have f2 := B2.free 2; have f3 := B2.free 3; have hl2 := B2.lt; have hne2 : ¬ w.heap.size + 1 = w2.heap.size := Nat.ne_of_lt hl2)
              go_roundw
              case rel => exact ⟨p + 1, by omega, by go_num, by rw [HO.out], by rw [HO.out]; exact HF.out.more (hx2.alloc _)⟩
              case measure => simp [intOf]; omega
        · have hp8 : p = 8 := by omega
          subst hp8
          go_wp2_with fail
          go_roundw
          case rel => exact ⟨b + 1, by omega, by go_num, rfl, hF⟩
          case measure => simp [intOf]; omega
    · have hb2 : b = 2 := by omega
      subst hb2
      have HFS : Hid (findS M = outS M 2) := rfl
      have hft := outS_fault (M := M) 2
      generalize outS M 2 = o at *
      cases o with
      | none =>
        obtain ⟨x1, k1, x2, k2, hB, N1, N2⟩ := hF.cur
        have hR := hF.res
        have hx := hF.ext
        have e0 : _ = some (Value.int .i64 0) := hB.cell 0
        have r0 : _ = some (Value.int .i64 0) := hR.cell 0
        have r1 : _ = some (Value.int .i64 0) := hR.cell 1
        have r2 : _ = some (Value.slice none 0 0) := hR.cell 2
        have r3 : _ = some (Value.slice none 0 0) := hR.cell 3
        have f0 := hR.free 0
        have f1 := hR.free 1
        have f2 := hR.free 2
        have f3 := hR.free 3
        have hl1 := hB.lt
        have hl2 := hR.lt
        clear hF hB N1 N2 hft
        go_wp2_with fail
        refine bodyPost_ret (v := .tuple #[.agg #[.int .i64 0, .int .i64 0, .slice none 0 0, .slice none 0 0], .int .i64 0, .iface 39 (.int .i64 4)]) (by simp [results, go_sem, r0, r1, r2, r3]) rfl ⟨?_, .inr ⟨HFS.out, rfl⟩⟩
        exact Ext.four hx (Nat.le_refl _) _ _ _ _
      | some n =>
        obtain ⟨m, a⟩ := n
        have hep := (manFault_ep (hft m a rfl)).1
        obtain ⟨x1, k1, x2, k2, hB, N1, N2⟩ := hF.cur
        have hR := hF.res
        have hx := hF.ext
        have e0 : _ = some (Value.int .i64 m.ep) := hB.cell 0
        have e1 : _ = some (Value.int .i64 m.lg) := hB.cell 1
        have e2 : _ = some (Value.slice x1 m.nw.length k1) := hB.cell 2
        have e3 : _ = some (Value.slice x2 m.od.length k2) := hB.cell 3
        have r0 : _ = some (Value.int .i64 0) := hR.cell 0
        have r1 : _ = some (Value.int .i64 0) := hR.cell 1
        have r2 : _ = some (Value.slice none 0 0) := hR.cell 2
        have r3 : _ = some (Value.slice none 0 0) := hR.cell 3
        have f0 := hR.free 0
        have f1 := hR.free 1
        have f2 := hR.free 2
        have f3 := hR.free 3
        have hl1 := hB.lt
        have hl2 := hR.lt
        have hep' : ¬ m.ep = 0 := by omega
        have N1' : NumsF wr w.heap.size x1 m.nw := NumsF.mono N1 (Nat.le_succ _)
        have N2' : NumsF wr w.heap.size x2 m.od := NumsF.mono N2 (Nat.le_succ _)
        have n1 := (((N1'.set 0 (.int .i64 m.ep)).set 1 (.int .i64 m.lg)).set 2 (.slice x1 m.nw.length k1)).set 3 (.slice x2 m.od.length k2)
        have n2 := (((N2'.set 0 (.int .i64 m.ep)).set 1 (.int .i64 m.lg)).set 2 (.slice x1 m.nw.length k1)).set 3 (.slice x2 m.od.length k2)
        clear hF hB hft N1 N2 N1' N2'
        go_wp2_with fail
        refine bodyPost_ret (v := .tuple #[.agg #[.int .i64 m.ep, .int .i64 m.lg, .slice x1 m.nw.length k1, .slice x2 m.od.length k2], .int .i64 (a : Int), .nilIface]) (by simp [results, go_sem, r0, r1, r2, r3, oA]) rfl ⟨?_, .inl ⟨m, a, x1, k1, x2, k2, HFS.out, rfl, n1, n2⟩⟩
        exact Ext.four hx (Nat.le_refl _) _ _ _ _
end Go.Proofs.YtkibgflbidkalaaGreatDoor

/- Manifests on a chip: Note. -/
namespace Go.Proofs.YtkibgflbidkalaaGreatDoor
open Go.RowKit Go.WideShapes

def manTxt (m : Man) : ByteArray := txtM (encM m.ep m.lg m.nw m.od)
def noteAt (M : CM) (a : Nat) : Nat := if (M.pg a).length = 8 then 1 - a else a
def noteE0 (M : CM) (a : Nat) : Int := if (M.pg a).length = 8 then eraseE M ((1 - a : Nat) : Int) else 0
def noteM0 (M : CM) (a : Nat) : CM := if (M.pg a).length = 8 then eraseM M ((1 - a : Nat) : Int) else M
def noteE (M : CM) (a : Nat) (s : ByteArray) : Int := if ¬ noteE0 M a = 0 then noteE0 M a else writeE (noteM0 M a) (noteAt M a : Int) s
def noteM (M : CM) (a : Nat) (s : ByteArray) : CM := if ¬ noteE0 M a = 0 then noteM0 M a else writeM (noteM0 M a) (noteAt M a : Int) s

theorem tick_left (M : CM) : (tickM M).left ≤ M.left ∨ (tickM M).left ≤ 0 := by unfold tickM; split <;> simp <;> omega
theorem eraseM_left (M : CM) (b : Int) {n : Int} (h : M.left ≤ n) (hn : 0 ≤ n) : (eraseM M b).left ≤ n := by
  unfold eraseM
  split
  · exact h
  · split
    · exact h
    · split
      · exact h
      · have := tick_left M
        show (tickM M).left ≤ n
        omega
theorem encM_size0 (m : Man) : (manTxt m).size = 7 + m.nw.length + m.od.length := by
  have := encM_size m.ep m.lg m.nw m.od 0
  simpa [manTxt] using this
theorem manTxt_le {m : Man} (h : manFault m = 0) : (manTxt m).size ≤ 30 ∧ m.nw.length + m.od.length ≤ 23 := by
  obtain ⟨_, hS⟩ := manF_zero h
  obtain ⟨hr, hnd, _⟩ := scan_zero hS
  have h24 := nodup_le hr hnd
  rw [encM_size0]
  simp at h24; omega
theorem manBytes_man (m : Man) (no oo : Option Addr) (nc oc : Nat) (w : World) (hn : NumsAt w no m.nw) (ho : NumsAt w oo m.od) (hf : manFault m = 0) :
    Calls Tryz.prog 80 #[.agg #[.int .i64 m.ep, .int .i64 m.lg, .slice no m.nw.length nc, .slice oo m.od.length oc]] w fun e w' => e = .returned (.tuple #[.string (manTxt m), .nilIface]) ∧ Ext w w' := by
  obtain ⟨hE, hS⟩ := manF_zero hf
  obtain ⟨hr, _, _⟩ := scan_zero hS
  have hG := hr m.lg (by simp)
  have hle := (manTxt_le hf).2
  obtain ⟨ep, lg, nw, od⟩ := m
  dsimp only at *
  obtain ⟨E, rfl⟩ := Int.eq_ofNat_of_zero_le (show 0 ≤ ep by omega)
  obtain ⟨G, rfl⟩ := Int.eq_ofNat_of_zero_le (show 0 ≤ lg by omega)
  exact manBytes_ok E G no oo nc oc nw od w (by omega) hn ho hf

def NoteEnd (cb : Nat) (M : CM) (a : Nat) (s : ByteArray) (w : World) (e : Ending) (w' : World) : Prop :=
  (noteE M a s = 0 ∧ e = .returned (.tuple #[.int .i64 (noteAt M a : Int), .nilIface]) ∨ ¬ noteE M a s = 0 ∧ e = .returned (.tuple #[.int .i64 0, .iface 39 (.int .i64 (noteE M a s))])) ∧ ChipAt w' cb (noteM M a s) ∧ w.grownBy w' (some cb)

set_option maxRecDepth 20000 in
set_option maxHeartbeats 2000000 in
theorem note_any (cb a : Nat) (M : CM) (m : Man) (no oo : Option Addr) (nc oc : Nat) (w : World) (h : ChipAt w cb M) (ha : a ≤ 1) (hub : M.left ≤ 9223372036854775807) (hwr : WrOk M) (hn : NumsAt w no m.nw) (ho : NumsAt w oo m.od) (hf : manFault m = 0) :
    Calls Tryz.prog 49 #[.pointer (some ⟨cb, 0, none⟩), .int .i64 (a : Int), .agg #[.int .i64 m.ep, .int .i64 m.lg, .slice no m.nw.length nc, .slice oo m.od.length oc]] w (NoteEnd cb M a (manTxt m) w) := by
  have HB : Hid (∀ o, Calls Tryz.prog 80 #[.agg #[.int .i64 m.ep, .int .i64 m.lg, .slice no m.nw.length nc, .slice oo m.od.length oc]] (w.alloc o) fun e w' => e = .returned (.tuple #[.string (manTxt m), .nilIface]) ∧ Ext (w.alloc o) w') := fun o => manBytes_man m no oo nc oc (w.alloc o) (hn.ext ((Ext.refl w).alloc o)) (ho.ext ((Ext.refl w).alloc o)) hf
  have hT := (manTxt_le hf).1
  have HN : Hid (∀ W, ChipAt W cb M → Calls Tryz.prog 81 #[.pointer (some ⟨cb, 0, none⟩), .int .i64 (a : Int)] W fun e w' => e = .returned (.int .i64 ((M.pg a).length : Int)) ∧ w' = W) := fun W hc => next_any cb a M W (by omega) hc
  have HW : Hid (∀ (M' : CM) (b : Nat) W, ChipAt W cb M' → M'.left ≤ 9223372036854775807 → Calls Tryz.prog 82 #[.pointer (some ⟨cb, 0, none⟩), .int .i64 (b : Int), .string (manTxt m)] W fun e w' => e = .returned (errV (writeE M' (b : Int) (manTxt m))) ∧ ChipAt w' cb (writeM M' (b : Int) (manTxt m)) ∧ W.grownBy w' (some cb)) := fun M' b W hc hl => write_any cb (b : Int) (manTxt m) M' W hc hl (by omega)
  have HE : Hid (∀ (b : Nat) W, ChipAt W cb M → Calls Tryz.prog 24 #[.pointer (some ⟨cb, 0, none⟩), .int .i64 (b : Int)] W fun e w' => e = .returned (errV (eraseE M (b : Int))) ∧ ChipAt w' cb (eraseM M (b : Int)) ∧ W.grownBy w' (some cb)) := fun b W hc => erase_any cb (b : Int) M W hc hub hwr
  clear hn ho hf hT
  generalize manTxt m = T at *
  by_cases hfull : (M.pg a).length = 8
  · have hfull' : ((M.pg a).length : Int) = 8 := by omega
    have HA : Hid (noteAt M a = 1 - a) := by unfold noteAt Hid; rw [if_pos hfull]
    have HE0 : Hid (noteE0 M a = eraseE M ((1 - a : Nat) : Int)) := by unfold noteE0 Hid; rw [if_pos hfull]
    have HM0 : Hid (noteM0 M a = eraseM M ((1 - a : Nat) : Int)) := by unfold noteM0 Hid; rw [if_pos hfull]
    have h1a : (1 : Int) - (a : Int) = ((1 - a : Nat) : Int) := by omega
    by_cases he : eraseE M ((1 - a : Nat) : Int) = 0
    · have HEL : Hid ((eraseM M ((1 - a : Nat) : Int)).left ≤ 9223372036854775807) := eraseM_left M _ hub (by decide)
      have HEE : Hid (∀ W, ChipAt W cb M → Calls Tryz.prog 24 #[.pointer (some ⟨cb, 0, none⟩), .int .i64 ((1 - a : Nat) : Int)] W fun e w' => e = .returned (.nilIface) ∧ ChipAt w' cb (eraseM M ((1 - a : Nat) : Int)) ∧ W.grownBy w' (some cb)) := fun W hc => by
        have := HE.out (1 - a) W hc; rw [he] at this; exact this
      by_cases hw : writeE (eraseM M ((1 - a : Nat) : Int)) ((1 - a : Nat) : Int) T = 0
      · have HR : Hid (noteE M a T = 0 ∧ noteM M a T = writeM (eraseM M ((1 - a : Nat) : Int)) ((1 - a : Nat) : Int) T) := by
          unfold noteE noteM Hid; rw [HE0.out, HM0.out, HA.out, if_neg (by simp [he]), if_neg (by simp [he])]; exact ⟨hw, rfl⟩
        have HWW : Hid (∀ W, ChipAt W cb (eraseM M ((1 - a : Nat) : Int)) → Calls Tryz.prog 82 #[.pointer (some ⟨cb, 0, none⟩), .int .i64 ((1 - a : Nat) : Int), .string T] W fun e w' => e = .returned .nilIface ∧ ChipAt w' cb (writeM (eraseM M ((1 - a : Nat) : Int)) ((1 - a : Nat) : Int) T) ∧ W.grownBy w' (some cb)) := fun W hc => by
          have := HW.out (eraseM M ((1 - a : Nat) : Int)) (1 - a) W hc HEL.out; rw [hw] at this; exact this
        have HC : Hid (ChipAt w cb M) := h
        clear hw hfull h he
        generalize eraseM M ((1 - a : Nat) : Int) = M1 at *
        generalize hA1 : 1 - a = a1 at *
        go_enter Tryz.func49, Tryz.ntmps49
        go_wp2_with (first
          | (go_at_call 80; refine (HB.out _).mono ?_; rintro e w2 ⟨rfl, hx2⟩)
          | (go_at_call 81; refine (HN.out _ (HC.out.ext (((Ext.refl w).alloc _).trans hx2))).mono ?_; rintro e w3 ⟨rfl, rfl⟩)
          | (go_at_call 24; refine (HEE.out _ (HC.out.ext (((Ext.refl w).alloc _).trans hx2))).mono ?_; rintro e w5 ⟨rfl, hc5, hg5⟩)
          | (go_at_call 82; refine (HWW.out _ hc5).mono ?_; rintro e w4 ⟨rfl, hc4, hg4⟩))
        go_ret2
        exact ⟨.inl ⟨HR.out.1, by rw [HA.out]; rfl⟩, by rw [HR.out.2]; exact hc4, grow_trans (grow_ext (((Ext.refl w).alloc _).trans hx2) _) (grow_trans hg5 hg4)⟩
      · have HR : Hid (noteE M a T = writeE (eraseM M ((1 - a : Nat) : Int)) ((1 - a : Nat) : Int) T ∧ noteM M a T = writeM (eraseM M ((1 - a : Nat) : Int)) ((1 - a : Nat) : Int) T) := by
          unfold noteE noteM Hid; rw [HE0.out, HM0.out, HA.out, if_neg (by simp [he]), if_neg (by simp [he])]; exact ⟨rfl, rfl⟩
        have HWW : Hid (∀ W, ChipAt W cb (eraseM M ((1 - a : Nat) : Int)) → Calls Tryz.prog 82 #[.pointer (some ⟨cb, 0, none⟩), .int .i64 ((1 - a : Nat) : Int), .string T] W fun e w' => e = .returned (.iface 39 (.int .i64 (writeE (eraseM M ((1 - a : Nat) : Int)) ((1 - a : Nat) : Int) T))) ∧ ChipAt w' cb (writeM (eraseM M ((1 - a : Nat) : Int)) ((1 - a : Nat) : Int) T) ∧ W.grownBy w' (some cb)) := fun W hc => by
          have := HW.out (eraseM M ((1 - a : Nat) : Int)) (1 - a) W hc HEL.out; unfold errV at this; rw [if_neg hw] at this; exact this
        have HC : Hid (ChipAt w cb M) := h
        have HNW : Hid (¬ writeE (eraseM M ((1 - a : Nat) : Int)) ((1 - a : Nat) : Int) T = 0) := hw
        clear hw hfull h he
        generalize writeE (eraseM M ((1 - a : Nat) : Int)) ((1 - a : Nat) : Int) T = f at *
        generalize eraseM M ((1 - a : Nat) : Int) = M1 at *
        generalize hA1 : 1 - a = a1 at *
        go_enter Tryz.func49, Tryz.ntmps49
        go_wp2_with (first
          | (go_at_call 80; refine (HB.out _).mono ?_; rintro e w2 ⟨rfl, hx2⟩)
          | (go_at_call 81; refine (HN.out _ (HC.out.ext (((Ext.refl w).alloc _).trans hx2))).mono ?_; rintro e w3 ⟨rfl, rfl⟩)
          | (go_at_call 24; refine (HEE.out _ (HC.out.ext (((Ext.refl w).alloc _).trans hx2))).mono ?_; rintro e w5 ⟨rfl, hc5, hg5⟩)
          | (go_at_call 82; refine (HWW.out _ hc5).mono ?_; rintro e w4 ⟨rfl, hc4, hg4⟩))
        go_ret2
        exact ⟨.inr ⟨by rw [HR.out.1]; exact HNW.out, by rw [HR.out.1]; rfl⟩, by rw [HR.out.2]; exact hc4, grow_trans (grow_ext (((Ext.refl w).alloc _).trans hx2) _) (grow_trans hg5 hg4)⟩
    · have HR : Hid (noteE M a T = eraseE M ((1 - a : Nat) : Int) ∧ noteM M a T = eraseM M ((1 - a : Nat) : Int)) := by
        unfold noteE noteM Hid; rw [HE0.out, HM0.out, if_pos he, if_pos he]; exact ⟨rfl, rfl⟩
      have HC : Hid (ChipAt w cb M) := h
      have HEE : Hid (∀ W, ChipAt W cb M → Calls Tryz.prog 24 #[.pointer (some ⟨cb, 0, none⟩), .int .i64 ((1 - a : Nat) : Int)] W fun e w' => e = .returned (.iface 39 (.int .i64 (eraseE M ((1 - a : Nat) : Int)))) ∧ ChipAt w' cb (eraseM M ((1 - a : Nat) : Int)) ∧ W.grownBy w' (some cb)) := fun W hc => by
        have := HE.out (1 - a) W hc; unfold errV at this; rw [if_neg he] at this; exact this
      have HNW : Hid (¬ eraseE M ((1 - a : Nat) : Int) = 0) := he
      clear hfull h he
      generalize eraseE M ((1 - a : Nat) : Int) = f at *
      generalize eraseM M ((1 - a : Nat) : Int) = M1 at *
      generalize hA1 : 1 - a = a1 at *
      go_enter Tryz.func49, Tryz.ntmps49
      go_wp2_with (first
        | (go_at_call 80; refine (HB.out _).mono ?_; rintro e w2 ⟨rfl, hx2⟩)
        | (go_at_call 81; refine (HN.out _ (HC.out.ext (((Ext.refl w).alloc _).trans hx2))).mono ?_; rintro e w3 ⟨rfl, rfl⟩)
        | (go_at_call 24; refine (HEE.out _ (HC.out.ext (((Ext.refl w).alloc _).trans hx2))).mono ?_; rintro e w5 ⟨rfl, hc5, hg5⟩))
      go_ret2
      exact ⟨.inr ⟨by rw [HR.out.1]; exact HNW.out, by rw [HR.out.1]; rfl⟩, by rw [HR.out.2]; exact hc5, grow_trans (grow_ext (((Ext.refl w).alloc _).trans hx2) _) hg5⟩
  · have hfull' : ¬ ((M.pg a).length : Int) = 8 := by omega
    have HA : Hid (noteAt M a = a) := by unfold noteAt Hid; rw [if_neg hfull]
    have HE0 : Hid (noteE0 M a = 0) := by unfold noteE0 Hid; rw [if_neg hfull]
    have HM0 : Hid (noteM0 M a = M) := by unfold noteM0 Hid; rw [if_neg hfull]
    by_cases hw : writeE M (a : Int) T = 0
    · have HR : Hid (noteE M a T = 0 ∧ noteM M a T = writeM M (a : Int) T) := by
        unfold noteE noteM Hid; rw [HE0.out, HM0.out, HA.out, if_neg (by simp), if_neg (by simp)]; exact ⟨hw, rfl⟩
      have HWW : Hid (∀ W, ChipAt W cb M → Calls Tryz.prog 82 #[.pointer (some ⟨cb, 0, none⟩), .int .i64 (a : Int), .string T] W fun e w' => e = .returned .nilIface ∧ ChipAt w' cb (writeM M (a : Int) T) ∧ W.grownBy w' (some cb)) := fun W hc => by
        have := HW.out M a W hc hub
        rw [hw] at this; exact this
      have HC : Hid (ChipAt w cb M) := h
      clear hw hfull h
      go_enter Tryz.func49, Tryz.ntmps49
      go_wp2_with (first
        | (go_at_call 80; refine (HB.out _).mono ?_; rintro e w2 ⟨rfl, hx2⟩)
        | (go_at_call 81; refine (HN.out _ (HC.out.ext (((Ext.refl w).alloc _).trans hx2))).mono ?_; rintro e w3 ⟨rfl, rfl⟩)
        | (go_at_call 82; refine (HWW.out _ (HC.out.ext (((Ext.refl w).alloc _).trans hx2))).mono ?_; rintro e w4 ⟨rfl, hc4, hg4⟩))
      go_ret2
      exact ⟨.inl ⟨HR.out.1, by rw [HA.out]; rfl⟩, by rw [HR.out.2]; exact hc4, grow_trans (grow_ext (((Ext.refl w).alloc _).trans hx2) _) hg4⟩
    · have HR : Hid (noteE M a T = writeE M (a : Int) T ∧ noteM M a T = writeM M (a : Int) T) := by
        unfold noteE noteM Hid; rw [HE0.out, HM0.out, HA.out, if_neg (by simp), if_neg (by simp)]; exact ⟨rfl, rfl⟩
      have HWW : Hid (∀ W, ChipAt W cb M → Calls Tryz.prog 82 #[.pointer (some ⟨cb, 0, none⟩), .int .i64 (a : Int), .string T] W fun e w' => e = .returned (.iface 39 (.int .i64 (writeE M (a : Int) T))) ∧ ChipAt w' cb (writeM M (a : Int) T) ∧ W.grownBy w' (some cb)) := fun W hc => by
        have := HW.out M a W hc hub
        unfold errV at this; rw [if_neg hw] at this; exact this
      have HC : Hid (ChipAt w cb M) := h
      have HNW : Hid (¬ writeE M (a : Int) T = 0) := hw
      clear hw hfull h
      generalize writeE M (a : Int) T = f at *
      go_enter Tryz.func49, Tryz.ntmps49
      go_wp2_with (first
        | (go_at_call 80; refine (HB.out _).mono ?_; rintro e w2 ⟨rfl, hx2⟩)
        | (go_at_call 81; refine (HN.out _ (HC.out.ext (((Ext.refl w).alloc _).trans hx2))).mono ?_; rintro e w3 ⟨rfl, rfl⟩)
        | (go_at_call 82; refine (HWW.out _ (HC.out.ext (((Ext.refl w).alloc _).trans hx2))).mono ?_; rintro e w4 ⟨rfl, hc4, hg4⟩))
      go_ret2
      exact ⟨.inr ⟨by rw [HR.out.1]; exact HNW.out, by rw [HR.out.1]; rfl⟩, by rw [HR.out.2]; exact hc4, grow_trans (grow_ext (((Ext.refl w).alloc _).trans hx2) _) hg4⟩
end Go.Proofs.YtkibgflbidkalaaGreatDoor

/- Manifests on a chip, in plain words: which one is the newest. -/
namespace Go.Proofs.YtkibgflbidkalaaGreatDoor
open Go.RowKit Go.WideShapes

theorem parse_pad {m : Man} (hf : manFault m = 0) (z : Nat) : parseB (encM m.ep m.lg m.nw m.od ++ List.replicate z 0) = some m := by
  obtain ⟨hE, hS⟩ := manF_zero hf
  obtain ⟨hr, hnd, _⟩ := scan_zero hS
  have h24 := nodup_le hr hnd
  have hG := hr m.lg (by simp)
  have hrn : ∀ x ∈ m.nw, 2 ≤ x ∧ x < 24 := fun x hx => hr x (by simp [hx])
  have hro : ∀ x ∈ m.od, 2 ≤ x ∧ x < 24 := fun x hx => hr x (by simp [hx])
  obtain ⟨ep, lg, nw, od⟩ := m
  dsimp only at *
  have hle : nw.length + od.length ≤ 23 := by simp at h24; omega
  obtain ⟨E, rfl⟩ := Int.eq_ofNat_of_zero_le (show 0 ≤ ep by omega)
  obtain ⟨G, rfl⟩ := Int.eq_ofNat_of_zero_le (show 0 ≤ lg by omega)
  have en : (UInt8.ofNat nw.length).toNat = nw.length := by simp; omega
  have eo : (UInt8.ofNat od.length).toNat = od.length := by simp; omega
  have x1 : ((byt ((E : Int) % 256)).toNat : Int) = (E : Int) % 256 := by
    have := byt_nat (E % 256) (by omega); simpa using this
  have x2 : ((byt ((E : Int) / 256 % 256)).toNat : Int) = (E : Int) / 256 % 256 := by
    have := byt_nat (E / 256 % 256) (by omega); simpa using this
  have x3 : ((byt ((E : Int) / 65536)).toNat : Int) = (E : Int) / 65536 := by
    have := byt_nat (E / 65536) (by omega); simpa using this
  have x4 := byt_nat G (by omega)
  have hlen : (encM (E : Int) (G : Int) nw od ++ List.replicate z 0).length = 7 + nw.length + od.length + z := by simp [encM]; omega
  have b0 : byteL (encM (E : Int) (G : Int) nw od ++ List.replicate z 0) 0 = 77 := rfl
  have b1 : byteL (encM (E : Int) (G : Int) nw od ++ List.replicate z 0) 1 = (byt ((E : Int) % 256)).toNat := rfl
  have b2 : byteL (encM (E : Int) (G : Int) nw od ++ List.replicate z 0) 2 = (byt ((E : Int) / 256 % 256)).toNat := rfl
  have b3 : byteL (encM (E : Int) (G : Int) nw od ++ List.replicate z 0) 3 = (byt ((E : Int) / 65536)).toNat := rfl
  have b4 : byteL (encM (E : Int) (G : Int) nw od ++ List.replicate z 0) 4 = (byt (G : Int)).toNat := rfl
  have b5 : byteL (encM (E : Int) (G : Int) nw od ++ List.replicate z 0) 5 = nw.length := en
  have b6 : byteL (encM (E : Int) (G : Int) nw od ++ List.replicate z 0) 6 = od.length := eo
  have d1 : ((encM (E : Int) (G : Int) nw od ++ List.replicate z 0).drop 7).take nw.length = nw.map byt := by
    rw [show nw.length = (nw.map byt).length by simp]; simp [encM, -List.length_map]
  have d2 : ((encM (E : Int) (G : Int) nw od ++ List.replicate z 0).drop (7 + nw.length)).take od.length = od.map byt := by
    rw [← List.drop_drop, show od.length = (od.map byt).length by simp, show nw.length = (nw.map byt).length by simp]; simp [encM, -List.length_map]
  have hraw : rawM (encM (E : Int) (G : Int) nw od ++ List.replicate z 0) = ⟨(E : Int), (G : Int), nw, od⟩ := by
    unfold rawM
    rw [b1, b2, b3, b4, b5, b6, d1, d2, x1, x2, x3, x4, numsOf_byt hrn, numsOf_byt hro, show (E : Int) % 256 + 256 * ((E : Int) / 256 % 256) + 65536 * ((E : Int) / 65536) = (E : Int) by omega]
  unfold parseB
  rw [hraw, if_pos ⟨by omega, b0, by omega, hf⟩]
theorem parse_padD {m : Man} (hf : manFault m = 0) : parseB (padD (manTxt m)) = some m := by
  have : padD (manTxt m) = encM m.ep m.lg m.nw m.od ++ List.replicate (64 - (manTxt m).size) 0 := rfl
  rw [this]; exact parse_pad hf _

def pgM (l : List Pg) (p : Nat) : Option Man := match l[p]? with
  | some (.whole d) => parseB d
  | _ => none
theorem pageM_pg (M : CM) (b p : Nat) : pageM M b p = pgM (M.pg b) p := rfl
theorem pgM_nil (p : Nat) : pgM [] p = none := rfl
theorem pgM_end (l : List Pg) (d : List UInt8) : pgM (l ++ [.whole d]) l.length = parseB d := by unfold pgM; simp
theorem pgM_snoc (l : List Pg) (x : Pg) (p : Nat) (m : Man) (h : pgM (l ++ [x]) p = some m) (hp : ¬ (p = l.length ∧ ∃ d, x = .whole d)) : pgM l p = some m := by
  rcases Nat.lt_trichotomy p l.length with h1 | h1 | h1
  · unfold pgM at h ⊢; rw [List.getElem?_append_left h1] at h; exact h
  · subst h1
    unfold pgM at h; simp at h
    cases x with
    | whole d => exact absurd ⟨rfl, d, rfl⟩ hp
    | torn => simp at h
  · unfold pgM at h; rw [List.getElem?_eq_none (by simp; omega)] at h; cases h
theorem pgM_lt {l : List Pg} {p : Nat} {m : Man} (h : pgM l p = some m) : p < l.length := by
  rcases Nat.lt_or_ge p l.length with h1 | h1
  · exact h1
  · unfold pgM at h; rw [List.getElem?_eq_none h1] at h; cases h
theorem pgM_app {l : List Pg} {x : Pg} {p : Nat} (h : p < l.length) : pgM (l ++ [x]) p = pgM l p := by
  unfold pgM; rw [List.getElem?_append_left h]
theorem pgM_torn8 (p : Nat) : pgM (List.replicate 8 .torn) p = none := by
  unfold pgM
  rcases Nat.lt_or_ge p 8 with h | h
  · rw [torn8 p h]
  · rw [List.getElem?_eq_none (by simpa using h)]

def epO (o : Option Man) : Int := match o with
  | none => 1
  | some m => m.ep
structure Nst (M : CM) (a : Nat) (o : Option Man) : Prop where
  le : a ≤ 1
  up : M.pend = none
  sound : ∀ b, b < 2 → M.wk b = false ∧ M.bd b = false
  len : ∀ b, b < 2 → (M.pg b).length ≤ 8
  new : ∃ p, pageM M a p = o ∧ ∀ b q m', b < 2 → ¬ (b = a ∧ q = p) → pageM M b q = some m' → m'.ep < epO o
theorem Nst.low {M : CM} {a : Nat} {o : Option Man} (h : Nst M a o) {e : Int} (h1 : 1 ≤ e) (h2 : ∀ m, o = some m → m.ep < e) : ∀ b q m', b < 2 → pageM M b q = some m' → m'.ep < e := by
  obtain ⟨p, hp, hl⟩ := h.new
  intro b q m' hb hq
  by_cases hc : b = a ∧ q = p
  · obtain ⟨rfl, rfl⟩ := hc
    rw [hp] at hq
    exact h2 m' hq
  · have := hl b q m' hb hc hq
    cases o with
    | none => simp only [epO] at this; omega
    | some m => have := h2 m rfl; simp only [epO] at *; omega
theorem Nst.keep {M M' : CM} {a : Nat} {o : Option Man} (h : Nst M a o) (hp : M'.pend = none) (h1 : M'.pg = M.pg) (h2 : M'.wk = M.wk) (h3 : M'.bd = M.bd) : Nst M' a o := by
  refine ⟨h.le, hp, by rw [h2, h3]; exact h.sound, by rw [h1]; exact h.len, ?_⟩
  obtain ⟨p, hp, hl⟩ := h.new
  refine ⟨p, by rw [pageM_pg, h1, ← pageM_pg]; exact hp, fun b q m' hb hn hq => hl b q m' hb hn (by rw [pageM_pg, ← h1, ← pageM_pg]; exact hq)⟩

structure Seen (M : CM) (b k : Nat) (o : Option (Man × Nat)) : Prop where
  low : ∀ b' p' m', (b' < b ∧ p' < 8 ∨ b' = b ∧ p' < k) → pageM M b' p' = some m' → m'.ep ≤ (oM o).ep
  is : ∀ m a, o = some (m, a) → ∃ p, (a < b ∧ p < 8 ∨ a = b ∧ p < k) ∧ pageM M a p = some m
theorem Seen.step {M : CM} {b k : Nat} {o : Option (Man × Nat)} (h : Seen M b k o) : Seen M b (k + 1) (better o b (pageM M b k)) := by
  cases hq : pageM M b k with
  | none =>
    refine ⟨fun b' p' m' hs hp => ?_, fun m a he => ?_⟩
    · by_cases hc : b' = b ∧ p' = k
      · rw [hc.1, hc.2, hq] at hp; cases hp
      · exact h.low b' p' m' (by omega) hp
    · obtain ⟨p, h1, h2⟩ := h.is m a he
      exact ⟨p, by omega, h2⟩
  | some m0 =>
    simp only [better]
    split
    · rename_i hlt
      refine ⟨fun b' p' m' hs hp => ?_, fun m a he => ?_⟩
      · show m'.ep ≤ m0.ep
        by_cases hc : b' = b ∧ p' = k
        · rw [hc.1, hc.2, hq] at hp; cases hp; omega
        · have := h.low b' p' m' (by omega) hp; omega
      · simp at he
        obtain ⟨rfl, rfl⟩ := he
        exact ⟨k, by omega, hq⟩
    · rename_i hge
      refine ⟨fun b' p' m' hs hp => ?_, fun m a he => ?_⟩
      · by_cases hc : b' = b ∧ p' = k
        · rw [hc.1, hc.2, hq] at hp; cases hp; omega
        · exact h.low b' p' m' (by omega) hp
      · obtain ⟨p, h1, h2⟩ := h.is m a he
        exact ⟨p, by omega, h2⟩
theorem Seen.scan {M : CM} {b : Nat} {o : Option (Man × Nat)} (h : Seen M b 0 o) : ∀ k, Seen M b k (scanB M b o k)
  | 0 => h
  | k + 1 => (Seen.scan h k).step
theorem seen_out (M : CM) : ∀ b, Seen M b 0 (outS M b)
  | 0 => ⟨fun b' p' m' h => by omega, fun m a h => by cases h⟩
  | b + 1 => by
    have := (seen_out M b).scan 8
    refine ⟨fun b' p' m' hs hp => this.low b' p' m' (by omega) hp, fun m a he => ?_⟩
    obtain ⟨p, h1, h2⟩ := this.is m a he
    exact ⟨p, by omega, h2⟩
theorem find_some {M : CM} {a : Nat} {m : Man} (h : Nst M a (some m)) : findS M = some (m, a) := by
  have hs := seen_out M 2
  obtain ⟨p, hp, hl⟩ := h.new
  have hf := pageM_fault hp
  have hep := (manFault_ep hf).1
  have hp8 : p < 8 := by
    have := pgM_lt hp; have := h.len a (by have := h.le; omega); omega
  have h1 := hs.low a p m (by have := h.le; omega) hp
  show outS M 2 = _
  cases ho : outS M 2 with
  | none => rw [ho] at h1; simp only [oM] at h1; omega
  | some n =>
    obtain ⟨m', a'⟩ := n
    rw [ho] at h1
    simp only [oM] at h1
    obtain ⟨p', h2, h3⟩ := hs.is m' a' ho
    by_cases hc : a' = a ∧ p' = p
    · rw [hc.1, hc.2, hp] at h3; cases h3; rw [hc.1]
    · have := hl a' p' m' (by omega) hc h3
      simp only [epO] at this; omega
theorem find_none {M : CM} {a : Nat} (h : Nst M a none) : findS M = none := by
  have hs := seen_out M 2
  show outS M 2 = none
  cases ho : outS M 2 with
  | none => rfl
  | some n =>
    obtain ⟨m', a'⟩ := n
    obtain ⟨p', h2, h3⟩ := hs.is m' a' ho
    have := h.low (e := 1) (by omega) (fun m hm => by cases hm) a' p' m' (by omega) h3
    have := (manFault_ep (pageM_fault h3)).1
    omega
end Go.Proofs.YtkibgflbidkalaaGreatDoor

/- Manifests on a chip, in plain words: one is noted behind the newest one. -/
namespace Go.Proofs.YtkibgflbidkalaaGreatDoor
open Go.RowKit Go.WideShapes

theorem nst_lay {M M' : CM} {b : Nat} {m : Man} (hb : b ≤ 1) (hf : manFault m = 0) (low : ∀ c q m', c < 2 → pageM M c q = some m' → m'.ep < m.ep) (snd : ∀ c, c < 2 → M.wk c = false ∧ M.bd c = false) (len : ∀ c, c < 2 → (M.pg c).length ≤ 8)
    (hl : (M.pg b).length < 8) (hp : M'.pend = none) (h1 : M'.pg = upd M.pg b (M.pg b ++ [.whole (padD (manTxt m))])) (h2 : M'.wk = M.wk) (h3 : M'.bd = M.bd) : Nst M' b (some m) := by
  refine ⟨hb, hp, by rw [h2, h3]; exact snd, fun c hc => ?_, (M.pg b).length, ?_, fun c q m' hc hn hq => ?_⟩
  · rw [h1]
    by_cases hcb : c = b
    · subst hcb; rw [upd_same]; simp; omega
    · rw [upd_other _ _ _ hcb]; exact len c hc
  · rw [pageM_pg, h1, upd_same, pgM_end]; exact parse_padD hf
  · show m'.ep < m.ep
    rw [pageM_pg, h1] at hq
    by_cases hcb : c = b
    · subst hcb
      rw [upd_same] at hq
      exact low c q m' hc (pgM_snoc _ _ _ _ hq (fun k => hn ⟨rfl, k.1⟩))
    · rw [upd_other _ _ _ hcb] at hq; exact low c q m' hc hq
theorem nst_torn {M M' : CM} {a b : Nat} {o : Option Man} (h : Nst M a o) (hl : (M.pg b).length < 8) (hp : M'.pend = none) (h1 : M'.pg = upd M.pg b (M.pg b ++ [.torn])) (h2 : M'.wk = M.wk) (h3 : M'.bd = M.bd) : Nst M' a o := by
  obtain ⟨p, hpo, hlow⟩ := h.new
  have key : ∀ c q m', pageM M' c q = some m' → pageM M c q = some m' := fun c q m' hq => by
    rw [pageM_pg, h1] at hq
    by_cases hcb : c = b
    · subst hcb; rw [upd_same] at hq; exact pgM_snoc _ _ _ _ hq (fun k => by obtain ⟨_, d, hd⟩ := k; cases hd)
    · rw [upd_other _ _ _ hcb] at hq; exact hq
  refine ⟨h.le, hp, by rw [h2, h3]; exact h.sound, fun c hc => ?_, p, ?_, fun c q m' hc hn hq => hlow c q m' hc hn (key c q m' hq)⟩
  · rw [h1]
    by_cases hcb : c = b
    · subst hcb; rw [upd_same]; simp; omega
    · rw [upd_other _ _ _ hcb]; exact h.len c hc
  · cases ho : o with
    | none =>
      cases hq : pageM M' a p with
      | none => rfl
      | some m' => have := key a p m' hq; rw [hpo, ho] at this; cases this
    | some m =>
      rw [ho] at hpo
      have hlt := pgM_lt hpo
      rw [pageM_pg, h1]
      by_cases hcb : a = b
      · subst hcb; rw [upd_same, pgM_app hlt]; exact hpo
      · rw [upd_other _ _ _ hcb]; exact hpo
theorem nst_wipe {M M' : CM} {a b : Nat} {o : Option Man} {l : List Pg} (h : Nst M a o) (hne : ¬ a = b) (hl : l.length ≤ 8) (hl0 : ∀ q, pgM l q = none) (hp : M'.pend = none) (h1 : M'.pg = upd M.pg b l) (h2 : M'.wk = M.wk) (h3 : M'.bd = M.bd) : Nst M' a o := by
  obtain ⟨p, hpo, hlow⟩ := h.new
  refine ⟨h.le, hp, by rw [h2, h3]; exact h.sound, fun c hc => ?_, p, ?_, fun c q m' hc hn hq => ?_⟩
  · rw [h1]
    by_cases hcb : c = b
    · subst hcb; rw [upd_same]; exact hl
    · rw [upd_other _ _ _ hcb]; exact h.len c hc
  · rw [pageM_pg, h1, upd_other _ _ _ hne]; exact hpo
  · rw [pageM_pg, h1] at hq
    by_cases hcb : c = b
    · subst hcb; rw [upd_same, hl0] at hq; cases hq
    · rw [upd_other _ _ _ hcb] at hq; exact hlow c q m' hc hn hq

theorem ready_nst {M : CM} {b : Nat} (hp : M.pend = none) (hb : b < 24) (hbd : M.bd b = false) : readyE M (b : Int) = 0 := by
  unfold readyE downB; rw [hp]; simp [hbd]; omega
theorem write_nst {M : CM} {b : Nat} {s : ByteArray} (hp : M.pend = none) (hb : b < 24) (hbd : M.bd b = false) (hwk : M.wk b = false) (hs : s.size ≤ 64) (hl : (M.pg b).length < 8) :
    writeE M (b : Int) s = (if M.left = 0 then 9 else 0) ∧ writeM M (b : Int) s = (if M.left = 0 then { M with pend := some (.write b (padD s)) } else layM (tickM M) b (.whole (padD s))) := by
  have hr := ready_nst hp hb hbd
  unfold writeE writeM
  have hr' : ¬ ¬ readyE M (b : Int) = 0 := by simp [hr]
  have hwk' : ¬ M.wk b = true := by simp [hwk]
  rw [Int.toNat_natCast]
  constructor
  · rw [if_neg hr', if_neg (by omega), if_neg (by omega), if_neg hwk']
  · rw [if_neg hr', if_neg (by omega), if_neg (by omega), if_neg hwk']
theorem erase_nst {M : CM} {b : Nat} (hp : M.pend = none) (hb : b < 24) (hbd : M.bd b = false) (hwk : M.wk b = false) :
    eraseE M (b : Int) = (if M.left = 0 then 9 else 0) ∧ eraseM M (b : Int) = (if M.left = 0 then { M with pend := some (.erase b) } else wipeM (tickM M) b []) := by
  have hr := ready_nst hp hb hbd
  unfold eraseE eraseM
  have hr' : ¬ ¬ readyE M (b : Int) = 0 := by simp [hr]
  have hwk' : ¬ M.wk b = true := by simp [hwk]
  rw [Int.toNat_natCast]
  constructor
  · rw [if_neg hr', if_neg hwk']
  · rw [if_neg hr', if_neg hwk']
theorem tick_wk (M : CM) : (tickM M).wk = M.wk := by unfold tickM; split <;> rfl
theorem tick_bd (M : CM) : (tickM M).bd = M.bd := by unfold tickM; split <;> rfl
theorem tick_neg {M : CM} (h : M.left < 0) : tickM M = M := by unfold tickM; rw [if_neg (by omega)]
theorem restart_some {M : CM} (how : Int) {p : Pend} (h : M.pend = some p) : restartM M how = { stepped M p how with left := -1, pend := none } := by unfold restartM; rw [h]

structure NoteOk (M : CM) (a : Nat) (o : Option Man) (m : Man) : Prop where
  end_ : (noteE M a (manTxt m) = 0 ∧ Nst (noteM M a (manTxt m)) (noteAt M a) (some m) ∧ (M.left < 0 → (noteM M a (manTxt m)).left = M.left)) ∨
    (noteE M a (manTxt m) = 9 ∧ ¬ M.left < 0 ∧ ∀ how, ∃ a', Nst (restartM (noteM M a (manTxt m)) how) a' o ∨ Nst (restartM (noteM M a (manTxt m)) how) a' (some m))
  wr : ∀ b, (noteM M a (manTxt m)).wr b ≤ M.wr b + 1
  left : ∀ n, M.left ≤ n → 0 ≤ n → (noteM M a (manTxt m)).left ≤ n
theorem upd_wr (f : Nat → Nat) (b c : Nat) : upd f b (f b + 1) c ≤ f c + 1 := by
  by_cases h : c = b
  · subst h; rw [upd_same]; exact Nat.le_refl _
  · rw [upd_other _ _ _ h]; omega
theorem note_nst {M : CM} {a : Nat} {o : Option Man} {m : Man} (h : Nst M a o) (hf : manFault m = 0) (hgt : ∀ m0, o = some m0 → m0.ep < m.ep) : NoteOk M a o m := by
  have hle := h.le
  have hT := (manTxt_le hf).1
  have hep := (manFault_ep hf).1
  have hlow := h.low hep hgt
  have hs := h.sound
  by_cases hfull : (M.pg a).length = 8
  · -- the other block is erased
    have h1 : noteAt M a = 1 - a := by unfold noteAt; rw [if_pos hfull]
    obtain ⟨e1, e2⟩ := erase_nst (b := 1 - a) h.up (by omega) (hs _ (by omega)).2 (hs _ (by omega)).1
    have hE0 : noteE0 M a = if M.left = 0 then 9 else 0 := by unfold noteE0; rw [if_pos hfull, e1]
    have hM0 : noteM0 M a = if M.left = 0 then { M with pend := some (.erase (1 - a)) } else wipeM (tickM M) (1 - a) [] := by unfold noteM0; rw [if_pos hfull, e2]
    by_cases hl0 : M.left = 0
    · have hE : noteE M a (manTxt m) = 9 := by unfold noteE; rw [hE0, if_pos hl0]; rfl
      have hM : noteM M a (manTxt m) = { M with pend := some (.erase (1 - a)) } := by unfold noteM; rw [hE0, hM0, if_pos hl0, if_pos hl0]; rfl
      refine ⟨.inr ⟨hE, by omega, fun how => ⟨a, .inl ?_⟩⟩, fun b => by rw [hM]; show M.wr b ≤ M.wr b + 1; omega, fun n hn _ => by rw [hM]; exact hn⟩
      rw [hM, restart_some how rfl]
      unfold stepped
      split
      · exact nst_wipe h (b := 1 - a) (l := []) (by omega) (by simp) pgM_nil rfl rfl rfl rfl
      · split
        · exact nst_wipe h (b := 1 - a) (l := List.replicate 8 .torn) (by omega) (by simp) pgM_torn8 rfl rfl rfl rfl
        · exact h.keep rfl rfl rfl rfl
    · obtain ⟨M1, hM1⟩ : ∃ M1, M1 = wipeM (tickM M) (1 - a) [] := ⟨_, rfl⟩
      have hpg1 : M1.pg = upd M.pg (1 - a) [] := by rw [hM1]; simp [wipeM, tick_pg]
      have hwk1 : M1.wk = M.wk := by rw [hM1]; simp [wipeM, tick_wk]
      have hbd1 : M1.bd = M.bd := by rw [hM1]; simp [wipeM, tick_bd]
      have hpn1 : M1.pend = none := by rw [hM1]; simp [wipeM, tick_pend, h.up]
      have hwr1 : ∀ b, M1.wr b ≤ M.wr b + 1 := fun b => by rw [hM1]; simp only [wipeM, tick_wr]; exact upd_wr M.wr (1 - a) b
      have hlf1 : ∀ n, M.left ≤ n → 0 ≤ n → M1.left ≤ n := fun n h0 h1 => by rw [hM1]; have := tick_left M; show (tickM M).left ≤ n; omega
      have hN1 : Nst M1 a o := nst_wipe h (b := 1 - a) (l := []) (by omega) (by simp) pgM_nil hpn1 hpg1 hwk1 hbd1
      have hlen1 : (M1.pg (1 - a)).length < 8 := by rw [hpg1, upd_same]; simp
      have hs1 := hN1.sound
      obtain ⟨w1, w2⟩ := write_nst (M := M1) (b := 1 - a) (s := manTxt m) hpn1 (by omega) (hs1 _ (by omega)).2 (hs1 _ (by omega)).1 (by omega) hlen1
      have hE : noteE M a (manTxt m) = if M1.left = 0 then 9 else 0 := by unfold noteE; rw [hE0, hM0, if_neg hl0, if_neg hl0, if_neg (by simp), h1, ← hM1, w1]
      have hM : noteM M a (manTxt m) = if M1.left = 0 then { M1 with pend := some (.write (1 - a) (padD (manTxt m))) } else layM (tickM M1) (1 - a) (.whole (padD (manTxt m))) := by
        unfold noteM; rw [hE0, hM0, if_neg hl0, if_neg hl0, if_neg (by simp), h1, ← hM1, w2]
      have hlow1 := hN1.low hep hgt
      by_cases hl1 : M1.left = 0
      · rw [if_pos hl1] at hE hM
        refine ⟨.inr ⟨hE, fun hneg => ?_, fun how => ?_⟩, fun b => by rw [hM]; exact hwr1 b, fun n h0 h1 => by rw [hM]; exact hlf1 n h0 h1⟩
        · rw [hM1] at hl1; have := tick_neg hneg; simp only [wipeM, this] at hl1; omega
        rw [hM, restart_some how rfl]
        unfold stepped
        split
        · exact ⟨1 - a, .inr (nst_lay (M := M1) (by omega) hf hlow1 hs1 hN1.len hlen1 rfl rfl rfl rfl)⟩
        · split
          · exact ⟨a, .inl (nst_torn hN1 hlen1 rfl rfl rfl rfl)⟩
          · exact ⟨a, .inl (hN1.keep rfl rfl rfl rfl)⟩
      · rw [if_neg hl1] at hE hM
        refine ⟨.inl ⟨hE, ?_, fun hneg => ?_⟩, fun b => by rw [hM]; simp only [layM, tick_wr]; exact hwr1 b, fun n h0 h1 => by rw [hM]; have := tick_left M1; have := hlf1 n h0 h1; show (tickM M1).left ≤ n; omega⟩
        · rw [h1, hM]
          exact nst_lay (M := M1) (by omega) hf hlow1 hs1 hN1.len hlen1 (by simp [layM, tick_pend, hpn1]) (by simp [layM, tick_pg]) (by simp [layM, tick_wk]) (by simp [layM, tick_bd])
        · have hm1 : M1.left = M.left := by rw [hM1, tick_neg hneg]; rfl
          rw [hM]; show (tickM M1).left = M.left
          rw [tick_neg (by omega), hm1]
  · have hlen : (M.pg a).length < 8 := by have := h.len a (by omega); omega
    have h1 : noteAt M a = a := by unfold noteAt; rw [if_neg hfull]
    have hE0 : noteE0 M a = 0 := by unfold noteE0; rw [if_neg hfull]
    have hM0 : noteM0 M a = M := by unfold noteM0; rw [if_neg hfull]
    obtain ⟨w1, w2⟩ := write_nst (M := M) (b := a) (s := manTxt m) h.up (by omega) (hs _ (by omega)).2 (hs _ (by omega)).1 (by omega) hlen
    have hE : noteE M a (manTxt m) = if M.left = 0 then 9 else 0 := by unfold noteE; rw [hE0, hM0, if_neg (by simp), h1, w1]
    have hM : noteM M a (manTxt m) = if M.left = 0 then { M with pend := some (.write a (padD (manTxt m))) } else layM (tickM M) a (.whole (padD (manTxt m))) := by
      unfold noteM; rw [hE0, hM0, if_neg (by simp), h1, w2]
    by_cases hl0 : M.left = 0
    · rw [if_pos hl0] at hE hM
      refine ⟨.inr ⟨hE, by omega, fun how => ?_⟩, fun b => by rw [hM]; show M.wr b ≤ M.wr b + 1; omega, fun n hn _ => by rw [hM]; exact hn⟩
      rw [hM, restart_some how rfl]
      unfold stepped
      split
      · exact ⟨a, .inr (nst_lay (M := M) hle hf hlow hs h.len hlen rfl rfl rfl rfl)⟩
      · split
        · exact ⟨a, .inl (nst_torn h hlen rfl rfl rfl rfl)⟩
        · exact ⟨a, .inl (h.keep rfl rfl rfl rfl)⟩
    · rw [if_neg hl0] at hE hM
      refine ⟨.inl ⟨hE, ?_, fun hneg => by rw [hM]; show (tickM M).left = M.left; rw [tick_neg hneg]⟩, fun b => by rw [hM]; simp only [layM, tick_wr]; omega, fun n h0 h1 => by rw [hM]; have := tick_left M; show (tickM M).left ≤ n; omega⟩
      rw [h1, hM]
      exact nst_lay (M := M) hle hf hlow hs h.len hlen (by simp [layM, tick_pend, h.up]) (by simp [layM, tick_pg]) (by simp [layM, tick_wk]) (by simp [layM, tick_bd])
theorem restart_wr (M : CM) (how : Int) (b : Nat) : (restartM M how).wr b ≤ M.wr b + 1 := by
  unfold restartM
  cases M.pend with
  | none => show M.wr b ≤ _; omega
  | some p =>
    show (stepped M p how).wr b ≤ _
    unfold stepped
    cases p with
    | write c d => split <;> (try split) <;> (show M.wr b ≤ _; omega)
    | erase c =>
      split
      · exact upd_wr M.wr c b
      · split
        · exact upd_wr M.wr c b
        · omega
theorem restart_left (M : CM) (how : Int) : (restartM M how).left = -1 := by
  unfold restartM; split <;> rfl
theorem new_nst : Nst newM 0 none := ⟨by omega, rfl, fun _ _ => ⟨rfl, rfl⟩, fun _ _ => by simp [newM], 0, rfl, fun b q m' _ _ h => by cases h⟩
end Go.Proofs.YtkibgflbidkalaaGreatDoor
