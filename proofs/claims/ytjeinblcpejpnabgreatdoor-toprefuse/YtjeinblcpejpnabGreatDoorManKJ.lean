/- ManJ ManK. -/
import Derived.Test.YtjeinblcpejpnabGreatDoorManIJ

/- Manifests on a chip: Find. -/
namespace Go.Proofs.YtjeinblcpejpnabGreatDoor
open Go.RowKit Go.WideShapes
attribute [local go_sem ↓] Go.wp_at_zero Go.wp_at_succ

/-- The newest one so far, and where it is. -/
def oM (o : Option (Man × Nat)) : Man := match o with
  | none => ⟨0, 0, [], []⟩
  | some n => n.1
def oA (o : Option (Man × Nat)) : Nat := match o with
  | none => 0
  | some n => n.2
def better (o : Option (Man × Nat)) (b : Nat) (q : Option Man) : Option (Man × Nat) := match q with
  | none => o
  | some m => if (oM o).ep < m.ep then some (m, b) else o
def scanB (M : CM) (b : Nat) (o : Option (Man × Nat)) : Nat → Option (Man × Nat)
  | 0 => o
  | k + 1 => better (scanB M b o k) b (pageM M b k)
def outS (M : CM) : Nat → Option (Man × Nat)
  | 0 => none
  | b + 1 => scanB M b (outS M b) 8
/-- What is found. -/
def findS (M : CM) : Option (Man × Nat) := outS M 2

theorem parseB_ep {l : List UInt8} {m : Man} (h : parseB l = some m) : manFault m = 0 := by
  unfold parseB at h
  split at h
  · rename_i hc; simp at h; subst h; exact hc.2.2.2
  · cases h
theorem manFault_ep {m : Man} (h : manFault m = 0) : 1 ≤ m.ep ∧ m.ep ≤ 100000 := (manF_zero h).1
theorem pageM_fault {M : CM} {b p : Nat} {m : Man} (h : pageM M b p = some m) : manFault m = 0 := by
  unfold pageM at h
  split at h
  · exact parseB_ep h
  · cases h

theorem better_fault {o : Option (Man × Nat)} {b : Nat} {q : Option Man} (h : ∀ m a, o = some (m, a) → manFault m = 0) (hq : ∀ m, q = some m → manFault m = 0) : ∀ m a, better o b q = some (m, a) → manFault m = 0 := by
  intro m a he
  cases q with
  | none => exact h m a he
  | some m' =>
    simp only [better] at he
    split at he
    · simp at he; rw [← he.1]; exact hq m' rfl
    · exact h m a he
theorem scanB_fault {M : CM} {b : Nat} {o : Option (Man × Nat)} (h : ∀ m a, o = some (m, a) → manFault m = 0) : ∀ k m a, scanB M b o k = some (m, a) → manFault m = 0
  | 0 => h
  | k + 1 => better_fault (scanB_fault h k) (fun _ hq => pageM_fault hq)
theorem outS_fault {M : CM} : ∀ b m a, outS M b = some (m, a) → manFault m = 0
  | 0 => fun m a h => by cases h
  | b + 1 => scanB_fault (outS_fault b) 8
/-- The two variables of Find: its answer's, and the newest one's. -/
structure FndAt (w wr : World) (o : Option (Man × Nat)) : Prop where
  res : Blk wr w.heap.size #[.int .i64 0, .int .i64 0, .slice none 0 0, .slice none 0 0] 65
  cur : ∃ a1 c1 a2 c2, Blk wr (w.heap.size + 1) #[.int .i64 (oM o).ep, .int .i64 (oM o).lg, .slice a1 (oM o).nw.length c1, .slice a2 (oM o).od.length c2] 65 ∧ NumsF wr (w.heap.size + 1) a1 (oM o).nw ∧ NumsF wr (w.heap.size + 1) a2 (oM o).od
  ext : Ext w wr
theorem FndAt.more {w wr wx : World} {o : Option (Man × Nat)} (h : FndAt w wr o) (hx : Ext wr wx) : FndAt w wx o := by
  obtain ⟨a1, c1, a2, c2, hb, h1, h2⟩ := h.cur
  exact ⟨Blk.ext hx h.res, ⟨a1, c1, a2, c2, Blk.ext hx hb, NumsF.ext hx h1, NumsF.ext hx h2⟩, h.ext.trans hx⟩
theorem readM_none (cb b p : Nat) (M : CM) (w : World) (h : ChipAt w cb M) (hd : downB M = false) (hb : b < 24) (hp : p < 8) (hq : pageM M b p = none) :
    Calls Tryz.prog 59 #[.pointer (some ⟨cb, 0, none⟩), .int .i64 (b : Int), .int .i64 (p : Int)] w fun e w' => ∃ n, e = .returned (.tuple #[.agg #[.int .i64 0, .int .i64 0, .slice none 0 0, .slice none 0 0], .iface 88 (.int .i64 n)]) ∧ Ext w w' := by
  refine (readM_any cb b p M w h hd hb hp).mono ?_
  rw [hq]
  rintro e w' (⟨m, v, h1, _⟩ | ⟨_, n, h1, h2⟩)
  · cases h1
  · exact ⟨n, h1, h2⟩
theorem readM_some (cb b p : Nat) (M : CM) (w : World) (m : Man) (h : ChipAt w cb M) (hd : downB M = false) (hb : b < 24) (hp : p < 8) (hq : pageM M b p = some m) :
    Calls Tryz.prog 59 #[.pointer (some ⟨cb, 0, none⟩), .int .i64 (b : Int), .int .i64 (p : Int)] w fun e w' => ∃ a1 c1 a2 c2, e = .returned (.tuple #[.agg #[.int .i64 m.ep, .int .i64 m.lg, .slice a1 m.nw.length c1, .slice a2 m.od.length c2], .nilIface]) ∧ NumsF w' w.heap.size a1 m.nw ∧ NumsF w' w.heap.size a2 m.od ∧ Ext w w' := by
  refine (readM_any cb b p M w h hd hb hp).mono ?_
  rw [hq]
  rintro e w' (⟨m', v, h1, rfl, ⟨a1, c1, a2, c2, rfl, k1, k2⟩, hx⟩ | ⟨h1, _⟩)
  · cases h1; exact ⟨a1, c1, a2, c2, rfl, k1, k2, hx⟩
  · cases h1
theorem Ext.four {a b : World} (h : Ext a b) {g : Nat} (hg : a.heap.size ≤ g) (x y z u : Value) : Ext a ((((b.setCell ⟨g, 0, none⟩ x).setCell ⟨g, 1, none⟩ y).setCell ⟨g, 2, none⟩ z).setCell ⟨g, 3, none⟩ u) :=
  (((h.set hg x).set hg y).set hg z).set hg u

set_option maxRecDepth 20000 in
set_option maxHeartbeats 4000000 in
theorem find_up (cb : Nat) (M : CM) (w : World) (h : ChipAt w cb M) (hd : downB M = false) :
    Calls Tryz.prog 35 #[.pointer (some ⟨cb, 0, none⟩)] w fun e w' => Ext w w' ∧
      ((∃ m a a1 c1 a2 c2, findS M = some (m, a) ∧ e = .returned (.tuple #[.agg #[.int .i64 m.ep, .int .i64 m.lg, .slice a1 m.nw.length c1, .slice a2 m.od.length c2], .int .i64 (a : Int), .nilIface]) ∧ NumsF w' w.heap.size a1 m.nw ∧ NumsF w' w.heap.size a2 m.od) ∨
       (findS M = none ∧ e = .returned (.tuple #[.agg #[.int .i64 0, .int .i64 0, .slice none 0 0, .slice none 0 0], .int .i64 0, .iface 88 (.int .i64 4)]))) := by
  have HD : Hid (∀ W, Ext w W → Calls Tryz.prog 48 #[.pointer (some ⟨cb, 0, none⟩)] W fun e w' => e = .returned (.bool false) ∧ w' = W) := fun W hx => by
    have := down_any cb M W (h.ext hx); rw [hd] at this; exact this
  go_enter Tryz.func35, Tryz.ntmps35
  go_wp2_with (go_at_call 48; refine (HD.out _ ((Ext.refl w).alloc _)).mono ?_; rintro e w1 ⟨rfl, rfl⟩)
  go_loopw [6, 15] (fun at' i wr => ∃ b : Nat, b ≤ 2 ∧ i = .int .i64 b ∧ at' = .int .i64 (oA (outS M b) : Int) ∧ FndAt w wr (outS M b)) (fun _ i _ => 2 - (intOf i).toNat)
  case atStart => exact ⟨0, by omega, rfl, rfl, ⟨(Blk.new _ _ _).alloc _, ⟨none, 0, none, 0, Blk.new' _ _ _ (by simp), NumsF.nil _ _, NumsF.nil _ _⟩, ((Ext.refl w).alloc _).alloc _⟩⟩
  case round =>
    obtain ⟨b, hb, rfl, rfl, hF⟩ := hrel
    by_cases hlt : b < 2
    · have hlt' : (b : Int) < 2 := by omega
      go_wp2_with fail
      go_loopw [6, 18] (fun at' i wx => ∃ p : Nat, p ≤ 8 ∧ i = .int .i64 p ∧ at' = .int .i64 (oA (scanB M b (outS M b) p) : Int) ∧ FndAt w wx (scanB M b (outS M b) p)) (fun _ i _ => 8 - (intOf i).toNat)
      case atStart => exact ⟨0, by omega, rfl, rfl, hF⟩
      case round =>
        clear hF
        obtain ⟨p, hp, rfl, rfl, hF⟩ := hrel
        by_cases hlp : p < 8
        · have hlp' : (p : Int) < 8 := by omega
          have HS : Hid (scanB M b (outS M b) (p + 1) = better (scanB M b (outS M b) p) b (pageM M b p)) := rfl
          have hcx := h.ext hF.ext
          generalize scanB M b (outS M b) p = o at *
          cases hq : pageM M b p with
          | none =>
            have HC : Hid (∀ W, Ext w W → Calls Tryz.prog 59 #[.pointer (some ⟨cb, 0, none⟩), .int .i64 (b : Int), .int .i64 (p : Int)] W fun e w' => ∃ n, e = .returned (.tuple #[.agg #[.int .i64 0, .int .i64 0, .slice none 0 0, .slice none 0 0], .iface 88 (.int .i64 n)]) ∧ Ext W w') := fun W hx => readM_none cb b p M W (h.ext hx) hd (by omega) hlp hq
            have HO : Hid (scanB M b (outS M b) (p + 1) = o) := by unfold Hid; rw [HS.out, hq]; rfl
            have HF : Hid (FndAt w wr o) := hF
            clear hq hF HS hcx
            go_wp2_with (go_at_call 59; refine (HC.out _ HF.out.ext).mono ?_; rintro e w2 ⟨n, rfl, hx2⟩)
            go_roundw
            case rel => exact ⟨p + 1, by omega, by go_num, by rw [HO.out], by rw [HO.out]; exact HF.out.more (hx2.alloc _)⟩
            case measure => simp [intOf]; omega
          | some m =>
            have HC : Hid (∀ W, Ext w W → Calls Tryz.prog 59 #[.pointer (some ⟨cb, 0, none⟩), .int .i64 (b : Int), .int .i64 (p : Int)] W fun e w' => ∃ a1 c1 a2 c2, e = .returned (.tuple #[.agg #[.int .i64 m.ep, .int .i64 m.lg, .slice a1 m.nw.length c1, .slice a2 m.od.length c2], .nilIface]) ∧ NumsF w' W.heap.size a1 m.nw ∧ NumsF w' W.heap.size a2 m.od ∧ Ext W w') := fun W hx => readM_some cb b p M W m (h.ext hx) hd (by omega) hlp hq
            have HF : Hid (FndAt w wr o) := hF
            have hsz := hF.res.lt
            obtain ⟨x1, k1, x2, k2, hB, N1, N2⟩ := hF.cur
            have hsz2 := hB.lt
            by_cases hep : (oM o).ep < m.ep
            · have HO : Hid (scanB M b (outS M b) (p + 1) = some (m, b)) := by unfold Hid; rw [HS.out, hq]; simp only [better]; rw [if_pos hep]
              have HB : Hid (Blk wr (w.heap.size + 1) #[.int .i64 (oM o).ep, .int .i64 (oM o).lg, .slice x1 (oM o).nw.length k1, .slice x2 (oM o).od.length k2] 65) := hB
              clear hq hF HS hcx hB N1 N2
              generalize (oM o).ep = ep at *
              generalize (oM o).lg = lg at *
              generalize (oM o).nw.length = nl at *
              generalize (oM o).od.length = ol at *
              go_wp2_with (go_at_call 59; refine (HC.out _ HF.out.ext).mono ?_; rintro e w2 ⟨a1, c1, a2, c2, rfl, q1, q2, hx2⟩; have B2 := Blk.ext hx2 HB.out; have e0 : _ = some (Value.int .i64 ep) := B2.cell 0; have e1 : _ = some (Value.int .i64 lg) := B2.cell 1; have e2 : _ = some (Value.slice x1 nl k1) := B2.cell 2; have e3 : _ = some (Value.slice x2 ol k2) := B2.cell 3; have f0 := B2.free 0; have f1 := B2.free 1; have f2 := B2.free 2; have f3 := B2.free 3; have hl2 := B2.lt; have hne2 : ¬ w.heap.size + 1 = w2.heap.size := Nat.ne_of_lt hl2)
              go_roundw
              case rel =>
                have hg : w.heap.size + 1 ≤ wr.heap.size := Nat.le_of_lt hsz2
                have n1 := ((((q1.mono hg).set 0 (.int .i64 m.ep)).set 1 (.int .i64 m.lg)).set 2 (.slice a1 m.nw.length c1)).set 3 (.slice a2 m.od.length c2)
                have n2 := ((((q2.mono hg).set 0 (.int .i64 m.ep)).set 1 (.int .i64 m.lg)).set 2 (.slice a1 m.nw.length c1)).set 3 (.slice a2 m.od.length c2)
                have hne : ∀ o : Nat, w.heap.size ≠ (⟨w.heap.size + 1, o, none⟩ : Addr).block := fun o => by show w.heap.size ≠ w.heap.size + 1; omega
                refine ⟨p + 1, by omega, by go_num, by rw [HO.out]; rfl, ?_⟩
                rw [HO.out]
                exact ⟨(((((Blk.ext hx2 HF.out.res).other (hne 0) _).other (hne 1) _).other (hne 2) _).other (hne 3) _).alloc _, ⟨a1, c1, a2, c2, B2.put4.alloc _, NumsF.ext ((Ext.refl _).alloc _) n1, NumsF.ext ((Ext.refl _).alloc _) n2⟩, (Ext.four (HF.out.ext.trans hx2) (Nat.le_succ _) _ _ _ _).alloc _⟩
              case measure => simp [intOf]; omega
            · have HO : Hid (scanB M b (outS M b) (p + 1) = o) := by unfold Hid; rw [HS.out, hq]; simp only [better]; rw [if_neg hep]
              have HB : Hid (Blk wr (w.heap.size + 1) #[.int .i64 (oM o).ep, .int .i64 (oM o).lg, .slice x1 (oM o).nw.length k1, .slice x2 (oM o).od.length k2] 65) := hB
              clear hq hF HS hcx hB N1 N2
              generalize (oM o).ep = ep at *
              generalize (oM o).lg = lg at *
              generalize (oM o).nw.length = nl at *
              generalize (oM o).od.length = ol at *
              go_wp2_with (go_at_call 59; refine (HC.out _ HF.out.ext).mono ?_; rintro e w2 ⟨a1, c1, a2, c2, rfl, q1, q2, hx2⟩; have B2 := Blk.ext hx2 HB.out; have e0 : _ = some (Value.int .i64 ep) := B2.cell 0; have e1 : _ = some (Value.int .i64 lg) := B2.cell 1; have e2 : _ = some (Value.slice x1 nl k1) := B2.cell 2; have e3 : _ = some (Value.slice x2 ol k2) := B2.cell 3; have f0 := B2.free 0; have f1 := B2.free 1; have f2 := B2.free 2; have f3 := B2.free 3; have hl2 := B2.lt; have hne2 : ¬ w.heap.size + 1 = w2.heap.size := Nat.ne_of_lt hl2)
              go_roundw
              case rel => exact ⟨p + 1, by omega, by go_num, by rw [HO.out], by rw [HO.out]; exact HF.out.more (hx2.alloc _)⟩
              case measure => simp [intOf]; omega
        · have hp8 : p = 8 := by omega
          subst hp8
          go_wp2_with fail
          go_roundw
          case rel => exact ⟨b + 1, by omega, by go_num, rfl, hF⟩
          case measure => simp [intOf]; omega
    · have hb2 : b = 2 := by omega
      subst hb2
      have HFS : Hid (findS M = outS M 2) := rfl
      have hft := outS_fault (M := M) 2
      generalize outS M 2 = o at *
      cases o with
      | none =>
        obtain ⟨x1, k1, x2, k2, hB, N1, N2⟩ := hF.cur
        have hR := hF.res
        have hx := hF.ext
        have e0 : _ = some (Value.int .i64 0) := hB.cell 0
        have r0 : _ = some (Value.int .i64 0) := hR.cell 0
        have r1 : _ = some (Value.int .i64 0) := hR.cell 1
        have r2 : _ = some (Value.slice none 0 0) := hR.cell 2
        have r3 : _ = some (Value.slice none 0 0) := hR.cell 3
        have f0 := hR.free 0
        have f1 := hR.free 1
        have f2 := hR.free 2
        have f3 := hR.free 3
        have hl1 := hB.lt
        have hl2 := hR.lt
        clear hF hB N1 N2 hft
        go_wp2_with fail
        refine bodyPost_ret (v := .tuple #[.agg #[.int .i64 0, .int .i64 0, .slice none 0 0, .slice none 0 0], .int .i64 0, .iface 88 (.int .i64 4)]) (by simp [results, go_sem, r0, r1, r2, r3]) rfl ⟨?_, .inr ⟨HFS.out, rfl⟩⟩
        exact Ext.four hx (Nat.le_refl _) _ _ _ _
      | some n =>
        obtain ⟨m, a⟩ := n
        have hep := (manFault_ep (hft m a rfl)).1
        obtain ⟨x1, k1, x2, k2, hB, N1, N2⟩ := hF.cur
        have hR := hF.res
        have hx := hF.ext
        have e0 : _ = some (Value.int .i64 m.ep) := hB.cell 0
        have e1 : _ = some (Value.int .i64 m.lg) := hB.cell 1
        have e2 : _ = some (Value.slice x1 m.nw.length k1) := hB.cell 2
        have e3 : _ = some (Value.slice x2 m.od.length k2) := hB.cell 3
        have r0 : _ = some (Value.int .i64 0) := hR.cell 0
        have r1 : _ = some (Value.int .i64 0) := hR.cell 1
        have r2 : _ = some (Value.slice none 0 0) := hR.cell 2
        have r3 : _ = some (Value.slice none 0 0) := hR.cell 3
        have f0 := hR.free 0
        have f1 := hR.free 1
        have f2 := hR.free 2
        have f3 := hR.free 3
        have hl1 := hB.lt
        have hl2 := hR.lt
        have hep' : ¬ m.ep = 0 := by omega
        have N1' : NumsF wr w.heap.size x1 m.nw := NumsF.mono N1 (Nat.le_succ _)
        have N2' : NumsF wr w.heap.size x2 m.od := NumsF.mono N2 (Nat.le_succ _)
        have n1 := (((N1'.set 0 (.int .i64 m.ep)).set 1 (.int .i64 m.lg)).set 2 (.slice x1 m.nw.length k1)).set 3 (.slice x2 m.od.length k2)
        have n2 := (((N2'.set 0 (.int .i64 m.ep)).set 1 (.int .i64 m.lg)).set 2 (.slice x1 m.nw.length k1)).set 3 (.slice x2 m.od.length k2)
        clear hF hB hft N1 N2 N1' N2'
        go_wp2_with fail
        refine bodyPost_ret (v := .tuple #[.agg #[.int .i64 m.ep, .int .i64 m.lg, .slice x1 m.nw.length k1, .slice x2 m.od.length k2], .int .i64 (a : Int), .nilIface]) (by simp [results, go_sem, r0, r1, r2, r3, oA]) rfl ⟨?_, .inl ⟨m, a, x1, k1, x2, k2, HFS.out, rfl, n1, n2⟩⟩
        exact Ext.four hx (Nat.le_refl _) _ _ _ _
end Go.Proofs.YtjeinblcpejpnabGreatDoor

/- Manifests on a chip: Note. -/
namespace Go.Proofs.YtjeinblcpejpnabGreatDoor
open Go.RowKit Go.WideShapes

def manTxt (m : Man) : ByteArray := txtM (encM m.ep m.lg m.nw m.od)
/-- In which block it is noted; what is erased for it; what becomes of it. -/
def noteAt (M : CM) (a : Nat) : Nat := if (M.pg a).length = 8 then 1 - a else a
def noteE0 (M : CM) (a : Nat) : Int := if (M.pg a).length = 8 then eraseE M ((1 - a : Nat) : Int) else 0
def noteM0 (M : CM) (a : Nat) : CM := if (M.pg a).length = 8 then eraseM M ((1 - a : Nat) : Int) else M
def noteE (M : CM) (a : Nat) (s : ByteArray) : Int := if ¬ noteE0 M a = 0 then noteE0 M a else writeE (noteM0 M a) (noteAt M a : Int) s
def noteM (M : CM) (a : Nat) (s : ByteArray) : CM := if ¬ noteE0 M a = 0 then noteM0 M a else writeM (noteM0 M a) (noteAt M a : Int) s

theorem tick_left (M : CM) : (tickM M).left ≤ M.left ∨ (tickM M).left ≤ 0 := by unfold tickM; split <;> simp <;> omega
theorem eraseM_left (M : CM) (b : Int) {n : Int} (h : M.left ≤ n) (hn : 0 ≤ n) : (eraseM M b).left ≤ n := by
  unfold eraseM
  split
  · exact h
  · split
    · exact h
    · split
      · exact h
      · have := tick_left M
        show (tickM M).left ≤ n
        omega
theorem encM_size0 (m : Man) : (manTxt m).size = 7 + m.nw.length + m.od.length := by
  have := encM_size m.ep m.lg m.nw m.od 0
  simpa [manTxt] using this
theorem manTxt_le {m : Man} (h : manFault m = 0) : (manTxt m).size ≤ 30 ∧ m.nw.length + m.od.length ≤ 23 := by
  obtain ⟨_, hS⟩ := manF_zero h
  obtain ⟨hr, hnd, _⟩ := scan_zero hS
  have h24 := nodup_le hr hnd
  rw [encM_size0]
  simp at h24; omega
theorem manBytes_man (m : Man) (no oo : Option Addr) (nc oc : Nat) (w : World) (hn : NumsAt w no m.nw) (ho : NumsAt w oo m.od) (hf : manFault m = 0) :
    Calls Tryz.prog 109 #[.agg #[.int .i64 m.ep, .int .i64 m.lg, .slice no m.nw.length nc, .slice oo m.od.length oc]] w fun e w' => e = .returned (.tuple #[.string (manTxt m), .nilIface]) ∧ Ext w w' := by
  obtain ⟨hE, hS⟩ := manF_zero hf
  obtain ⟨hr, _, _⟩ := scan_zero hS
  have hG := hr m.lg (by simp)
  have hle := (manTxt_le hf).2
  obtain ⟨ep, lg, nw, od⟩ := m
  dsimp only at *
  obtain ⟨E, rfl⟩ := Int.eq_ofNat_of_zero_le (show 0 ≤ ep by omega)
  obtain ⟨G, rfl⟩ := Int.eq_ofNat_of_zero_le (show 0 ≤ lg by omega)
  exact manBytes_ok E G no oo nc oc nw od w (by omega) hn ho hf

set_option maxRecDepth 20000 in
set_option maxHeartbeats 1000000 in
theorem note_bad (cb a : Nat) (m : Man) (no oo : Option Addr) (nc oc : Nat) (w : World) (hl : m.nw.length + m.od.length ≤ 100) (hn : NumsAt w no m.nw) (ho : NumsAt w oo m.od) (hf : ¬ manFault m = 0) :
    Calls Tryz.prog 87 #[.pointer (some ⟨cb, 0, none⟩), .int .i64 (a : Int), .agg #[.int .i64 m.ep, .int .i64 m.lg, .slice no m.nw.length nc, .slice oo m.od.length oc]] w fun e w' => e = .returned (.tuple #[.int .i64 0, .iface 88 (.int .i64 (manFault m))]) ∧ Ext w w' := by
  have HB : Hid (∀ o, Calls Tryz.prog 109 #[.agg #[.int .i64 m.ep, .int .i64 m.lg, .slice no m.nw.length nc, .slice oo m.od.length oc]] (w.alloc o) fun e w' => e = .returned (.tuple #[.string ⟨#[]⟩, .iface 88 (.int .i64 (manFault m))]) ∧ Ext (w.alloc o) w') := fun o => manBytes_bad m.ep m.lg no oo nc oc m.nw m.od (w.alloc o) hl (hn.ext ((Ext.refl w).alloc o)) (ho.ext ((Ext.refl w).alloc o)) hf
  clear hn ho hf hl
  generalize manFault m = f at *
  go_enter Tryz.func87, Tryz.ntmps87
  go_wp2_with (go_at_call 109; refine (HB.out _).mono ?_; rintro e w2 ⟨rfl, hx2⟩)
  go_ret2
  exact ⟨rfl, ((Ext.refl w).alloc _).trans hx2⟩

def NoteEnd (cb : Nat) (M : CM) (a : Nat) (s : ByteArray) (w : World) (e : Ending) (w' : World) : Prop :=
  (noteE M a s = 0 ∧ e = .returned (.tuple #[.int .i64 (noteAt M a : Int), .nilIface]) ∨ ¬ noteE M a s = 0 ∧ e = .returned (.tuple #[.int .i64 0, .iface 88 (.int .i64 (noteE M a s))])) ∧ ChipAt w' cb (noteM M a s) ∧ w.grownBy w' (some cb)

set_option maxRecDepth 20000 in
set_option maxHeartbeats 2000000 in
theorem note_any (cb a : Nat) (M : CM) (m : Man) (no oo : Option Addr) (nc oc : Nat) (w : World) (h : ChipAt w cb M) (ha : a ≤ 1) (hub : M.left ≤ 9223372036854775807) (hwr : WrOk M) (hn : NumsAt w no m.nw) (ho : NumsAt w oo m.od) (hf : manFault m = 0) :
    Calls Tryz.prog 87 #[.pointer (some ⟨cb, 0, none⟩), .int .i64 (a : Int), .agg #[.int .i64 m.ep, .int .i64 m.lg, .slice no m.nw.length nc, .slice oo m.od.length oc]] w (NoteEnd cb M a (manTxt m) w) := by
  have HB : Hid (∀ o, Calls Tryz.prog 109 #[.agg #[.int .i64 m.ep, .int .i64 m.lg, .slice no m.nw.length nc, .slice oo m.od.length oc]] (w.alloc o) fun e w' => e = .returned (.tuple #[.string (manTxt m), .nilIface]) ∧ Ext (w.alloc o) w') := fun o => manBytes_man m no oo nc oc (w.alloc o) (hn.ext ((Ext.refl w).alloc o)) (ho.ext ((Ext.refl w).alloc o)) hf
  have hT := (manTxt_le hf).1
  have HN : Hid (∀ W, ChipAt W cb M → Calls Tryz.prog 33 #[.pointer (some ⟨cb, 0, none⟩), .int .i64 (a : Int)] W fun e w' => e = .returned (.int .i64 ((M.pg a).length : Int)) ∧ w' = W) := fun W hc => next_any cb a M W (by omega) hc
  have HW : Hid (∀ (M' : CM) (b : Nat) W, ChipAt W cb M' → M'.left ≤ 9223372036854775807 → Calls Tryz.prog 45 #[.pointer (some ⟨cb, 0, none⟩), .int .i64 (b : Int), .string (manTxt m)] W fun e w' => e = .returned (errV (writeE M' (b : Int) (manTxt m))) ∧ ChipAt w' cb (writeM M' (b : Int) (manTxt m)) ∧ W.grownBy w' (some cb)) := fun M' b W hc hl => write_any cb (b : Int) (manTxt m) M' W hc hl (by omega)
  have HE : Hid (∀ (b : Nat) W, ChipAt W cb M → Calls Tryz.prog 66 #[.pointer (some ⟨cb, 0, none⟩), .int .i64 (b : Int)] W fun e w' => e = .returned (errV (eraseE M (b : Int))) ∧ ChipAt w' cb (eraseM M (b : Int)) ∧ W.grownBy w' (some cb)) := fun b W hc => erase_any cb (b : Int) M W hc hub hwr
  clear hn ho hf hT
  generalize manTxt m = T at *
  by_cases hfull : (M.pg a).length = 8
  · have hfull' : ((M.pg a).length : Int) = 8 := by omega
    have HA : Hid (noteAt M a = 1 - a) := by unfold noteAt Hid; rw [if_pos hfull]
    have HE0 : Hid (noteE0 M a = eraseE M ((1 - a : Nat) : Int)) := by unfold noteE0 Hid; rw [if_pos hfull]
    have HM0 : Hid (noteM0 M a = eraseM M ((1 - a : Nat) : Int)) := by unfold noteM0 Hid; rw [if_pos hfull]
    have h1a : (1 : Int) - (a : Int) = ((1 - a : Nat) : Int) := by omega
    by_cases he : eraseE M ((1 - a : Nat) : Int) = 0
    · have HEL : Hid ((eraseM M ((1 - a : Nat) : Int)).left ≤ 9223372036854775807) := eraseM_left M _ hub (by decide)
      have HEE : Hid (∀ W, ChipAt W cb M → Calls Tryz.prog 66 #[.pointer (some ⟨cb, 0, none⟩), .int .i64 ((1 - a : Nat) : Int)] W fun e w' => e = .returned (.nilIface) ∧ ChipAt w' cb (eraseM M ((1 - a : Nat) : Int)) ∧ W.grownBy w' (some cb)) := fun W hc => by
        have := HE.out (1 - a) W hc; rw [he] at this; exact this
      by_cases hw : writeE (eraseM M ((1 - a : Nat) : Int)) ((1 - a : Nat) : Int) T = 0
      · have HR : Hid (noteE M a T = 0 ∧ noteM M a T = writeM (eraseM M ((1 - a : Nat) : Int)) ((1 - a : Nat) : Int) T) := by
          unfold noteE noteM Hid; rw [HE0.out, HM0.out, HA.out, if_neg (by simp [he]), if_neg (by simp [he])]; exact ⟨hw, rfl⟩
        have HWW : Hid (∀ W, ChipAt W cb (eraseM M ((1 - a : Nat) : Int)) → Calls Tryz.prog 45 #[.pointer (some ⟨cb, 0, none⟩), .int .i64 ((1 - a : Nat) : Int), .string T] W fun e w' => e = .returned .nilIface ∧ ChipAt w' cb (writeM (eraseM M ((1 - a : Nat) : Int)) ((1 - a : Nat) : Int) T) ∧ W.grownBy w' (some cb)) := fun W hc => by
          have := HW.out (eraseM M ((1 - a : Nat) : Int)) (1 - a) W hc HEL.out; rw [hw] at this; exact this
        have HC : Hid (ChipAt w cb M) := h
        clear hw hfull h he
        generalize eraseM M ((1 - a : Nat) : Int) = M1 at *
        generalize hA1 : 1 - a = a1 at *
        go_enter Tryz.func87, Tryz.ntmps87
        go_wp2_with (first
          | (go_at_call 109; refine (HB.out _).mono ?_; rintro e w2 ⟨rfl, hx2⟩)
          | (go_at_call 33; refine (HN.out _ (HC.out.ext (((Ext.refl w).alloc _).trans hx2))).mono ?_; rintro e w3 ⟨rfl, rfl⟩)
          | (go_at_call 66; refine (HEE.out _ (HC.out.ext (((Ext.refl w).alloc _).trans hx2))).mono ?_; rintro e w5 ⟨rfl, hc5, hg5⟩)
          | (go_at_call 45; refine (HWW.out _ hc5).mono ?_; rintro e w4 ⟨rfl, hc4, hg4⟩))
        go_ret2
        exact ⟨.inl ⟨HR.out.1, by rw [HA.out]; rfl⟩, by rw [HR.out.2]; exact hc4, grow_trans (grow_ext (((Ext.refl w).alloc _).trans hx2) _) (grow_trans hg5 hg4)⟩
      · have HR : Hid (noteE M a T = writeE (eraseM M ((1 - a : Nat) : Int)) ((1 - a : Nat) : Int) T ∧ noteM M a T = writeM (eraseM M ((1 - a : Nat) : Int)) ((1 - a : Nat) : Int) T) := by
          unfold noteE noteM Hid; rw [HE0.out, HM0.out, HA.out, if_neg (by simp [he]), if_neg (by simp [he])]; exact ⟨rfl, rfl⟩
        have HWW : Hid (∀ W, ChipAt W cb (eraseM M ((1 - a : Nat) : Int)) → Calls Tryz.prog 45 #[.pointer (some ⟨cb, 0, none⟩), .int .i64 ((1 - a : Nat) : Int), .string T] W fun e w' => e = .returned (.iface 88 (.int .i64 (writeE (eraseM M ((1 - a : Nat) : Int)) ((1 - a : Nat) : Int) T))) ∧ ChipAt w' cb (writeM (eraseM M ((1 - a : Nat) : Int)) ((1 - a : Nat) : Int) T) ∧ W.grownBy w' (some cb)) := fun W hc => by
          have := HW.out (eraseM M ((1 - a : Nat) : Int)) (1 - a) W hc HEL.out; unfold errV at this; rw [if_neg hw] at this; exact this
        have HC : Hid (ChipAt w cb M) := h
        have HNW : Hid (¬ writeE (eraseM M ((1 - a : Nat) : Int)) ((1 - a : Nat) : Int) T = 0) := hw
        clear hw hfull h he
        generalize writeE (eraseM M ((1 - a : Nat) : Int)) ((1 - a : Nat) : Int) T = f at *
        generalize eraseM M ((1 - a : Nat) : Int) = M1 at *
        generalize hA1 : 1 - a = a1 at *
        go_enter Tryz.func87, Tryz.ntmps87
        go_wp2_with (first
          | (go_at_call 109; refine (HB.out _).mono ?_; rintro e w2 ⟨rfl, hx2⟩)
          | (go_at_call 33; refine (HN.out _ (HC.out.ext (((Ext.refl w).alloc _).trans hx2))).mono ?_; rintro e w3 ⟨rfl, rfl⟩)
          | (go_at_call 66; refine (HEE.out _ (HC.out.ext (((Ext.refl w).alloc _).trans hx2))).mono ?_; rintro e w5 ⟨rfl, hc5, hg5⟩)
          | (go_at_call 45; refine (HWW.out _ hc5).mono ?_; rintro e w4 ⟨rfl, hc4, hg4⟩))
        go_ret2
        exact ⟨.inr ⟨by rw [HR.out.1]; exact HNW.out, by rw [HR.out.1]; rfl⟩, by rw [HR.out.2]; exact hc4, grow_trans (grow_ext (((Ext.refl w).alloc _).trans hx2) _) (grow_trans hg5 hg4)⟩
    · have HR : Hid (noteE M a T = eraseE M ((1 - a : Nat) : Int) ∧ noteM M a T = eraseM M ((1 - a : Nat) : Int)) := by
        unfold noteE noteM Hid; rw [HE0.out, HM0.out, if_pos he, if_pos he]; exact ⟨rfl, rfl⟩
      have HC : Hid (ChipAt w cb M) := h
      have HEE : Hid (∀ W, ChipAt W cb M → Calls Tryz.prog 66 #[.pointer (some ⟨cb, 0, none⟩), .int .i64 ((1 - a : Nat) : Int)] W fun e w' => e = .returned (.iface 88 (.int .i64 (eraseE M ((1 - a : Nat) : Int)))) ∧ ChipAt w' cb (eraseM M ((1 - a : Nat) : Int)) ∧ W.grownBy w' (some cb)) := fun W hc => by
        have := HE.out (1 - a) W hc; unfold errV at this; rw [if_neg he] at this; exact this
      have HNW : Hid (¬ eraseE M ((1 - a : Nat) : Int) = 0) := he
      clear hfull h he
      generalize eraseE M ((1 - a : Nat) : Int) = f at *
      generalize eraseM M ((1 - a : Nat) : Int) = M1 at *
      generalize hA1 : 1 - a = a1 at *
      go_enter Tryz.func87, Tryz.ntmps87
      go_wp2_with (first
        | (go_at_call 109; refine (HB.out _).mono ?_; rintro e w2 ⟨rfl, hx2⟩)
        | (go_at_call 33; refine (HN.out _ (HC.out.ext (((Ext.refl w).alloc _).trans hx2))).mono ?_; rintro e w3 ⟨rfl, rfl⟩)
        | (go_at_call 66; refine (HEE.out _ (HC.out.ext (((Ext.refl w).alloc _).trans hx2))).mono ?_; rintro e w5 ⟨rfl, hc5, hg5⟩))
      go_ret2
      exact ⟨.inr ⟨by rw [HR.out.1]; exact HNW.out, by rw [HR.out.1]; rfl⟩, by rw [HR.out.2]; exact hc5, grow_trans (grow_ext (((Ext.refl w).alloc _).trans hx2) _) hg5⟩
  · have hfull' : ¬ ((M.pg a).length : Int) = 8 := by omega
    have HA : Hid (noteAt M a = a) := by unfold noteAt Hid; rw [if_neg hfull]
    have HE0 : Hid (noteE0 M a = 0) := by unfold noteE0 Hid; rw [if_neg hfull]
    have HM0 : Hid (noteM0 M a = M) := by unfold noteM0 Hid; rw [if_neg hfull]
    by_cases hw : writeE M (a : Int) T = 0
    · have HR : Hid (noteE M a T = 0 ∧ noteM M a T = writeM M (a : Int) T) := by
        unfold noteE noteM Hid; rw [HE0.out, HM0.out, HA.out, if_neg (by simp), if_neg (by simp)]; exact ⟨hw, rfl⟩
      have HWW : Hid (∀ W, ChipAt W cb M → Calls Tryz.prog 45 #[.pointer (some ⟨cb, 0, none⟩), .int .i64 (a : Int), .string T] W fun e w' => e = .returned .nilIface ∧ ChipAt w' cb (writeM M (a : Int) T) ∧ W.grownBy w' (some cb)) := fun W hc => by
        have := HW.out M a W hc hub
        rw [hw] at this; exact this
      have HC : Hid (ChipAt w cb M) := h
      clear hw hfull h
      go_enter Tryz.func87, Tryz.ntmps87
      go_wp2_with (first
        | (go_at_call 109; refine (HB.out _).mono ?_; rintro e w2 ⟨rfl, hx2⟩)
        | (go_at_call 33; refine (HN.out _ (HC.out.ext (((Ext.refl w).alloc _).trans hx2))).mono ?_; rintro e w3 ⟨rfl, rfl⟩)
        | (go_at_call 45; refine (HWW.out _ (HC.out.ext (((Ext.refl w).alloc _).trans hx2))).mono ?_; rintro e w4 ⟨rfl, hc4, hg4⟩))
      go_ret2
      exact ⟨.inl ⟨HR.out.1, by rw [HA.out]; rfl⟩, by rw [HR.out.2]; exact hc4, grow_trans (grow_ext (((Ext.refl w).alloc _).trans hx2) _) hg4⟩
    · have HR : Hid (noteE M a T = writeE M (a : Int) T ∧ noteM M a T = writeM M (a : Int) T) := by
        unfold noteE noteM Hid; rw [HE0.out, HM0.out, HA.out, if_neg (by simp), if_neg (by simp)]; exact ⟨rfl, rfl⟩
      have HWW : Hid (∀ W, ChipAt W cb M → Calls Tryz.prog 45 #[.pointer (some ⟨cb, 0, none⟩), .int .i64 (a : Int), .string T] W fun e w' => e = .returned (.iface 88 (.int .i64 (writeE M (a : Int) T))) ∧ ChipAt w' cb (writeM M (a : Int) T) ∧ W.grownBy w' (some cb)) := fun W hc => by
        have := HW.out M a W hc hub
        unfold errV at this; rw [if_neg hw] at this; exact this
      have HC : Hid (ChipAt w cb M) := h
      have HNW : Hid (¬ writeE M (a : Int) T = 0) := hw
      clear hw hfull h
      generalize writeE M (a : Int) T = f at *
      go_enter Tryz.func87, Tryz.ntmps87
      go_wp2_with (first
        | (go_at_call 109; refine (HB.out _).mono ?_; rintro e w2 ⟨rfl, hx2⟩)
        | (go_at_call 33; refine (HN.out _ (HC.out.ext (((Ext.refl w).alloc _).trans hx2))).mono ?_; rintro e w3 ⟨rfl, rfl⟩)
        | (go_at_call 45; refine (HWW.out _ (HC.out.ext (((Ext.refl w).alloc _).trans hx2))).mono ?_; rintro e w4 ⟨rfl, hc4, hg4⟩))
      go_ret2
      exact ⟨.inr ⟨by rw [HR.out.1]; exact HNW.out, by rw [HR.out.1]; rfl⟩, by rw [HR.out.2]; exact hc4, grow_trans (grow_ext (((Ext.refl w).alloc _).trans hx2) _) hg4⟩
end Go.Proofs.YtjeinblcpejpnabGreatDoor
