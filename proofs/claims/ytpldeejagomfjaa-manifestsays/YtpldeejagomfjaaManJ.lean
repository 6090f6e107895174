
/- Manifests on a chip: Find. -/
import Derived.Test.YtpldeejagomfjaaManI
namespace Go.Proofs.Ytpldeejagomfjaa
open Go.RowKit Go.WideShapes
attribute [local go_sem ↓] Go.wp_at_zero Go.wp_at_succ

/-- The newest one so far, and where it is. -/
def oM (o : Option (Man × Nat)) : Man := match o with
  | none => ⟨0, 0, [], []⟩
  | some n => n.1
def oA (o : Option (Man × Nat)) : Nat := match o with
  | none => 0
  | some n => n.2
def better (o : Option (Man × Nat)) (b : Nat) (q : Option Man) : Option (Man × Nat) := match q with
  | none => o
  | some m => if (oM o).ep < m.ep then some (m, b) else o
def scanB (M : CM) (b : Nat) (o : Option (Man × Nat)) : Nat → Option (Man × Nat)
  | 0 => o
  | k + 1 => better (scanB M b o k) b (pageM M b k)
def outS (M : CM) : Nat → Option (Man × Nat)
  | 0 => none
  | b + 1 => scanB M b (outS M b) 8
/-- What is found. -/
def findS (M : CM) : Option (Man × Nat) := outS M 2

theorem parseB_ep {l : List UInt8} {m : Man} (h : parseB l = some m) : manFault m = 0 := by
  unfold parseB at h
  split at h
  · rename_i hc; simp at h; subst h; exact hc.2.2.2
  · cases h
theorem manFault_ep {m : Man} (h : manFault m = 0) : 1 ≤ m.ep ∧ m.ep ≤ 100000 := (manF_zero h).1
theorem pageM_fault {M : CM} {b p : Nat} {m : Man} (h : pageM M b p = some m) : manFault m = 0 := by
  unfold pageM at h
  split at h
  · exact parseB_ep h
  · cases h

theorem better_fault {o : Option (Man × Nat)} {b : Nat} {q : Option Man} (h : ∀ m a, o = some (m, a) → manFault m = 0) (hq : ∀ m, q = some m → manFault m = 0) : ∀ m a, better o b q = some (m, a) → manFault m = 0 := by
  intro m a he
  cases q with
  | none => exact h m a he
  | some m' =>
    simp only [better] at he
    split at he
    · simp at he; rw [← he.1]; exact hq m' rfl
    · exact h m a he
theorem scanB_fault {M : CM} {b : Nat} {o : Option (Man × Nat)} (h : ∀ m a, o = some (m, a) → manFault m = 0) : ∀ k m a, scanB M b o k = some (m, a) → manFault m = 0
  | 0 => h
  | k + 1 => better_fault (scanB_fault h k) (fun _ hq => pageM_fault hq)
theorem outS_fault {M : CM} : ∀ b m a, outS M b = some (m, a) → manFault m = 0
  | 0 => fun m a h => by cases h
  | b + 1 => scanB_fault (outS_fault b) 8
/-- The two variables of Find: its answer's, and the newest one's. -/
structure FndAt (w wr : World) (o : Option (Man × Nat)) : Prop where
  res : Blk wr w.heap.size #[.int .i64 0, .int .i64 0, .slice none 0 0, .slice none 0 0] 100
  cur : ∃ a1 c1 a2 c2, Blk wr (w.heap.size + 1) #[.int .i64 (oM o).ep, .int .i64 (oM o).lg, .slice a1 (oM o).nw.length c1, .slice a2 (oM o).od.length c2] 100 ∧ NumsF wr (w.heap.size + 1) a1 (oM o).nw ∧ NumsF wr (w.heap.size + 1) a2 (oM o).od
  ext : Ext w wr
theorem FndAt.more {w wr wx : World} {o : Option (Man × Nat)} (h : FndAt w wr o) (hx : Ext wr wx) : FndAt w wx o := by
  obtain ⟨a1, c1, a2, c2, hb, h1, h2⟩ := h.cur
  exact ⟨Blk.ext hx h.res, ⟨a1, c1, a2, c2, Blk.ext hx hb, NumsF.ext hx h1, NumsF.ext hx h2⟩, h.ext.trans hx⟩
theorem readM_none (cb b p : Nat) (M : CM) (w : World) (h : ChipAt w cb M) (hd : downB M = false) (hb : b < 24) (hp : p < 8) (hq : pageM M b p = none) :
    Calls Try.prog 102 #[.pointer (some ⟨cb, 0, none⟩), .int .i64 (b : Int), .int .i64 (p : Int)] w fun e w' => ∃ n, e = .returned (.tuple #[.agg #[.int .i64 0, .int .i64 0, .slice none 0 0, .slice none 0 0], .iface 123 (.int .i64 n)]) ∧ Ext w w' := by
  refine (readM_any cb b p M w h hd hb hp).mono ?_
  rw [hq]
  rintro e w' (⟨m, v, h1, _⟩ | ⟨_, n, h1, h2⟩)
  · cases h1
  · exact ⟨n, h1, h2⟩
theorem readM_some (cb b p : Nat) (M : CM) (w : World) (m : Man) (h : ChipAt w cb M) (hd : downB M = false) (hb : b < 24) (hp : p < 8) (hq : pageM M b p = some m) :
    Calls Try.prog 102 #[.pointer (some ⟨cb, 0, none⟩), .int .i64 (b : Int), .int .i64 (p : Int)] w fun e w' => ∃ a1 c1 a2 c2, e = .returned (.tuple #[.agg #[.int .i64 m.ep, .int .i64 m.lg, .slice a1 m.nw.length c1, .slice a2 m.od.length c2], .nilIface]) ∧ NumsF w' w.heap.size a1 m.nw ∧ NumsF w' w.heap.size a2 m.od ∧ Ext w w' := by
  refine (readM_any cb b p M w h hd hb hp).mono ?_
  rw [hq]
  rintro e w' (⟨m', v, h1, rfl, ⟨a1, c1, a2, c2, rfl, k1, k2⟩, hx⟩ | ⟨h1, _⟩)
  · cases h1; exact ⟨a1, c1, a2, c2, rfl, k1, k2, hx⟩
  · cases h1
theorem Ext.four {a b : World} (h : Ext a b) {g : Nat} (hg : a.heap.size ≤ g) (x y z u : Value) : Ext a ((((b.setCell ⟨g, 0, none⟩ x).setCell ⟨g, 1, none⟩ y).setCell ⟨g, 2, none⟩ z).setCell ⟨g, 3, none⟩ u) :=
  (((h.set hg x).set hg y).set hg z).set hg u

set_option maxRecDepth 20000 in
set_option maxHeartbeats 4000000 in
theorem find_up (cb : Nat) (M : CM) (w : World) (h : ChipAt w cb M) (hd : downB M = false) :
    Calls Try.prog 77 #[.pointer (some ⟨cb, 0, none⟩)] w fun e w' => Ext w w' ∧
      ((∃ m a a1 c1 a2 c2, findS M = some (m, a) ∧ e = .returned (.tuple #[.agg #[.int .i64 m.ep, .int .i64 m.lg, .slice a1 m.nw.length c1, .slice a2 m.od.length c2], .int .i64 (a : Int), .nilIface]) ∧ NumsF w' w.heap.size a1 m.nw ∧ NumsF w' w.heap.size a2 m.od) ∨
       (findS M = none ∧ e = .returned (.tuple #[.agg #[.int .i64 0, .int .i64 0, .slice none 0 0, .slice none 0 0], .int .i64 0, .iface 123 (.int .i64 4)]))) := by
  have HD : Hid (∀ W, Ext w W → Calls Try.prog 48 #[.pointer (some ⟨cb, 0, none⟩)] W fun e w' => e = .returned (.bool false) ∧ w' = W) := fun W hx => by
    have := down_any cb M W (h.ext hx); rw [hd] at this; exact this
  go_enter Try.func77, Try.ntmps77
  go_wp2_with (go_at_call 48; refine (HD.out _ ((Ext.refl w).alloc _)).mono ?_; rintro e w1 ⟨rfl, rfl⟩)
  go_loopw [6, 15] (fun at' i wr => ∃ b : Nat, b ≤ 2 ∧ i = .int .i64 b ∧ at' = .int .i64 (oA (outS M b) : Int) ∧ FndAt w wr (outS M b)) (fun _ i _ => 2 - (intOf i).toNat)
  case atStart => exact ⟨0, by omega, rfl, rfl, ⟨(Blk.new _ _ _).alloc _, ⟨none, 0, none, 0, Blk.new' _ _ _ (by simp), NumsF.nil _ _, NumsF.nil _ _⟩, ((Ext.refl w).alloc _).alloc _⟩⟩
  case round =>
    obtain ⟨b, hb, rfl, rfl, hF⟩ := hrel
    by_cases hlt : b < 2
    · have hlt' : (b : Int) < 2 := by omega
      go_wp2_with fail
      go_loopw [6, 18] (fun at' i wx => ∃ p : Nat, p ≤ 8 ∧ i = .int .i64 p ∧ at' = .int .i64 (oA (scanB M b (outS M b) p) : Int) ∧ FndAt w wx (scanB M b (outS M b) p)) (fun _ i _ => 8 - (intOf i).toNat)
      case atStart => exact ⟨0, by omega, rfl, rfl, hF⟩
      case round =>
        clear hF
        obtain ⟨p, hp, rfl, rfl, hF⟩ := hrel
        by_cases hlp : p < 8
        · have hlp' : (p : Int) < 8 := by omega
          have HS : Hid (scanB M b (outS M b) (p + 1) = better (scanB M b (outS M b) p) b (pageM M b p)) := rfl
          have hcx := h.ext hF.ext
          generalize scanB M b (outS M b) p = o at *
          cases hq : pageM M b p with
          | none =>
            have HC : Hid (∀ W, Ext w W → Calls Try.prog 102 #[.pointer (some ⟨cb, 0, none⟩), .int .i64 (b : Int), .int .i64 (p : Int)] W fun e w' => ∃ n, e = .returned (.tuple #[.agg #[.int .i64 0, .int .i64 0, .slice none 0 0, .slice none 0 0], .iface 123 (.int .i64 n)]) ∧ Ext W w') := fun W hx => readM_none cb b p M W (h.ext hx) hd (by omega) hlp hq
            have HO : Hid (scanB M b (outS M b) (p + 1) = o) := by unfold Hid; rw [HS.out, hq]; rfl
            have HF : Hid (FndAt w wr o) := hF
            clear hq hF HS hcx
            go_wp2_with (go_at_call 102; refine (HC.out _ HF.out.ext).mono ?_; rintro e w2 ⟨n, rfl, hx2⟩)
            go_roundw
            case rel => exact ⟨p + 1, by omega, by go_num, by rw [HO.out], by rw [HO.out]; exact HF.out.more (hx2.alloc _)⟩
            case measure => simp [intOf]; omega
          | some m =>
            have HC : Hid (∀ W, Ext w W → Calls Try.prog 102 #[.pointer (some ⟨cb, 0, none⟩), .int .i64 (b : Int), .int .i64 (p : Int)] W fun e w' => ∃ a1 c1 a2 c2, e = .returned (.tuple #[.agg #[.int .i64 m.ep, .int .i64 m.lg, .slice a1 m.nw.length c1, .slice a2 m.od.length c2], .nilIface]) ∧ NumsF w' W.heap.size a1 m.nw ∧ NumsF w' W.heap.size a2 m.od ∧ Ext W w') := fun W hx => readM_some cb b p M W m (h.ext hx) hd (by omega) hlp hq
            have HF : Hid (FndAt w wr o) := hF
            have hsz := hF.res.lt
            obtain ⟨x1, k1, x2, k2, hB, N1, N2⟩ := hF.cur
            have hsz2 := hB.lt
            by_cases hep : (oM o).ep < m.ep
            · have HO : Hid (scanB M b (outS M b) (p + 1) = some (m, b)) := by unfold Hid; rw [HS.out, hq]; simp only [better]; rw [if_pos hep]
              have HB : Hid (Blk wr (w.heap.size + 1) #[.int .i64 (oM o).ep, .int .i64 (oM o).lg, .slice x1 (oM o).nw.length k1, .slice x2 (oM o).od.length k2] 100) := hB
              clear hq hF HS hcx hB N1 N2
              generalize (oM o).ep = ep at *
              generalize (oM o).lg = lg at *
              generalize (oM o).nw.length = nl at *
              generalize (oM o).od.length = ol at *
              go_wp2_with (go_at_call 102; refine (HC.out _ HF.out.ext).mono ?_; rintro e w2 ⟨a1, c1, a2, c2, rfl, q1, q2, hx2⟩; have B2 := Blk.ext hx2 HB.out; have e0 : _ = some (Value.int .i64 ep) := B2.cell 0; have e1 : _ = some (Value.int .i64 lg) := B2.cell 1; have e2 : _ = some (Value.slice x1 nl k1) := B2.cell 2; have e3 : _ = some (Value.slice x2 ol k2) := B2.cell 3; have f0 := B2.free 0; have f1 := B2.free 1; have f2 := B2.free 2; have f3 := B2.free 3; have hl2 := B2.lt; have hne2 : ¬ w.heap.size + 1 = w2.heap.size := Nat.ne_of_lt hl2)
              go_roundw
              case rel =>
                have hg : w.heap.size + 1 ≤ wr.heap.size := Nat.le_of_lt hsz2
                have n1 := ((((q1.mono hg).set 0 (.int .i64 m.ep)).set 1 (.int .i64 m.lg)).set 2 (.slice a1 m.nw.length c1)).set 3 (.slice a2 m.od.length c2)
                have n2 := ((((q2.mono hg).set 0 (.int .i64 m.ep)).set 1 (.int .i64 m.lg)).set 2 (.slice a1 m.nw.length c1)).set 3 (.slice a2 m.od.length c2)
                have hne : ∀ o : Nat, w.heap.size ≠ (⟨w.heap.size + 1, o, none⟩ : Addr).block := fun o => by show w.heap.size ≠ w.heap.size + 1; omega
                refine ⟨p + 1, by omega, by go_num, by rw [HO.out]; rfl, ?_⟩
                rw [HO.out]
                exact ⟨(((((Blk.ext hx2 HF.out.res).other (hne 0) _).other (hne 1) _).other (hne 2) _).other (hne 3) _).alloc _, ⟨a1, c1, a2, c2, B2.put4.alloc _, NumsF.ext ((Ext.refl _).alloc _) n1, NumsF.ext ((Ext.refl _).alloc _) n2⟩, (Ext.four (HF.out.ext.trans hx2) (Nat.le_succ _) _ _ _ _).alloc _⟩
              case measure => simp [intOf]; omega
            · have HO : Hid (scanB M b (outS M b) (p + 1) = o) := by unfold Hid; rw [HS.out, hq]; simp only [better]; rw [if_neg hep]
              have HB : Hid (Blk wr (w.heap.size + 1) #[.int .i64 (oM o).ep, .int .i64 (oM o).lg, .slice x1 (oM o).nw.length k1, .slice x2 (oM o).od.length k2] 100) := hB
              clear hq hF HS hcx hB N1 N2
              generalize (oM o).ep = ep at *
              generalize (oM o).lg = lg at *
              generalize (oM o).nw.length = nl at *
              generalize (oM o).od.length = ol at *
              go_wp2_with (go_at_call 102; refine (HC.out _ HF.out.ext).mono ?_; rintro e w2 ⟨a1, c1, a2, c2, rfl, q1, q2, hx2⟩; have B2 := Blk.ext hx2 HB.out; have e0 : _ = some (Value.int .i64 ep) := B2.cell 0; have e1 : _ = some (Value.int .i64 lg) := B2.cell 1; have e2 : _ = some (Value.slice x1 nl k1) := B2.cell 2; have e3 : _ = some (Value.slice x2 ol k2) := B2.cell 3; have f0 := B2.free 0; have f1 := B2.free 1; have f2 := B2.free 2; have f3 := B2.free 3; have hl2 := B2.lt; have hne2 : ¬ w.heap.size + 1 = w2.heap.size := Nat.ne_of_lt hl2)
              go_roundw
              case rel => exact ⟨p + 1, by omega, by go_num, by rw [HO.out], by rw [HO.out]; exact HF.out.more (hx2.alloc _)⟩
              case measure => simp [intOf]; omega
        · have hp8 : p = 8 := by omega
          subst hp8
          go_wp2_with fail
          go_roundw
          case rel => exact ⟨b + 1, by omega, by go_num, rfl, hF⟩
          case measure => simp [intOf]; omega
    · have hb2 : b = 2 := by omega
      subst hb2
      have HFS : Hid (findS M = outS M 2) := rfl
      have hft := outS_fault (M := M) 2
      generalize outS M 2 = o at *
      cases o with
      | none =>
        obtain ⟨x1, k1, x2, k2, hB, N1, N2⟩ := hF.cur
        have hR := hF.res
        have hx := hF.ext
        have e0 : _ = some (Value.int .i64 0) := hB.cell 0
        have r0 : _ = some (Value.int .i64 0) := hR.cell 0
        have r1 : _ = some (Value.int .i64 0) := hR.cell 1
        have r2 : _ = some (Value.slice none 0 0) := hR.cell 2
        have r3 : _ = some (Value.slice none 0 0) := hR.cell 3
        have f0 := hR.free 0
        have f1 := hR.free 1
        have f2 := hR.free 2
        have f3 := hR.free 3
        have hl1 := hB.lt
        have hl2 := hR.lt
        clear hF hB N1 N2 hft
        go_wp2_with fail
        refine bodyPost_ret (v := .tuple #[.agg #[.int .i64 0, .int .i64 0, .slice none 0 0, .slice none 0 0], .int .i64 0, .iface 123 (.int .i64 4)]) (by simp [results, go_sem, r0, r1, r2, r3]) rfl ⟨?_, .inr ⟨HFS.out, rfl⟩⟩
        exact Ext.four hx (Nat.le_refl _) _ _ _ _
      | some n =>
        obtain ⟨m, a⟩ := n
        have hep := (manFault_ep (hft m a rfl)).1
        obtain ⟨x1, k1, x2, k2, hB, N1, N2⟩ := hF.cur
        have hR := hF.res
        have hx := hF.ext
        have e0 : _ = some (Value.int .i64 m.ep) := hB.cell 0
        have e1 : _ = some (Value.int .i64 m.lg) := hB.cell 1
        have e2 : _ = some (Value.slice x1 m.nw.length k1) := hB.cell 2
        have e3 : _ = some (Value.slice x2 m.od.length k2) := hB.cell 3
        have r0 : _ = some (Value.int .i64 0) := hR.cell 0
        have r1 : _ = some (Value.int .i64 0) := hR.cell 1
        have r2 : _ = some (Value.slice none 0 0) := hR.cell 2
        have r3 : _ = some (Value.slice none 0 0) := hR.cell 3
        have f0 := hR.free 0
        have f1 := hR.free 1
        have f2 := hR.free 2
        have f3 := hR.free 3
        have hl1 := hB.lt
        have hl2 := hR.lt
        have hep' : ¬ m.ep = 0 := by omega
        have N1' : NumsF wr w.heap.size x1 m.nw := NumsF.mono N1 (Nat.le_succ _)
        have N2' : NumsF wr w.heap.size x2 m.od := NumsF.mono N2 (Nat.le_succ _)
        have n1 := (((N1'.set 0 (.int .i64 m.ep)).set 1 (.int .i64 m.lg)).set 2 (.slice x1 m.nw.length k1)).set 3 (.slice x2 m.od.length k2)
        have n2 := (((N2'.set 0 (.int .i64 m.ep)).set 1 (.int .i64 m.lg)).set 2 (.slice x1 m.nw.length k1)).set 3 (.slice x2 m.od.length k2)
        clear hF hB hft N1 N2 N1' N2'
        go_wp2_with fail
        refine bodyPost_ret (v := .tuple #[.agg #[.int .i64 m.ep, .int .i64 m.lg, .slice x1 m.nw.length k1, .slice x2 m.od.length k2], .int .i64 (a : Int), .nilIface]) (by simp [results, go_sem, r0, r1, r2, r3, oA]) rfl ⟨?_, .inl ⟨m, a, x1, k1, x2, k2, HFS.out, rfl, n1, n2⟩⟩
        exact Ext.four hx (Nat.le_refl _) _ _ _ _
end Go.Proofs.Ytpldeejagomfjaa
