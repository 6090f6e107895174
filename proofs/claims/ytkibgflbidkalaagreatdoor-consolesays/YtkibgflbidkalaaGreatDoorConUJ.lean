/- ValA SmnB SrvD SrvE ConR ConS ConT ConU. -/
import Derived.Test.YtkibgflbidkalaaGreatDoorTopKJ
import Derived.Test.YtkibgflbidkalaaGreatDoorSrvCJ
import Derived.Test.YtkibgflbidkalaaGreatDoorChpJJ
import Derived.Test.YtkibgflbidkalaaGreatDoorConQJ
import Derived.Test.YtkibgflbidkalaaGreatDoorConOJ
import Derived.Deep.MidRow
import Derived.Test.YtkibgflbidkalaaGreatDoorConPJ

/- What a store is asked for, in one form. -/
namespace Go.Proofs.YtkibgflbidkalaaGreatDoor
open Go.RowKit Go.WideShapes

end Go.Proofs.YtkibgflbidkalaaGreatDoor

/- The store's manifest, as it is handed out, in new memory. -/
namespace Go.Proofs.YtkibgflbidkalaaGreatDoor
open Go.RowKit Go.WideShapes

structure MnfN (w w' : World) (e : Ending) (m : Man) : Prop where
  ex : ∃ a1 c1 a2 c2, e = .returned (.agg #[.int .i64 m.ep, .int .i64 m.lg, .slice a1 m.nw.length c1, .slice a2 m.od.length c2]) ∧ NumsAt w' a1 m.nw ∧ NumsAt w' a2 m.od ∧ Ext w w' ∧ (∀ p, a1 = some p → w.heap.size ≤ p.block) ∧ ∀ p, a2 = some p → w.heap.size ≤ p.block
set_option maxRecDepth 20000 in
set_option maxHeartbeats 4000000 in
theorem manifestN_any (w : World) (S : List Nat) (sb cb : Nat) (M : CM) (m : Man) (a : Nat) (x : SMem) (h : StoAt w S sb cb M m a x) (hl1 : m.nw.length ≤ 100) (hl2 : m.od.length ≤ 100) :
    Calls Tryz.prog 148 #[.pointer (some ⟨sb, 0, none⟩)] w fun e w' => MnfN w w' e m := by
  have k1 := h.blk.cell 1
  have k2 := h.blk.cell 2
  have k3 := h.blk.cell 3
  have k4 := h.blk.cell 4
  simp [storeC] at k1 k2 k3 k4
  have hlt : sb < w.heap.size := h.blk.lt
  have C1 : Hid (∀ W, Ext w W → Calls Tryz.prog 170 #[.slice x.a1 m.nw.length x.c1] W fun e w' => ClnE W w' e m.nw) := fun W hx => cloneN_any x.a1 x.c1 m.nw W (by omega) (h.nw.ext hx)
  have C2 : Hid (∀ W, Ext w W → Calls Tryz.prog 170 #[.slice x.a2 m.od.length x.c2] W fun e w' => ClnE W w' e m.od) := fun W hx => cloneN_any x.a2 x.c2 m.od W (by omega) (h.od.ext hx)
  clear h hl1 hl2
  go_enter Tryz.func148, Tryz.ntmps148
  go_wp2
  have bx : Blk ((w.alloc (Obj.cells #[.int .i64 0, .int .i64 0, .slice none 0 0, .slice none 0 0] 73)).alloc (Obj.cells #[.int .i64 m.ep, .int .i64 m.lg, .slice x.a1 m.nw.length x.c1, .slice x.a2 m.od.length x.c2] 73)) (w.heap.size + 1) #[.int .i64 m.ep, .int .i64 m.lg, .slice x.a1 m.nw.length x.c1, .slice x.a2 m.od.length x.c2] 73 := Blk.new' _ _ _ (by simp)
  have br : Blk ((w.alloc (Obj.cells #[.int .i64 0, .int .i64 0, .slice none 0 0, .slice none 0 0] 73)).alloc (Obj.cells #[.int .i64 m.ep, .int .i64 m.lg, .slice x.a1 m.nw.length x.c1, .slice x.a2 m.od.length x.c2] 73)) w.heap.size #[.int .i64 0, .int .i64 0, .slice none 0 0, .slice none 0 0] 73 := (Blk.new _ _ _).alloc _
  have hxa : Ext w ((w.alloc (Obj.cells #[.int .i64 0, .int .i64 0, .slice none 0 0, .slice none 0 0] 73)).alloc (Obj.cells #[.int .i64 m.ep, .int .i64 m.lg, .slice x.a1 m.nw.length x.c1, .slice x.a2 m.od.length x.c2] 73)) := ((Ext.refl w).alloc _).alloc _
  generalize ((w.alloc (Obj.cells #[.int .i64 0, .int .i64 0, .slice none 0 0, .slice none 0 0] 73)).alloc (Obj.cells #[.int .i64 m.ep, .int .i64 m.lg, .slice x.a1 m.nw.length x.c1, .slice x.a2 m.od.length x.c2] 73)) = wa at *
  have y2 : wa.cell? ⟨w.heap.size + 1, 2, none⟩ = some (.slice x.a1 m.nw.length x.c1) := bx.cell 2
  have y3 : wa.cell? ⟨w.heap.size + 1, 3, none⟩ = some (.slice x.a2 m.od.length x.c2) := bx.cell 3
  have HBX : Hid (Blk wa (w.heap.size + 1) #[.int .i64 m.ep, .int .i64 m.lg, .slice x.a1 m.nw.length x.c1, .slice x.a2 m.od.length x.c2] 73 ∧ Blk wa w.heap.size #[.int .i64 0, .int .i64 0, .slice none 0 0, .slice none 0 0] 73) := ⟨bx, br⟩
  have HXA : Hid (Ext w wa) := hxa
  clear bx br hxa k1 k2 k3 k4
  go_region_with (first
    | (go_at_call_of 170 (Value.slice x.a1 m.nw.length x.c1); refine (C1.out _ ?_).mono ?_; exact HXA.out.trans (by repeat (first | assumption | exact Ext.refl _ | refine Ext.drew ?_ | refine Ext.drewN ?_ _ | refine Ext.alloc ?_ _)); rintro e w3 ⟨bo, bc, rfl, hN3, hx3, hg3⟩; have hX3 : Ext wa w3 := Ext.trans (by repeat (first | assumption | exact Ext.refl _ | refine Ext.drew ?_ | refine Ext.drewN ?_ _ | refine Ext.alloc ?_ _)) hx3; have y2 : w3.cell? ⟨w.heap.size + 1, 2, none⟩ = some (.slice x.a1 m.nw.length x.c1) := (HBX.out.1.ext hX3).cell 2; have y3 : w3.cell? ⟨w.heap.size + 1, 3, none⟩ = some (.slice x.a2 m.od.length x.c2) := (HBX.out.1.ext hX3).cell 3; have z2 := (HBX.out.1.ext hX3).free 2; have z3 := (HBX.out.1.ext hX3).free 3)
    | (go_at_call_of 170 (Value.slice x.a2 m.od.length x.c2); refine (C2.out _ ?_).mono ?_; exact HXA.out.trans (by repeat (first | assumption | exact Ext.refl _ | refine Ext.drew ?_ | refine Ext.drewN ?_ _ | refine Ext.alloc ?_ _)); rintro e w4 ⟨co, cc, rfl, hN4, hx4, hg4⟩; have hX4 : Ext wa w4 := Ext.trans (by repeat (first | assumption | exact Ext.refl _ | refine Ext.drew ?_ | refine Ext.drewN ?_ _ | refine Ext.alloc ?_ _)) hx4; have y2 : w4.cell? ⟨w.heap.size + 1, 2, none⟩ = some (.slice x.a1 m.nw.length x.c1) := (HBX.out.1.ext hX4).cell 2; have y3 : w4.cell? ⟨w.heap.size + 1, 3, none⟩ = some (.slice x.a2 m.od.length x.c2) := (HBX.out.1.ext hX4).cell 3; have z2 := (HBX.out.1.ext hX4).free 2; have z3 := (HBX.out.1.ext hX4).free 3))
  all_goals
    have hlt3 : wa.heap.size ≤ w3.heap.size := hX3.size
    have hlt4 : wa.heap.size ≤ w4.heap.size := hX4.size
    have hla : w.heap.size + 1 < wa.heap.size := HBX.out.1.lt
    have HGG : Hid ((∀ p, bo = some p → ¬ p.block = w.heap.size) ∧ ∀ p, co = some p → ¬ p.block = w.heap.size) := ⟨fun p e => by have := hg3 p e; (try simp at this); omega, fun p e => by have := hg4 p e; (try simp at this); omega⟩
    have HGN : Hid ((∀ p, bo = some p → w.heap.size ≤ p.block) ∧ ∀ p, co = some p → w.heap.size ≤ p.block) := ⟨fun p e => by have := hg3 p e; (try simp at this); omega, fun p e => by have := hg4 p e; (try simp at this); omega⟩
    have b5 := (((HBX.out.1.ext hX4).set 2 (.slice bo m.nw.length bc)).set 3 (.slice co m.od.length cc))
    have r5 := (((HBX.out.2.ext hX4).other (a := ⟨w.heap.size + 1, 2, none⟩) (by simp) (.slice bo m.nw.length bc)).other (a := ⟨w.heap.size + 1, 3, none⟩) (by simp) (.slice co m.od.length cc))
    have n1 := ((hN3.ext hx4).setX (p := ⟨w.heap.size + 1, 2, none⟩) (fun q e => by have := hg3 q e; (try simp at this); simp; omega) (.slice bo m.nw.length bc)).setX (p := ⟨w.heap.size + 1, 3, none⟩) (fun q e => by have := hg3 q e; (try simp at this); simp; omega) (.slice co m.od.length cc)
    have n2 := (hN4.setX (p := ⟨w.heap.size + 1, 2, none⟩) (fun q e => by have := hg4 q e; (try simp at this); simp; omega) (.slice bo m.nw.length bc)).setX (p := ⟨w.heap.size + 1, 3, none⟩) (fun q e => by have := hg4 q e; (try simp at this); simp; omega) (.slice co m.od.length cc)
    have hx5 := ((HXA.out.trans hX4).set (p := ⟨w.heap.size + 1, 2, none⟩) (by simp) (.slice bo m.nw.length bc)).set (p := ⟨w.heap.size + 1, 3, none⟩) (by simp) (.slice co m.od.length cc)
    simp only [Array.setIfInBounds] at b5
    clear hN3 hN4 hX3 hX4 hx3 hx4 hg3 hg4 C1 C2 HBX HXA
    generalize (w4.setCell ⟨w.heap.size + 1, 2, none⟩ (.slice bo m.nw.length bc)).setCell ⟨w.heap.size + 1, 3, none⟩ (.slice co m.od.length cc) = wf at *
    have u0 : wf.cell? ⟨w.heap.size + 1, 0, none⟩ = some (.int .i64 m.ep) := b5.cell 0
    have u1 : wf.cell? ⟨w.heap.size + 1, 1, none⟩ = some (.int .i64 m.lg) := b5.cell 1
    have u2 : wf.cell? ⟨w.heap.size + 1, 2, none⟩ = some (.slice bo m.nw.length bc) := b5.cell 2
    have u3 : wf.cell? ⟨w.heap.size + 1, 3, none⟩ = some (.slice co m.od.length cc) := b5.cell 3
    have v0 : wf.cell? ⟨w.heap.size, 0, none⟩ = some (.int .i64 0) := r5.cell 0
    have v1 : wf.cell? ⟨w.heap.size, 1, none⟩ = some (.int .i64 0) := r5.cell 1
    have v2 : wf.cell? ⟨w.heap.size, 2, none⟩ = some (.slice none 0 0) := r5.cell 2
    have v3 : wf.cell? ⟨w.heap.size, 3, none⟩ = some (.slice none 0 0) := r5.cell 3
    have z0 := r5.free 0
    have z1 := r5.free 1
    have z2 := r5.free 2
    have z3 := r5.free 3
    have HN : Hid (NumsAt wf bo m.nw ∧ NumsAt wf co m.od ∧ Ext w wf) := ⟨n1, n2, hx5⟩
    have HG : Hid ((∀ p, bo = some p → ¬ p.block = w.heap.size) ∧ ∀ p, co = some p → ¬ p.block = w.heap.size) := HGG.out
    clear b5 r5 n1 n2 hx5
    go_wp2
    refine bodyPost_ret (v := .agg #[.int .i64 m.ep, .int .i64 m.lg, .slice bo m.nw.length bc, .slice co m.od.length cc]) (by simp [results, go_sem, v0, v1, v2, v3]) rfl ?_
    refine ⟨bo, bc, co, cc, rfl, ?_, ?_, ?_, HGN.out.1, HGN.out.2⟩
    · exact ((((HN.out.1.setX (p := ⟨w.heap.size, 0, none⟩) HG.out.1 _).setX (p := ⟨w.heap.size, 1, none⟩) HG.out.1 _).setX (p := ⟨w.heap.size, 2, none⟩) HG.out.1 _).setX (p := ⟨w.heap.size, 3, none⟩) HG.out.1 _)
    · exact ((((HN.out.2.1.setX (p := ⟨w.heap.size, 0, none⟩) HG.out.2 _).setX (p := ⟨w.heap.size, 1, none⟩) HG.out.2 _).setX (p := ⟨w.heap.size, 2, none⟩) HG.out.2 _).setX (p := ⟨w.heap.size, 3, none⟩) HG.out.2 _)
    · exact ((((HN.out.2.2.set (p := ⟨w.heap.size, 0, none⟩) (Nat.le_refl _) _).set (p := ⟨w.heap.size, 1, none⟩) (Nat.le_refl _) _).set (p := ⟨w.heap.size, 2, none⟩) (Nat.le_refl _) _).set (p := ⟨w.heap.size, 3, none⟩) (Nat.le_refl _) _)
end Go.Proofs.YtkibgflbidkalaaGreatDoor

/- What blocks are used for: Of. -/
namespace Go.Proofs.YtkibgflbidkalaaGreatDoor
open Go.RowKit Go.WideShapes

theorem results_cellK {fn : Func} {p : Tmp} {ty : TypeId} (h : fn.results = #[.cell p ty]) (tmps : Array Value) (P : Program) (w : World) :
    (results fn tmps).run P w = ((asAddr (tmps.getD p undef)).run P w).andThen fun a w₁ => (loadVar ty a).run P w₁ := by
  simp only [results, h]
  simp [Sem.run_bind, Result.andThen]
def putK (g : Nat → Int) (l : List Int) (v : Int) : Nat → Int := fun i => if (i : Int) ∈ l then v else g i
theorem putK_snoc (g : Nat → Int) (l : List Int) (v : Int) (z : Nat) : updK (putK g l v) z v = putK g (l ++ [(z : Int)]) v := by
  funext i
  unfold updK putK
  by_cases h : i = z
  · subst h; simp
  · have : ¬ (i : Int) = (z : Int) := by omega
    simp [h, this]
theorem putK_one (g : Nat → Int) (v : Int) (z : Nat) : updK g z v = putK g [(z : Int)] v := by
  funext i
  unfold updK putK
  by_cases h : i = z
  · subst h; simp
  · have : ¬ (i : Int) = (z : Int) := by omega
    simp [h, this]
theorem putK_take (g : Nat → Int) (l : List Int) (v : Int) (j z : Nat) (h : l[j]? = some (z : Int)) : updK (putK g (l.take j) v) z v = putK g (l.take (j + 1)) v := by
  rw [putK_snoc, List.take_add_one, h]; rfl
def kindsF (m : Man) (f : Nat → Bool) : Nat → Int := putK (putK (putK (unK f) [m.lg] 2) m.nw 3) m.od 4
structure KndAt (w W : World) (mb : Nat) (cs : Array Value) (g : Nat → Int) (a1 a2 : Option Addr) (m : Man) : Prop where
  bm : Blk W mb cs 73
  bk : Blk W (w.heap.size + 1) (kC g) 159
  br : Blk W w.heap.size (kC (fun _ => 0)) 159
  n1 : NumsAt W a1 m.nw
  n2 : NumsAt W a2 m.od
  ext : Ext w W
theorem KndAt.put {w W : World} {mb : Nat} {cs : Array Value} {g : Nat → Int} {a1 a2 : Option Addr} {m : Man} (h : KndAt w W mb cs g a1 a2 m) (hp : (∀ p, a1 = some p → ¬ p.block = w.heap.size + 1) ∧ (∀ p, a2 = some p → ¬ p.block = w.heap.size + 1) ∧ ¬ mb = w.heap.size + 1) (z : Nat) (v : Int) :
    KndAt w (W.setCell ⟨w.heap.size + 1, z, none⟩ (.int .i64 v)) mb cs (updK g z v) a1 a2 m :=
  ⟨h.bm.other (a := ⟨w.heap.size + 1, z, none⟩) hp.2.2 _, by rw [← kC_set]; exact h.bk.set z _, h.br.other (by simp) _, h.n1.setX (p := ⟨w.heap.size + 1, z, none⟩) hp.1 _, h.n2.setX (p := ⟨w.heap.size + 1, z, none⟩) hp.2.1 _, h.ext.set (p := ⟨w.heap.size + 1, z, none⟩) (by simp) _⟩
theorem first_snoc (h : Nat → Int) (j : Nat) : updK (fun i => if i < j then h i else 0) j (h j) = fun i => if i < j + 1 then h i else 0 := by
  funext i
  unfold updK
  by_cases h1 : i = j
  · subst h1; simp
  · by_cases h2 : i < j
    · rw [if_neg h1]; dsimp only; rw [if_pos h2, if_pos (by omega)]
    · rw [if_neg h1]; dsimp only; rw [if_neg h2, if_neg (by omega)]
set_option maxRecDepth 20000 in
set_option maxHeartbeats 4000000 in
theorem survOf_any (n : Nat) (w : World) (S : List Nat) (sb cb : Nat) (M : CM) (m : Man) (a : Nat) (x : SMem) (N O : List Tb) (h : StoAt w S sb cb M m a x) (hI : Inv n M m a (x.ns.map Nd.e) N O) (hl1 : m.nw.length ≤ 100) (hl2 : m.od.length ≤ 100) :
    Calls Tryz.prog 108 #[.pointer (some ⟨cb, 0, none⟩), .pointer (some ⟨sb, 0, none⟩)] w fun e w' => e = .returned (.agg (kC (kindsF m M.bd))) ∧ Ext w w' := by
  have HU : Hid (∀ W (j : Nat), Ext w W → j < 24 → Calls Tryz.prog 147 #[.pointer (some ⟨cb, 0, none⟩), .int .i64 (j : Int)] W fun e w' => e = .returned (.int .i64 (unK M.bd j)) ∧ W = w') := fun W j hx hj => unused_any cb j M W hj (h.chip.ext hx)
  have HM : Hid (∀ W, Ext w W → Calls Tryz.prog 148 #[.pointer (some ⟨sb, 0, none⟩)] W fun e w' => MnfN W w' e m) := fun W hx => manifestN_any W S sb cb M m a x (h.ext hx) hl1 hl2
  have HN : Hid (∀ z ∈ m.lg :: (m.nw ++ m.od), 2 ≤ z ∧ z < 24) := (man_names hI.ok).1
  clear h hI
  generalize M.bd = f at *
  go_enter Tryz.func108, Tryz.ntmps108
  have HZ : Hid ((#[.int .i64 0, .int .i64 0, .int .i64 0, .int .i64 0, .int .i64 0, .int .i64 0, .int .i64 0, .int .i64 0, .int .i64 0, .int .i64 0, .int .i64 0, .int .i64 0, .int .i64 0, .int .i64 0, .int .i64 0, .int .i64 0, .int .i64 0, .int .i64 0, .int .i64 0, .int .i64 0, .int .i64 0, .int .i64 0, .int .i64 0, .int .i64 0] : Array Value) = kC (fun _ => 0)) := rfl
  go_upto_region 2 with fail
  rw [HZ.out]
  have HB0 : Hid (Blk ((w.alloc (.cells (kC (fun _ => 0)) 159)).alloc (.cells (kC (fun _ => 0)) 159)) (w.heap.size + 1) (kC (fun i => if i < 0 then unK f i else 0)) 159 ∧ Blk ((w.alloc (.cells (kC (fun _ => 0)) 159)).alloc (.cells (kC (fun _ => 0)) 159)) w.heap.size (kC (fun _ => 0)) 159 ∧ Ext w ((w.alloc (.cells (kC (fun _ => 0)) 159)).alloc (.cells (kC (fun _ => 0)) 159))) := ⟨Blk.new' _ _ _ (by simp), (Blk.new _ _ _).alloc _, ((Ext.refl w).alloc _).alloc _⟩
  clear HZ
  generalize (w.alloc (.cells (kC (fun _ => 0)) 159)).alloc (.cells (kC (fun _ => 0)) 159) = w1 at *
  go_wp2_with fail
  go_loopw [6, 12] (fun _ i wr => ∃ j : Nat, j ≤ 24 ∧ i = .int .i64 j ∧ Blk wr (w.heap.size + 1) (kC (fun i => if i < j then unK f i else 0)) 159 ∧ Blk wr w.heap.size (kC (fun _ => 0)) 159 ∧ Ext w wr) (fun _ i _ => 24 - (intOf i).toNat)
  case atStart => exact ⟨0, by omega, rfl, HB0.out.1, HB0.out.2.1, HB0.out.2.2⟩
  case round =>
    clear HB0
    obtain ⟨j, hj, rfl, hB, hB2, hxr⟩ := hrel
    by_cases hlt : j < 24
    · have h24 : (j : Int) < 24 := by omega
      have HC : Hid (Calls Tryz.prog 147 #[.pointer (some ⟨cb, 0, none⟩), .int .i64 (j : Int)] wr fun e w' => e = .returned (.int .i64 (unK f j)) ∧ wr = w') := HU.out wr j hxr hlt
      have b1 : wr.cell? ⟨w.heap.size + 1, j, none⟩ = some (.int .i64 (if j < j then unK f j else 0)) := by rw [hB.cell]; exact kC_get _ j hlt
      have z1 := hB.free j
      have HBB : Hid (Blk wr (w.heap.size + 1) (kC (fun i => if i < j then unK f i else 0)) 159 ∧ Blk wr w.heap.size (kC (fun _ => 0)) 159) := ⟨hB, hB2⟩
      clear HU HM hB hB2
      go_wp2_with (go_at_call 147; refine HC.out.mono ?_; rintro e w3 ⟨rfl, rfl⟩)
      go_roundw
      case rel => exact ⟨j + 1, by omega, by go_num, by rw [← first_snoc, ← kC_set]; exact HBB.out.1.set j _, HBB.out.2.other (by simp) _, hxr.set (p := ⟨w.heap.size + 1, j, none⟩) (by simp) _⟩
      case measure => simp [intOf]; omega
    · have hj24 : j = 24 := by omega
      subst hj24
      obtain ⟨g, hg⟩ : ∃ g : Nat, m.lg = (g : Int) := ⟨m.lg.toNat, by have := HN.out m.lg (by simp); omega⟩
      have hg24 : (g : Int) < 24 := by have := HN.out m.lg (by simp); omega
      have HBB : Hid (Blk wr (w.heap.size + 1) (kC (unK f)) 159 ∧ Blk wr w.heap.size (kC (fun _ => 0)) 159 ∧ Ext w wr) := ⟨hB, hB2, hxr⟩
      have HM1 : Hid (Calls Tryz.prog 148 #[.pointer (some ⟨sb, 0, none⟩)] wr fun e w' => MnfN wr w' e m) := HM.out wr hxr
      have hzr : w.heap.size + 1 < wr.heap.size := hB.lt
      clear HU HM hB hB2 hxr
      go_upto_region 8 with (go_at_call 148; refine HM1.out.mono ?_; rintro e w3 ⟨a1, c1, a2, c2, rfl, hN1, hN2, hx3, hp1, hp2⟩)
      have hz3 : wr.heap.size ≤ w3.heap.size := hx3.size
      have HW4 : Hid (KndAt w (w3.alloc (.cells #[.int .i64 m.ep, .int .i64 (g : Int), .slice a1 m.nw.length c1, .slice a2 m.od.length c2] 73)) w3.heap.size #[.int .i64 m.ep, .int .i64 (g : Int), .slice a1 m.nw.length c1, .slice a2 m.od.length c2] (unK f) a1 a2 m) := ⟨Blk.new _ _ _, (HBB.out.1.ext hx3).alloc _, (HBB.out.2.1.ext hx3).alloc _, hN1.ext ((Ext.refl w3).alloc _), hN2.ext ((Ext.refl w3).alloc _), (HBB.out.2.2.trans hx3).alloc _⟩
      have HP : Hid ((∀ p, a1 = some p → ¬ p.block = w.heap.size + 1) ∧ (∀ p, a2 = some p → ¬ p.block = w.heap.size + 1) ∧ ¬ w3.heap.size = w.heap.size + 1) := ⟨fun p e => by have := hp1 p e; omega, fun p e => by have := hp2 p e; omega, by omega⟩
      generalize w3.alloc (.cells #[.int .i64 m.ep, .int .i64 (g : Int), .slice a1 m.nw.length c1, .slice a2 m.od.length c2] 73) = w4 at *
      generalize w3.heap.size = mb at *
      have k0 : w4.cell? ⟨mb, 1, none⟩ = some (.int .i64 (g : Int)) := HW4.out.bm.cell 1
      have k1 : w4.cell? ⟨w.heap.size + 1, g, none⟩ = some (.int .i64 (unK f g)) := by rw [HW4.out.bk.cell]; exact kC_get _ g (by omega)
      have z1 := HW4.out.bk.free g
      clear HM1 HBB hN1 hN2 hx3 hp1 hp2 hz3 hzr
      have HW5 : Hid (KndAt w (w4.setCell ⟨w.heap.size + 1, g, none⟩ (.int .i64 2)) mb #[.int .i64 m.ep, .int .i64 (g : Int), .slice a1 m.nw.length c1, .slice a2 m.od.length c2] (putK (unK f) [m.lg] 2) a1 a2 m) := by rw [hg, ← putK_one]; exact HW4.out.put HP.out g 2
      clear HW4
      go_upto_region 9 with fail
      clear k1 z1 k0
      generalize w4.setCell ⟨w.heap.size + 1, g, none⟩ (.int .i64 2) = w5 at *
      obtain ⟨KF, HKF⟩ : ∃ KF, Hid (KF = kindsF m f) := ⟨_, rfl⟩
      have HK : Hid (KF = putK (putK (putK (unK f) [m.lg] 2) m.nw 3) m.od 4) := HKF.out
      generalize putK (unK f) [m.lg] 2 = G at *
      have k2 : w5.cell? ⟨mb, 2, none⟩ = some (.slice a1 m.nw.length c1) := HW5.out.bm.cell 2
      go_wp2_with fail
      clear k2
      go_loopw [9, 29] (fun _ i wr => ∃ j : Nat, j ≤ m.nw.length ∧ i = .int .i64 j ∧ KndAt w wr mb #[.int .i64 m.ep, .int .i64 (g : Int), .slice a1 m.nw.length c1, .slice a2 m.od.length c2] (putK G (m.nw.take j) 3) a1 a2 m) (fun _ i _ => m.nw.length - (intOf i).toNat)
      case atStart => exact ⟨0, by omega, rfl, HW5.out⟩
      case round =>
        clear HW5
        obtain ⟨j, hj, rfl, hK⟩ := hrel
        by_cases hlt : j < m.nw.length
        · have hlt' : (j : Int) < (m.nw.length : Int) := by omega
          obtain ⟨y, hy⟩ : ∃ y, m.nw[j]? = some y := ⟨m.nw[j], List.getElem?_eq_getElem hlt⟩
          have hy2 := HN.out y (by simp [List.mem_of_getElem? hy])
          obtain ⟨z, rfl⟩ : ∃ z : Nat, y = (z : Int) := ⟨y.toNat, by omega⟩
          have hz24 : (z : Int) < 24 := hy2.2
          obtain ⟨b, off, rfl, hc⟩ := hK.n1 (by intro e; rw [e] at hlt; simp at hlt)
          have c1' := hc j _ hy
          have k1 : wr.cell? ⟨w.heap.size + 1, z, none⟩ = some (.int .i64 (putK G (m.nw.take j) 3 z)) := by rw [hK.bk.cell]; exact kC_get _ z (by omega)
          have z1 := hK.bk.free z
          have HK1 : Hid (KndAt w (wr.setCell ⟨w.heap.size + 1, z, none⟩ (.int .i64 3)) mb #[.int .i64 m.ep, .int .i64 (g : Int), .slice (some ⟨b, off, none⟩) m.nw.length c1, .slice a2 m.od.length c2] (putK G (m.nw.take (j + 1)) 3) (some ⟨b, off, none⟩) a2 m) := by rw [← putK_take _ _ _ j z hy]; exact hK.put HP.out z 3
          clear hK hc HN HP HK hy hy2
          go_wp2_with fail
          go_roundw
          case rel => exact ⟨j + 1, by omega, by go_num, HK1.out⟩
          case measure => simp [intOf]; omega
        · have hje : j = m.nw.length := by omega
          subst hje
          rw [List.take_length] at hK
          have HK2 : Hid (KndAt w wr mb #[.int .i64 m.ep, .int .i64 (g : Int), .slice a1 m.nw.length c1, .slice a2 m.od.length c2] (putK G m.nw 3) a1 a2 m) := hK
          have k3 : wr.cell? ⟨mb, 3, none⟩ = some (.slice a2 m.od.length c2) := hK.bm.cell 3
          clear hK
          generalize putK G m.nw 3 = G2 at *
          go_wp2_with fail
          clear k3
          go_loopw [11, 39] (fun _ i wr => ∃ j : Nat, j ≤ m.od.length ∧ i = .int .i64 j ∧ KndAt w wr mb #[.int .i64 m.ep, .int .i64 (g : Int), .slice a1 m.nw.length c1, .slice a2 m.od.length c2] (putK G2 (m.od.take j) 4) a1 a2 m) (fun _ i _ => m.od.length - (intOf i).toNat)
          case atStart => exact ⟨0, by omega, rfl, HK2.out⟩
          case round =>
            clear HK2
            obtain ⟨j, hj, rfl, hK⟩ := hrel
            by_cases hlt : j < m.od.length
            · have hlt' : (j : Int) < (m.od.length : Int) := by omega
              obtain ⟨y, hy⟩ : ∃ y, m.od[j]? = some y := ⟨m.od[j], List.getElem?_eq_getElem hlt⟩
              have hy2 := HN.out y (by simp [List.mem_of_getElem? hy])
              obtain ⟨z, rfl⟩ : ∃ z : Nat, y = (z : Int) := ⟨y.toNat, by omega⟩
              have hz24 : (z : Int) < 24 := hy2.2
              obtain ⟨b, off, rfl, hc⟩ := hK.n2 (by intro e; rw [e] at hlt; simp at hlt)
              have c1' := hc j _ hy
              have k1 : wr.cell? ⟨w.heap.size + 1, z, none⟩ = some (.int .i64 (putK G2 (m.od.take j) 4 z)) := by rw [hK.bk.cell]; exact kC_get _ z (by omega)
              have z1 := hK.bk.free z
              have HK1 : Hid (KndAt w (wr.setCell ⟨w.heap.size + 1, z, none⟩ (.int .i64 4)) mb #[.int .i64 m.ep, .int .i64 (g : Int), .slice a1 m.nw.length c1, .slice (some ⟨b, off, none⟩) m.od.length c2] (putK G2 (m.od.take (j + 1)) 4) a1 (some ⟨b, off, none⟩) m) := by rw [← putK_take _ _ _ j z hy]; exact hK.put HP.out z 4
              clear hK hc HN HP HK hy hy2
              go_wp2_with fail
              go_roundw
              case rel => exact ⟨j + 1, by omega, by go_num, HK1.out⟩
              case measure => simp [intOf]; omega
            · have hje : j = m.od.length := by omega
              subst hje
              rw [List.take_length, ← HK.out] at hK
              clear HN HP HK
              have hrg : wr.rangeAt (w.heap.size + 1) 0 (kC KF).toList := by
                intro j v hj
                rw [Nat.zero_add, hK.bk.cell]; simpa using hj
              have HI : Hid ((Tryz.prog.info? 159).map (·.size) = some (kC KF).toList.length) := by rw [Hid]; kernel_rfl
              have hone : ∀ v ∈ (kC KF).toList, v.oneCell' = true := by
                intro v hv
                rw [kC_range] at hv
                simp only [List.mem_map] at hv
                obtain ⟨i, _, rfl⟩ := hv
                rfl
              have hsc := store_run w.heap.size 0 (kC KF).toList wr (hK.br.there (by simp [kC])) hone
              have hRW := Blk.setCells (kC KF).toList hK.br 0
              rw [putAt_all _ _ (by simp [kC])] at hRW
              have hxW := Ext.setCells (g := w.heap.size) (Nat.le_refl _) (kC KF).toList hK.ext 0
              have HRUN : Hid ((loadVar 159 ⟨w.heap.size, 0, none⟩).run Tryz.prog (wr.setCells w.heap.size 0 (kC KF).toList) = .ok (.agg (kC KF)) (wr.setCells w.heap.size 0 (kC KF).toList)) := by
                have := run_loadVar_mid (P := Tryz.prog) (wr.setCells w.heap.size 0 (kC KF).toList) w.heap.size 0 159 (kC KF).toList _ (by
                  intro j v hj
                  rw [Nat.zero_add, hRW.cell]; simpa using hj) Tryz.underlying159 rfl HI.out
                rw [Hid]
                simpa using this
              clear hRW hone hK
              have HE : Hid (kC KF = kC (kindsF m f)) := by rw [Hid, HKF.out]
              have h24A : (kC KF).size = 24 := rfl
              clear HKF
              generalize kC KF = A at *
              go_wp2_with (refine wpList_load_mid rfl 159 (.tmp 5) rfl (w.heap.size + 1) 0 (by rfl) A.toList _ hrg Tryz.underlying159 rfl HI.out ?_)
              refine bodyPost_ret (v := .agg A) ?_ rfl ⟨by rw [HE.out], hxW⟩
              rw [results_cellK Tryz.results108]
              show ((asAddr (.pointer (some ⟨w.heap.size, 0, none⟩))).run Tryz.prog _).andThen _ = _
              simp only [asAddr, Sem.run_pure, Result.andThen_ok]
              exact HRUN.out
end Go.Proofs.YtkibgflbidkalaaGreatDoor

/- What blocks are used for: how many of each kind. -/
namespace Go.Proofs.YtkibgflbidkalaaGreatDoor
open Go.RowKit Go.WideShapes

end Go.Proofs.YtkibgflbidkalaaGreatDoor

/- A session's blocks. -/
namespace Go.Proofs.YtkibgflbidkalaaGreatDoor
open Go.RowKit Go.WideShapes

def Z24 : Array Value := #[.int .i64 0, .int .i64 0, .int .i64 0, .int .i64 0, .int .i64 0, .int .i64 0, .int .i64 0, .int .i64 0, .int .i64 0, .int .i64 0, .int .i64 0, .int .i64 0, .int .i64 0, .int .i64 0, .int .i64 0, .int .i64 0, .int .i64 0, .int .i64 0, .int .i64 0, .int .i64 0, .int .i64 0, .int .i64 0, .int .i64 0, .int .i64 0]
theorem kC_one (g : Nat → Int) : ∀ v ∈ (kC g).toList, v.oneCell' = true := by
  intro v hv
  rw [kC_range] at hv
  simp only [List.mem_map] at hv
  obtain ⟨i, _, rfl⟩ := hv
  rfl
theorem lay24 {w : World} {b : Nat} {A : Array Value} (hR : Blk w b Z24 159) (h : A.size = 24) (h1 : ∀ v ∈ A.toList, v.oneCell' = true) :
    (storeCells ⟨b, 0, none⟩ A.toList).run Tryz.prog w = .ok () (w.setCells b 0 A.toList) ∧ w.there b 0 24 ∧ Blk (w.setCells b 0 A.toList) b A 159 := by
  have hb := Blk.setCells A.toList hR 0
  rw [putAt_all _ _ (by rw [Array.length_toList, h]; rfl)] at hb
  exact ⟨store_run b 0 A.toList _ (hR.there (by rw [Array.length_toList, h]; exact Nat.le_refl 24)) h1, hR.there (Nat.le_refl 24), hb⟩
theorem idx6 (j : Nat) (hj : j < 6) (w : World) : (Instr.index 161 (.agg #[.int .i64 0, .int .i64 1, .int .i64 2, .int .i64 3, .int .i64 4, .int .i64 5]) (.int .i64 (j : Int))).run Tryz.prog w = .ok (.int .i64 (j : Int)) w := by
  have h0 : (Instr.index 161 (.agg #[.int .i64 0, .int .i64 1, .int .i64 2, .int .i64 3, .int .i64 4, .int .i64 5]) (.int .i64 ((0 : Nat) : Int))).run Tryz.prog w = .ok (.int .i64 ((0 : Nat) : Int)) w := by kernel_rfl
  have h1 : (Instr.index 161 (.agg #[.int .i64 0, .int .i64 1, .int .i64 2, .int .i64 3, .int .i64 4, .int .i64 5]) (.int .i64 ((1 : Nat) : Int))).run Tryz.prog w = .ok (.int .i64 ((1 : Nat) : Int)) w := by kernel_rfl
  have h2 : (Instr.index 161 (.agg #[.int .i64 0, .int .i64 1, .int .i64 2, .int .i64 3, .int .i64 4, .int .i64 5]) (.int .i64 ((2 : Nat) : Int))).run Tryz.prog w = .ok (.int .i64 ((2 : Nat) : Int)) w := by kernel_rfl
  have h3 : (Instr.index 161 (.agg #[.int .i64 0, .int .i64 1, .int .i64 2, .int .i64 3, .int .i64 4, .int .i64 5]) (.int .i64 ((3 : Nat) : Int))).run Tryz.prog w = .ok (.int .i64 ((3 : Nat) : Int)) w := by kernel_rfl
  have h4 : (Instr.index 161 (.agg #[.int .i64 0, .int .i64 1, .int .i64 2, .int .i64 3, .int .i64 4, .int .i64 5]) (.int .i64 ((4 : Nat) : Int))).run Tryz.prog w = .ok (.int .i64 ((4 : Nat) : Int)) w := by kernel_rfl
  have h5 : (Instr.index 161 (.agg #[.int .i64 0, .int .i64 1, .int .i64 2, .int .i64 3, .int .i64 4, .int .i64 5]) (.int .i64 ((5 : Nat) : Int))).run Tryz.prog w = .ok (.int .i64 ((5 : Nat) : Int)) w := by kernel_rfl
  match j, hj with
  | 0, _ => exact h0
  | 1, _ => exact h1
  | 2, _ => exact h2
  | 3, _ => exact h3
  | 4, _ => exact h4
  | 5, _ => exact h5
def decB (n : Nat) : ByteArray := ⟨(Lib.decDigits n).toArray⟩
def wearB : ByteArray := ⟨#[119, 101, 97, 114]⟩
def blkL (c : Nat → Nat) (s1 s2 : Nat) : List ByteArray := (List.range 6).map (fun k => decB (c k)) ++ [wearB, decB s1, decB s2]
def blkT (c : Nat → Nat) (s1 s2 : Nat) : ByteArray := ⟨(Lib.join ((blkL c s1 s2).map (·.data.toList)) [32]).toArray⟩
structure BlkQ (wr : World) (rb cb sb : Nat) (A : Array Value) (c : Nat → Nat) (s1 s2 : Nat) : Prop where
  size : A.size = 24
  one : ∀ v ∈ A.toList, v.oneCell' = true
  at_ : ∀ W, Ext wr W → W.cell? ⟨rb, 0, none⟩ = some (.pointer (some ⟨cb, 0, none⟩)) ∧ W.cell? ⟨rb, 1, none⟩ = some (.pointer (some ⟨sb, 0, none⟩))
  of : ∀ W, Ext wr W → Calls Tryz.prog 108 #[.pointer (some ⟨cb, 0, none⟩), .pointer (some ⟨sb, 0, none⟩)] W fun e w' => e = .returned (.agg A) ∧ Ext W w'
  count : ∀ W (k : Nat), k < 6 → Calls Tryz.prog 109 #[.agg A, .int .i64 (k : Int)] W fun e w' => e = .returned (.int .i64 (c k : Int)) ∧ Ext W w'
  spread : ∀ W, Ext wr W → Calls Tryz.prog 110 #[.pointer (some ⟨cb, 0, none⟩)] W fun e w' => e = .returned (.tuple #[.int .i64 (s1 : Int), .int .i64 (s2 : Int)]) ∧ W = w'
  le : ∀ k : Nat, k < 6 → c k < 100
theorem SesX.blkQ {w wr : World} {rb n : Nat} {g : Option (Nat × Obj)} {M : CM} {m : Man} {a : Nat} {hand : List Ent} {N O : List Tb} (h : SesX w wr rb n g M m a hand N O) (hl1 : m.nw.length ≤ 100) (hl2 : m.od.length ≤ 100) (c : Nat → Nat) (s1 s2 : Nat)
    (hc : ∀ k : Nat, k < 6 → cntK (kindsF m M.bd) (k : Int) 24 = c k) (h1 : (sprd M.bd (fun b => (M.wr b : Int)) 22).1 = (s1 : Int)) (h2 : (sprd M.bd (fun b => (M.wr b : Int)) 22).2.1 = (s2 : Int)) : ∃ cb sb A, BlkQ wr rb cb sb A c s1 s2 := by
  obtain ⟨S, cb, sb, x, q1, q2, q3, q4, q5, q6, q7⟩ := h.ex
  subst q2
  refine ⟨cb, sb, kC (kindsF m M.bd), rfl, kC_one _, fun W hx => ⟨(q4.ext hx).cell 0, (q4.ext hx).cell 1⟩, fun W hx => survOf_any n W S sb cb M m a x N O (q1.ext hx) q3 hl1 hl2, fun W k hk => ?_, fun W hx => ?_, fun k hk => ?_⟩
  · have := count_any (kindsF m M.bd) (k : Int) W
    rw [hc k hk] at this
    exact this
  · have := spread_any cb M W (q1.chip.ext hx)
    rw [h1, h2] at this
    exact this
  · rw [← hc k hk]
    exact Nat.lt_of_le_of_lt (cntK_le _ _ 24) (by decide)
theorem strs3 {w : World} {b : Nat} {x y z : ByteArray} (h : Blk w b #[.string x, .string y, .string z] 9) : StrsAt w (some ⟨b, 0, none⟩) [x, y, z] := fun _ => by
  refine ⟨b, 0, rfl, fun i u hi => ?_⟩
  rw [Nat.zero_add]
  match i, hi with
  | 0, hi => simp at hi; subst hi; exact h.cell 0
  | 1, hi => simp at hi; subst hi; exact h.cell 1
  | 2, hi => simp at hi; subst hi; exact h.cell 2
  | i + 3, hi => simp at hi
set_option maxRecDepth 20000 in
set_option maxHeartbeats 4000000 in
theorem blocks_any {w0 : World} {rb cb sb : Nat} {A : Array Value} {c : Nat → Nat} {s1 s2 : Nat} (h : BlkQ w0 rb cb sb A c s1 s2) (h1 : s1 < 100) (h2 : s2 < 100) (hlen : (Lib.join ((blkL c s1 s2).map (·.data.toList)) [32]).length ≤ 100000) :
    Calls Tryz.prog 62 #[.pointer (some ⟨rb, 0, none⟩)] w0 fun e w' => e = .returned (.string (blkT c s1 s2)) ∧ Ext w0 w' := by
  have HQ : Hid (BlkQ w0 rb cb sb A c s1 s2) := h
  have HLN : Hid ((Lib.join ((blkL c s1 s2).map (·.data.toList)) [32]).length ≤ 100000) := hlen
  obtain ⟨k0, k1⟩ := h.at_ w0 (Ext.refl _)
  have h24 := h.size
  have one := h.one
  have hX0 : Ext w0 w0 := Ext.refl _
  have HSZ : Hid ((Tryz.prog.info? 159).map (·.size) = some A.toList.length) := by rw [Hid, Array.length_toList, h24]; kernel_rfl
  clear h hlen
  go_enter Tryz.func62, Tryz.ntmps62
  go_wp2
  go_region_held3 (fun W => W.cell? ⟨rb, 0, none⟩ = some (.pointer (some ⟨cb, 0, none⟩)) ∧ W.cell? ⟨rb, 1, none⟩ = some (.pointer (some ⟨sb, 0, none⟩)))
    (first
      | (refine HQ.out.at_ _ (Ext.setCells ?_ A.toList ?_ 0); (first | exact Nat.le_refl _ | exact hX1.size); repeat (first | assumption | refine Ext.drew ?_ | refine Ext.drewN ?_ _ | refine Ext.alloc ?_ _))
      | (refine HQ.out.at_ _ ?_; repeat (first | assumption | refine Ext.drew ?_ | refine Ext.drewN ?_ _ | refine Ext.alloc ?_ _)))
    (first
      | (go_at_call 108; refine (HQ.out.of _ (by repeat (first | exact Ext.refl _ | refine Ext.drew ?_ | refine Ext.drewN ?_ _ | refine Ext.alloc ?_ _))).mono ?_; rintro e w1 ⟨rfl, hx1⟩; have hX1 : Ext w0 w1 := Ext.trans (by repeat (first | exact Ext.refl _ | refine Ext.drew ?_ | refine Ext.drewN ?_ _ | refine Ext.alloc ?_ _)) hx1; first | have hth := (lay24 ((Blk.drew (Blk.new _ Z24 159)).ext hx1) h24 one).2.1 | have hth := (lay24 (Blk.new w1 Z24 159) h24 one).2.1; simp only [Z24] at hth))
  all_goals
    first
    | (have HL : Blk (w1.setCells w0.heap.size 0 A.toList) w0.heap.size A 159 ∧ Ext w0 (w1.setCells w0.heap.size 0 A.toList) := ⟨(lay24 ((Blk.drew (Blk.new _ Z24 159)).ext hx1) h24 one).2.2, Ext.setCells (Nat.le_refl _) A.toList hX1 0⟩
       generalize w1.setCells w0.heap.size 0 A.toList = W1 at *
       generalize w0.heap.size = kb at *)
    | (have HL : Blk ((w1.alloc (.cells Z24 159)).setCells w1.heap.size 0 A.toList) w1.heap.size A 159 ∧ Ext w0 ((w1.alloc (.cells Z24 159)).setCells w1.heap.size 0 A.toList) := ⟨(lay24 (Blk.new w1 Z24 159) h24 one).2.2, Ext.setCells hX1.size A.toList (hX1.alloc _) 0⟩
       simp only [Z24] at HL
       generalize (w1.alloc (.cells #[.int .i64 0, .int .i64 0, .int .i64 0, .int .i64 0, .int .i64 0, .int .i64 0, .int .i64 0, .int .i64 0, .int .i64 0, .int .i64 0, .int .i64 0, .int .i64 0, .int .i64 0, .int .i64 0, .int .i64 0, .int .i64 0, .int .i64 0, .int .i64 0, .int .i64 0, .int .i64 0, .int .i64 0, .int .i64 0, .int .i64 0, .int .i64 0] 159)).setCells w1.heap.size 0 A.toList = W1 at *
       generalize w1.heap.size = kb at *)
    clear hth k0 k1 hX1 hx1 hX0 one h24
    have HB : Hid (∀ W, Ext W1 W → W.rangeAt kb 0 A.toList) := fun W hx j v hv => by
      rw [Nat.zero_add, (HL.1.ext hx).cell]
      simpa using hv
    have HX : Hid (Ext w0 W1) := HL.2
    clear HL
    go_wp2_with fail
    go_loopw [4, 19] (fun v i wr => ∃ j : Nat, j ≤ 6 ∧ i = .int .i64 j ∧ Sls W1 wr v ((List.range j).map (fun k => decB (c k)))) (fun _ i _ => 6 - (intOf i).toNat)
    case atStart => exact ⟨0, Nat.zero_le _, rfl, Sls.nil (Ext.refl _)⟩
    case round =>
      obtain ⟨j, hj, rfl, hL⟩ := hrel
      by_cases hlt : j < 6
      · have hlt' : (j : Int) < 6 := by omega
        have hi := idx6 j hlt
        have HCN : Hid (∀ W, Calls Tryz.prog 109 #[.agg A, .int .i64 (j : Int)] W fun e w' => e = .returned (.int .i64 (c j : Int)) ∧ Ext W w') := fun W => HQ.out.count W j hlt
        have hcj := HQ.out.le j hlt
        have HIT : Hid (∀ W, Calls Tryz.prog 53 #[.int .i64 (c j : Int)] W fun e w' => e = .returned (.string (decB (c j))) ∧ W = w') := fun W => (Tryz.strconv_Itoa_small (c j) hcj W).mono fun _ _ h => ⟨h.1, h.2.symm⟩
        have hrg := HB.out wr hL.ext
        have HST : Hid ((List.range (j + 1)).map (fun k => decB (c k)) = (List.range j).map (fun k => decB (c k)) ++ [decB (c j)]) := by rw [Hid, List.range_succ]; simp
        have HDN : Hid (((List.range j).map (fun k => decB (c k))).length ≤ 100000) := by rw [Hid]; simp; omega
        have HSZ1 := HSZ.out
        clear HLN HQ
        generalize (List.range j).map (fun k => decB (c k)) = done at *
        generalize decB (c j) = T at *
        generalize c j = cj at *
        go_wp2_with (first
          | (refine wpList_load_mid rfl 159 (.tmp 3) rfl kb 0 (by rfl) A.toList _ hrg Tryz.underlying159 rfl HSZ1 ?_)
          | (go_at_call 109; refine (HCN.out _).mono ?_; rintro e w5 ⟨rfl, hx5⟩)
          | (go_at_call 53; refine (HIT.out _).mono ?_; rintro e w6 ⟨rfl, rfl⟩)
          | (at_builtin; refine wpList_app_str rfl _ _ rfl W1 _ done rfl ?c1 _ T rfl ?c2 ?c3 ?_))
        case c1 => exact ⟨ownsRow_ext hL.own (hx5.alloc _), hL.ext.trans (hx5.alloc _)⟩
        case c2 => exact Blk.new' _ _ _ (by first | rfl | simp)
        case c3 => exact HDN.out
        intro v7 w7 hL7
        go_wp2
        go_roundw
        case rel => exact ⟨j + 1, by omega, by go_num, by rw [HST.out]; exact hL7⟩
        case measure => simp [intOf]; omega
      · have hj6 : j = 6 := by omega
        subst hj6
        have hx0 : Ext w0 wr := HX.out.trans hL.ext
        obtain ⟨q0, _⟩ := HQ.out.at_ wr hx0
        have HSP : Hid (Calls Tryz.prog 110 #[.pointer (some ⟨cb, 0, none⟩)] wr fun e w' => e = .returned (.tuple #[.int .i64 (s1 : Int), .int .i64 (s2 : Int)]) ∧ wr = w') := HQ.out.spread wr hx0
        have HI1 : Hid (∀ W, Calls Tryz.prog 53 #[.int .i64 (s1 : Int)] W fun e w' => e = .returned (.string (decB s1)) ∧ W = w') := fun W => (Tryz.strconv_Itoa_small s1 h1 W).mono fun _ _ h => ⟨h.1, h.2.symm⟩
        have HI2 : Hid (∀ W, Calls Tryz.prog 53 #[.int .i64 (s2 : Int)] W fun e w' => e = .returned (.string (decB s2)) ∧ W = w') := fun W => (Tryz.strconv_Itoa_small s2 h2 W).mono fun _ _ h => ⟨h.1, h.2.symm⟩
        have HTD : Hid (∀ W ao cap, StrsAt W ao ((List.range 6).map (fun k => decB (c k)) ++ [⟨#[119, 101, 97, 114]⟩, decB s1, decB s2]) → (∀ b off, ao = some ⟨b, off, none⟩ → b < W.heap.size) → ((List.range 6).map (fun k => decB (c k)) ++ [⟨#[119, 101, 97, 114]⟩, decB s1, decB s2]).length ≤ cap → Calls Tryz.prog 28 #[.nilIface, .slice ao (((List.range 6).map (fun k => decB (c k))).length + 3) cap] W fun e w' => e = .returned (.string (blkT c s1 s2)) ∧ Ext W w') := fun W ao cap q1 q2 q3 => by
          obtain ⟨b, off, rfl, hc⟩ := q1 (by simp)
          have e : (blkL c s1 s2).length = ((List.range 6).map (fun k => decB (c k))).length + 3 := by simp [blkL]
          have hh := told_nil b off cap (blkL c s1 s2) W hc (q2 b off rfl) (by simp [blkL]) q3 HLN.out
          rw [e] at hh
          exact hh
        have HD6 : Hid (((List.range 6).map (fun k => decB (c k))).length + [(⟨#[119, 101, 97, 114]⟩ : ByteArray), decB s1, decB s2].length ≤ 100000) := by rw [Hid]; simp
        clear HLN HQ HB HSZ
        obtain ⟨TT, hTT⟩ : ∃ TT, blkT c s1 s2 = TT := ⟨_, rfl⟩
        rw [hTT] at HTD
        have HTT : Hid (blkT c s1 s2 = TT) := hTT
        clear hTT
        generalize (List.range 6).map (fun k => decB (c k)) = done at *
        generalize decB s1 = S1 at *
        generalize decB s2 = S2 at *
        go_wp2_with (first
          | (go_at_call 110; refine HSP.out.mono ?_; rintro e w5 ⟨rfl, rfl⟩)
          | (go_at_call 53; refine (HI1.out _).mono ?_; rintro e w6 ⟨rfl, rfl⟩)
          | (go_at_call 53; refine (HI2.out _).mono ?_; rintro e w6 ⟨rfl, rfl⟩)
          | (at_builtin; refine wpList_app_strs rfl _ _ rfl W1 _ done rfl (hL.alloc _) (some ⟨wr.heap.size, 0, none⟩) 3 [⟨#[119, 101, 97, 114]⟩, S1, S2] rfl (strs3 (Blk.new _ _ _)) HD6.out ?_; intro v7 w7 hL7; obtain ⟨ao7, cap7, hv7, hcap7, hbb7⟩ := hL7.ge; obtain ⟨ao8, cap8, hv8, hS8⟩ := hL7.at; rw [hv7] at hv8; cases hv8; subst hv7)
          | (go_at_call 28; refine (HTD.out _ _ _ hS8 hbb7 hcap7).mono ?_; rintro e w8 ⟨rfl, hx8⟩))
        go_ret
        exact ⟨by rw [HTT.out]; rfl, HX.out.trans (hL7.ext.trans hx8)⟩
end Go.Proofs.YtkibgflbidkalaaGreatDoor

/- ConsoleSays: a session of ten lines, and what it answers. -/
namespace Go.Proofs.YtkibgflbidkalaaGreatDoor
open Go.RowKit Go.WideShapes

def ln0 : ByteArray := ⟨#[119, 114, 105, 116, 101, 32, 97, 61, 120, 32, 98, 61, 121]⟩
def ln1 : ByteArray := ⟨#[119, 114, 105, 116, 101, 32, 98]⟩
def ln2 : ByteArray := ⟨#[114, 111, 119, 115]⟩
def ln3 : ByteArray := ⟨#[103, 101, 116, 32, 97]⟩
def ln4 : ByteArray := ⟨#[103, 101, 116, 32, 98]⟩
def ln5 : ByteArray := ⟨#[102, 108, 117, 115, 104]⟩
def ln6 : ByteArray := ⟨#[112, 97, 103, 101, 32, 97, 32, 53]⟩
def ln7 : ByteArray := ⟨#[112, 97, 103, 101, 32, 46, 32, 53]⟩
def ln8 : ByteArray := ⟨#[98, 108, 111, 99, 107, 115]⟩
def ln9 : ByteArray := ⟨#[102, 108, 121]⟩
def helloL : List ByteArray := [ln0, ln1, ln2, ln3, ln4, ln5, ln6, ln7, ln8, ln9]
def helloA : List ByteArray := [⟨#[111, 107]⟩, ⟨#[111, 107]⟩, ⟨#[97, 61, 120]⟩, ⟨#[61, 120]⟩, ⟨#[101, 114, 114, 111, 114, 32, 53]⟩, ⟨#[111, 107]⟩, ⟨#[45]⟩, ⟨#[97, 61, 120]⟩, ⟨#[50, 48, 32, 50, 32, 49, 32, 49, 32, 48, 32, 48, 32, 119, 101, 97, 114, 32, 48, 32, 49]⟩, ⟨#[101, 114, 114, 111, 114, 32, 52]⟩]
instance : DecidableEq Ent := fun ⟨k, v, g⟩ ⟨k', v', g'⟩ => if h : k = k' ∧ v = v' ∧ g = g' then isTrue (by obtain ⟨rfl, rfl, rfl⟩ := h; rfl) else isFalse (fun e => h (by cases e; exact ⟨rfl, rfl, rfl⟩))
def entA : Ent := ⟨⟨#[97]⟩, ⟨#[120]⟩, false⟩
def lA : List Ent := [entA, ⟨⟨#[98]⟩, ⟨#[121]⟩, false⟩]
def lB : List Ent := [⟨⟨#[98]⟩, ⟨#[]⟩, true⟩]
def MA1 : CM := writeM fM ((2 : Nat) : Int) (txt (encT lA))
def MA2 : CM := writeM MA1 ((2 : Nat) : Int) (txt (encT lB))
def hA : List Ent := putsE [] lA
def hB : List Ent := putsE hA lB
def lrA : LR := layS MA2 (names fm) (partsE 14 hB)
def mA : Man := layHM fm (claimS rdErase lrA.M lrA.L).b lrA.bs
def MA3 : CM := noteM (claimS rdErase lrA.M lrA.L).M 0 (manTxt mA)
def aA : Nat := noteAt (claimS rdErase lrA.M lrA.L).M 0
def NA : List Tb := zipTb lrA.bs (partsE 14 hB) ++ []
def cA (k : Nat) : Nat := [20, 2, 1, 1, 0, 0].getD k 0
section
set_option maxRecDepth 100000
theorem pA0 : parseE (ln0.extract 6 ln0.size) = some lA := by decide +kernel
theorem pA1 : parseE (ln1.extract 6 ln1.size) = some lB := by decide +kernel
theorem wA0 : writeE fM ((2 : Nat) : Int) (txt (encT lA)) = 0 := by decide +kernel
theorem wA1 : writeE MA1 ((2 : Nat) : Int) (txt (encT lB)) = 0 := by decide +kernel
theorem fA0 : writeF (rowsE [] [] []) lA = 0 := by decide +kernel
theorem fA1 : writeF (rowsE hA [] []) lB = 0 := by decide +kernel
theorem left0 : fM.left = -1 := f3_ok.2.2
theorem left1 : MA1.left = -1 := by decide +kernel
theorem left2 : MA2.left = -1 := by decide +kernel
theorem left3 : MA3.left = -1 := by decide +kernel
theorem wk2 : wkN MA2.wk ≤ 0 := by decide +kernel
theorem wk3 : wkN MA3.wk ≤ 0 := by decide +kernel
theorem rows2 : rowsE hB [] [] = [entA] := by decide +kernel
theorem rows3 : rowsE [] NA [] = [entA] := by decide +kernel
theorem NA_len : NA.length ≤ 2 := by decide +kernel
theorem nwA : mA.nw.length < 3 := by decide +kernel
theorem odA : mA.od.length ≤ 100 := by decide +kernel
theorem cntA3 : ∀ k : Nat, k < 6 → cntK (kindsF mA MA3.bd) (k : Int) 24 = cA k := by decide +kernel
theorem spA1 : (sprd MA3.bd (fun b => (MA3.wr b : Int)) 22).1 = ((0 : Nat) : Int) := by decide +kernel
theorem spA2 : (sprd MA3.bd (fun b => (MA3.wr b : Int)) 22).2.1 = ((1 : Nat) : Int) := by decide +kernel
theorem blkA : blkT cA 0 1 = ⟨#[50, 48, 32, 50, 32, 49, 32, 49, 32, 48, 32, 48, 32, 119, 101, 97, 114, 32, 48, 32, 49]⟩ := by decide +kernel
theorem blkA_len : (Lib.join ((blkL cA 0 1).map (·.data.toList)) [32]).length ≤ 100000 := by decide +kernel
theorem tRows : rowsT (pgE [entA] ⟨#[]⟩ 40) = ⟨#[97, 61, 120]⟩ := by decide +kernel
theorem tGet1 : getT [entA] ⟨#[97]⟩ = ⟨#[61, 120]⟩ := by decide +kernel
theorem tGet2 : getT [entA] ⟨#[98]⟩ = ⟨#[101, 114, 114, 111, 114, 32, 53]⟩ := by decide +kernel
theorem tPage1 : rowsT (pgE [entA] ⟨#[97]⟩ ((5 : Nat) : Int)) = ⟨#[45]⟩ := by decide +kernel
theorem tPage2 : rowsT (pgE [entA] ⟨#[46]⟩ ((5 : Nat) : Int)) = ⟨#[97, 61, 120]⟩ := by decide +kernel
theorem tErr4 : errT 4 = ⟨#[101, 114, 114, 111, 114, 32, 52]⟩ := by decide +kernel
theorem num5 : numO ⟨#[53]⟩ = some 5 := by decide +kernel
theorem isW0 : isW ln0 = true := by decide +kernel
theorem isW1 : isW ln1 = true := by decide +kernel
theorem wd2 : wordsL ln2 = [⟨#[114, 111, 119, 115]⟩] := by decide +kernel
theorem isW2 : isW ln2 = false := by decide +kernel
theorem wd3 : wordsL ln3 = [⟨#[103, 101, 116]⟩, ⟨#[97]⟩] := by decide +kernel
theorem isW3 : isW ln3 = false := by decide +kernel
theorem wd4 : wordsL ln4 = [⟨#[103, 101, 116]⟩, ⟨#[98]⟩] := by decide +kernel
theorem isW4 : isW ln4 = false := by decide +kernel
theorem wd5 : wordsL ln5 = [⟨#[102, 108, 117, 115, 104]⟩] := by decide +kernel
theorem isW5 : isW ln5 = false := by decide +kernel
theorem wd6 : wordsL ln6 = [⟨#[112, 97, 103, 101]⟩, ⟨#[97]⟩, ⟨#[53]⟩] := by decide +kernel
theorem isW6 : isW ln6 = false := by decide +kernel
theorem wd7 : wordsL ln7 = [⟨#[112, 97, 103, 101]⟩, ⟨#[46]⟩, ⟨#[53]⟩] := by decide +kernel
theorem isW7 : isW ln7 = false := by decide +kernel
theorem wd8 : wordsL ln8 = [⟨#[98, 108, 111, 99, 107, 115]⟩] := by decide +kernel
theorem isW8 : isW ln8 = false := by decide +kernel
theorem wd9 : wordsL ln9 = [⟨#[102, 108, 121]⟩] := by decide +kernel
theorem isW9 : isW ln9 = false := by decide +kernel
end
end Go.Proofs.YtkibgflbidkalaaGreatDoor

/- ConsoleSays: the session of ten lines, line by line. -/
namespace Go.Proofs.YtkibgflbidkalaaGreatDoor
open Go.RowKit Go.WideShapes

def zA (i : Nat) : SS := if i = 0 then ⟨4, fM, fm, 0, [], [], []⟩ else if i = 1 then ⟨4, MA1, fm, 0, hA, [], []⟩ else if i < 6 then ⟨4, MA2, fm, 0, hB, [], []⟩ else ⟨7, MA3, mA, aA, [], NA, []⟩
section
variable {w W : World} {rb : Nat} {g : Option (Nat × Obj)}
theorem sesB_s (h : SesX w W rb 4 g MA2 fm 0 hB [] []) : Ses w W rb 4 g [entA] := ⟨MA2, fm, 0, hB, [], [], h, rows2, left2, wk2, by decide⟩
theorem sesD_s (h : SesX w W rb 7 g MA3 mA aA [] NA []) : Ses w W rb 7 g [entA] := ⟨MA3, mA, aA, [], NA, [], h, rows3, left3, wk3, NA_len⟩
theorem line0 (hg : Tryz.Glob w) (h : SesX w W rb 4 g fM fm 0 [] [] []) :
    Calls Tryz.prog 12 #[.pointer (some ⟨rb, 0, none⟩), .string ln0] W fun e w' => e = .returned (.string okT) ∧ SesX w w' rb 4 g MA1 fm 0 hA [] [] :=
  answer_write (P := fun w' => SesX w w' rb 4 g MA1 fm 0 hA [] []) ln0 0 (by decide) isW0 (fun _ _ hp hx => hp.ext hx) (by decide) (by decide)
    (sess_writeX h (ln0.extract 6 ln0.size) lA 2 (by decide) hg pA0 (by rw [left0]; decide) fA0 rfl wA0)
theorem line1 (hg : Tryz.Glob w) (h : SesX w W rb 4 g MA1 fm 0 hA [] []) :
    Calls Tryz.prog 12 #[.pointer (some ⟨rb, 0, none⟩), .string ln1] W fun e w' => e = .returned (.string okT) ∧ SesX w w' rb 4 g MA2 fm 0 hB [] [] :=
  answer_write (P := fun w' => SesX w w' rb 4 g MA2 fm 0 hB [] []) ln1 0 (by decide) isW1 (fun _ _ hp hx => hp.ext hx) (by decide) (by decide)
    (sess_writeX h (ln1.extract 6 ln1.size) lB 2 (by decide) hg pA1 (by rw [left1]; decide) fA1 rfl wA1)
theorem line2 (hg : Tryz.Glob w) (h : SesX w W rb 4 g MA2 fm 0 hB [] []) :
    Calls Tryz.prog 12 #[.pointer (some ⟨rb, 0, none⟩), .string ln2] W fun e w' => e = .returned (.string (rowsT (pgE [entA] ⟨#[]⟩ 40))) ∧ SesX w w' rb 4 g MA2 fm 0 hB [] [] :=
  answer_one (P := fun w' => SesX w w' rb 4 g MA2 fm 0 hB [] []) ln2 _ _ (by decide) isW2 (glob_ext hg h.x) wd2 fun _ hx => alone_rows _ _ (by decide +kernel) ((sess_page ((sesB_s h).ext hx) ⟨#[]⟩ 40).mono fun _ _ hh => ⟨hh.1, (h.ext hx).ext hh.2⟩)
theorem line3 (hg : Tryz.Glob w) (h : SesX w W rb 4 g MA2 fm 0 hB [] []) :
    Calls Tryz.prog 12 #[.pointer (some ⟨rb, 0, none⟩), .string ln3] W fun e w' => e = .returned (.string (getT [entA] ⟨#[97]⟩)) ∧ SesX w w' rb 4 g MA2 fm 0 hB [] [] :=
  answer_two (P := fun w' => SesX w w' rb 4 g MA2 fm 0 hB [] []) ln3 _ _ _ (by decide) isW3 (glob_ext hg h.x) wd3 fun _ hx => with_get _ _ _ (by decide +kernel) ((sess_get ((sesB_s h).ext hx) ⟨#[97]⟩ (by decide)).mono fun _ _ hh => ⟨hh.1, (h.ext hx).ext hh.2⟩)
theorem line4 (hg : Tryz.Glob w) (h : SesX w W rb 4 g MA2 fm 0 hB [] []) :
    Calls Tryz.prog 12 #[.pointer (some ⟨rb, 0, none⟩), .string ln4] W fun e w' => e = .returned (.string (getT [entA] ⟨#[98]⟩)) ∧ SesX w w' rb 4 g MA2 fm 0 hB [] [] :=
  answer_two (P := fun w' => SesX w w' rb 4 g MA2 fm 0 hB [] []) ln4 _ _ _ (by decide) isW4 (glob_ext hg h.x) wd4 fun _ hx => with_get _ _ _ (by decide +kernel) ((sess_get ((sesB_s h).ext hx) ⟨#[98]⟩ (by decide)).mono fun _ _ hh => ⟨hh.1, (h.ext hx).ext hh.2⟩)
theorem line5 (hg : Tryz.Glob w) (h : SesX w W rb 4 g MA2 fm 0 hB [] []) :
    Calls Tryz.prog 12 #[.pointer (some ⟨rb, 0, none⟩), .string ln5] W fun e w' => e = .returned (.string okT) ∧ SesX w w' rb 7 g MA3 mA aA [] NA [] :=
  answer_one (P := fun w' => SesX w w' rb 7 g MA3 mA aA [] NA []) ln5 _ _ (by decide) isW5 (glob_ext hg h.x) wd5 fun _ hx => by
    obtain ⟨sb, hc, hF⟩ := sess_flushX (h.ext hx) (by decide) (by rw [left2]; decide) (by decide) nwA
    exact alone_flush _ sb (by decide +kernel) (fun _ _ hp hx => hp.ext hx) hc hF
theorem line6 (hg : Tryz.Glob w) (h : SesX w W rb 7 g MA3 mA aA [] NA []) :
    Calls Tryz.prog 12 #[.pointer (some ⟨rb, 0, none⟩), .string ln6] W fun e w' => e = .returned (.string (rowsT (pgE [entA] ⟨#[97]⟩ ((5 : Nat) : Int)))) ∧ SesX w w' rb 7 g MA3 mA aA [] NA [] :=
  answer_three (P := fun w' => SesX w w' rb 7 g MA3 mA aA [] NA []) ln6 _ _ _ _ (by decide) isW6 (glob_ext hg h.x) wd6 fun _ hx => two_page _ _ _ _ 5 (by decide +kernel) (by decide) num5 ((sess_page ((sesD_s h).ext hx) ⟨#[97]⟩ ((5 : Nat) : Int)).mono fun _ _ hh => ⟨hh.1, (h.ext hx).ext hh.2⟩)
theorem line7 (hg : Tryz.Glob w) (h : SesX w W rb 7 g MA3 mA aA [] NA []) :
    Calls Tryz.prog 12 #[.pointer (some ⟨rb, 0, none⟩), .string ln7] W fun e w' => e = .returned (.string (rowsT (pgE [entA] ⟨#[46]⟩ ((5 : Nat) : Int)))) ∧ SesX w w' rb 7 g MA3 mA aA [] NA [] :=
  answer_three (P := fun w' => SesX w w' rb 7 g MA3 mA aA [] NA []) ln7 _ _ _ _ (by decide) isW7 (glob_ext hg h.x) wd7 fun _ hx => two_page _ _ _ _ 5 (by decide +kernel) (by decide) num5 ((sess_page ((sesD_s h).ext hx) ⟨#[46]⟩ ((5 : Nat) : Int)).mono fun _ _ hh => ⟨hh.1, (h.ext hx).ext hh.2⟩)
theorem line8 (hg : Tryz.Glob w) (h : SesX w W rb 7 g MA3 mA aA [] NA []) :
    Calls Tryz.prog 12 #[.pointer (some ⟨rb, 0, none⟩), .string ln8] W fun e w' => e = .returned (.string (blkT cA 0 1)) ∧ SesX w w' rb 7 g MA3 mA aA [] NA [] :=
  answer_one (P := fun w' => SesX w w' rb 7 g MA3 mA aA [] NA []) ln8 _ _ (by decide) isW8 (glob_ext hg h.x) wd8 fun _ hx => by
    obtain ⟨cb, sb, A, hQ⟩ := (h.ext hx).blkQ (Nat.le_of_lt (Nat.lt_of_lt_of_le nwA (by decide))) odA cA 0 1 cntA3 spA1 spA2
    exact alone_blocks _ _ (by decide +kernel) ((blocks_any hQ (by decide) (by decide) blkA_len).mono fun _ _ hh => ⟨hh.1, (h.ext hx).ext hh.2⟩)
theorem line9 (hg : Tryz.Glob w) (h : SesX w W rb 7 g MA3 mA aA [] NA []) :
    Calls Tryz.prog 12 #[.pointer (some ⟨rb, 0, none⟩), .string ln9] W fun e w' => e = .returned (.string (errT 4)) ∧ SesX w w' rb 7 g MA3 mA aA [] NA [] :=
  answer_one (P := fun w' => SesX w w' rb 7 g MA3 mA aA [] NA []) ln9 _ _ (by decide) isW9 (glob_ext hg h.x) wd9 fun _ hx => (alone_other _ (by decide +kernel) (by decide +kernel) (by decide +kernel) (by decide +kernel) (by decide +kernel)).mono fun _ _ hh => ⟨hh.1, by rw [← hh.2]; exact h.ext hx⟩
end
end Go.Proofs.YtkibgflbidkalaaGreatDoor

/- ConsoleSays: a closed fact: a session. -/
namespace Go.Proofs.YtkibgflbidkalaaGreatDoor
open Go.RowKit Go.WideShapes

theorem strsB {w : World} {b : Nat} {xs : List ByteArray} (h : Blk w b (xs.map Value.string).toArray 9) : StrsAt w (some ⟨b, 0, none⟩) xs := fun _ => by
  refine ⟨b, 0, rfl, fun i x hi => ?_⟩
  rw [Nat.zero_add, h.cell]
  simp [hi]
def CA (i : Nat) (z : SS) : Prop := z = zA i
theorem ansA : (List.range helloL.length).map (fun i => helloA.getD i ⟨#[]⟩) = helloA := by decide +kernel
theorem step_to {w W : World} {rb : Nat} {g : Option (Nat × Obj)} {f : Nat} {args : Array Value} {T T' : ByteArray} {i : Nat} {P : World → Prop} (h : Calls Tryz.prog f args W fun e w' => e = .returned (.string T) ∧ P w') (hT : T = T') (hP : ∀ w', P w' → SesQ w w' rb g (CA i)) : Calls Tryz.prog f args W fun e w' => e = .returned (.string T') ∧ SesQ w w' rb g (CA i) :=
  h.mono fun _ _ hh => ⟨by rw [← hT]; exact hh.1, hP _ hh.2⟩
set_option maxRecDepth 20000 in
theorem hello_step {w : World} (hg : Tryz.Glob w) : ∀ (i : Nat) (s : ByteArray) g rb W, helloL[i]? = some s → SesQ w W rb g (CA i) → Calls Tryz.prog 12 #[.pointer (some ⟨rb, 0, none⟩), .string s] W fun e w' => e = .returned (.string (helloA.getD i ⟨#[]⟩)) ∧ SesQ w w' rb g (CA (i + 1)) := by
  intro i s g rb W hi hq
  obtain ⟨z, h, hz⟩ := hq.ex
  subst hz
  match i, hi, h with
  | 0, hi, h => cases hi; exact step_to (i := 1) (line0 hg h) rfl (fun _ hh => ⟨zA 1, hh, rfl⟩)
  | 1, hi, h => cases hi; exact step_to (i := 2) (line1 hg h) rfl (fun _ hh => ⟨zA 2, hh, rfl⟩)
  | 2, hi, h => cases hi; exact step_to (i := 3) (line2 hg h) tRows (fun _ hh => ⟨zA 3, hh, rfl⟩)
  | 3, hi, h => cases hi; exact step_to (i := 4) (line3 hg h) tGet1 (fun _ hh => ⟨zA 4, hh, rfl⟩)
  | 4, hi, h => cases hi; exact step_to (i := 5) (line4 hg h) tGet2 (fun _ hh => ⟨zA 5, hh, rfl⟩)
  | 5, hi, h => cases hi; exact step_to (i := 6) (line5 hg h) rfl (fun _ hh => ⟨zA 6, hh, rfl⟩)
  | 6, hi, h => cases hi; exact step_to (i := 7) (line6 hg h) tPage1 (fun _ hh => ⟨zA 7, hh, rfl⟩)
  | 7, hi, h => cases hi; exact step_to (i := 8) (line7 hg h) tPage2 (fun _ hh => ⟨zA 8, hh, rfl⟩)
  | 8, hi, h => cases hi; exact step_to (i := 9) (line8 hg h) blkA (fun _ hh => ⟨zA 9, hh, rfl⟩)
  | 9, hi, h => cases hi; exact step_to (i := 10) (line9 hg h) tErr4 (fun _ hh => ⟨zA 10, hh, rfl⟩)
  | i + 10, hi, h => exact absurd hi (by simp [helloL])
theorem hello_run (ao : Option Addr) (cap : Nat) (w : World) (hS : StrsAt w ao helloL) (hg : GlobT w) (hm : Tryz.Glob w) :
    Calls Tryz.prog 5 #[.slice ao 10 cap] w fun e w' => ∃ oo oc, e = .returned (.tuple #[.slice oo 10 oc, .nilIface]) ∧ StrsAt w' oo helloA ∧ Ext w w' := by
  have := run_by ao cap helloL w (by decide) hS hg CA (fun i => helloA.getD i ⟨#[]⟩) rfl (hello_step hm)
  rw [ansA] at this
  exact this
set_option maxRecDepth 20000 in
set_option maxHeartbeats 2000000 in
theorem hello_any (w : World) (hg : GlobT w) (hm : Tryz.Glob w) :
    Calls Tryz.prog 4 #[] w fun e w' => e = .returned (.bool true) ∧ Ext w w' := by
  have HR : Hid (∀ W b, Ext w W → Blk W b #[.string ⟨#[119, 114, 105, 116, 101, 32, 97, 61, 120, 32, 98, 61, 121]⟩, .string ⟨#[119, 114, 105, 116, 101, 32, 98]⟩, .string ⟨#[114, 111, 119, 115]⟩, .string ⟨#[103, 101, 116, 32, 97]⟩, .string ⟨#[103, 101, 116, 32, 98]⟩, .string ⟨#[102, 108, 117, 115, 104]⟩, .string ⟨#[112, 97, 103, 101, 32, 97, 32, 53]⟩, .string ⟨#[112, 97, 103, 101, 32, 46, 32, 53]⟩, .string ⟨#[98, 108, 111, 99, 107, 115]⟩, .string ⟨#[102, 108, 121]⟩] 9 → Calls Tryz.prog 5 #[.slice (some ⟨b, 0, none⟩) 10 10] W fun e w' => ∃ oo oc, e = .returned (.tuple #[.slice oo 10 oc, .nilIface]) ∧ Hid (StrsAt w' oo helloA) ∧ Ext W w') := fun W b hx hb => hello_run (some ⟨b, 0, none⟩) 10 W (strsB (xs := helloL) hb) (hg.ext hx) (glob_ext hm hx)
  have HSM : Hid (∀ W, Calls Tryz.prog 6 #[.nilIface, .int .i64 0] W fun e w' => e = .returned (.bool true) ∧ W = w') := fun W => by
    have := same_nil 0 W
    exact this.mono fun _ _ h => ⟨h.1, h.2.symm⟩
  have HST : Hid (∀ W oo oc b, StrsAt W oo helloA → Blk W b #[.string ⟨#[111, 107]⟩, .string ⟨#[111, 107]⟩, .string ⟨#[97, 61, 120]⟩, .string ⟨#[61, 120]⟩, .string ⟨#[101, 114, 114, 111, 114, 32, 53]⟩, .string ⟨#[111, 107]⟩, .string ⟨#[45]⟩, .string ⟨#[97, 61, 120]⟩, .string ⟨#[50, 48, 32, 50, 32, 49, 32, 49, 32, 48, 32, 48, 32, 119, 101, 97, 114, 32, 48, 32, 49]⟩, .string ⟨#[101, 114, 114, 111, 114, 32, 52]⟩] 9 → Calls Tryz.prog 8 #[.slice oo 10 oc, .slice (some ⟨b, 0, none⟩) 10 10] W fun e w' => e = .returned (.bool true) ∧ Ext W w') := fun W oo oc b h1 h2 => sameTexts_eq oo (some ⟨b, 0, none⟩) oc 10 helloA W (by decide) h1 (strsB (xs := helloA) h2)
  clear hg hm
  go_enter Tryz.func4, Tryz.ntmps4
  go_wp2_with (first
    | (go_at_call 5; refine (HR.out _ _ ((Ext.refl w).alloc _) (Blk.new _ _ _)).mono ?_; rintro e w1 ⟨oo, oc, rfl, hS1, hx1⟩)
    | (go_at_call 6; refine (HSM.out _).mono ?_; rintro e w2 ⟨rfl, rfl⟩)
    | (go_at_call 8; refine (HST.out _ oo oc _ (hS1.out.ext ((Ext.refl _).alloc _)) (Blk.new _ _ _)).mono ?_; rintro e w3 ⟨rfl, hx3⟩))
  go_ret
  exact ⟨rfl, (((Ext.refl w).alloc _).trans hx1).trans (((Ext.refl _).alloc _).trans hx3)⟩
theorem consoleSays_any (ao : Option Addr) (cap : Nat) (ls : List ByteArray) (w : World) (hg : GlobT w) (hm : Tryz.Glob w) (hl : ls.length ≤ 9223372036854775807) (hS : StrsAt w ao ls) :
    Calls Tryz.prog 3 #[.slice ao ls.length cap] w fun e w' => e = .returned (.bool true) ∧ Ext w w' := consoleSays_main ao cap ls w hg hm hl hS (hello_any w hg hm)
end Go.Proofs.YtkibgflbidkalaaGreatDoor
