/- SmnB. -/
import Derived.Test.YtkibgflbidkalaaDoorValAJ

/- The store's manifest, as it is handed out, in new memory. -/
namespace Go.Proofs.YtkibgflbidkalaaDoor
open Go.RowKit Go.WideShapes

/-- A manifest that is handed out, in new memory. -/
structure MnfN (w w' : World) (e : Ending) (m : Man) : Prop where
  ex : ∃ a1 c1 a2 c2, e = .returned (.agg #[.int .i64 m.ep, .int .i64 m.lg, .slice a1 m.nw.length c1, .slice a2 m.od.length c2]) ∧ NumsAt w' a1 m.nw ∧ NumsAt w' a2 m.od ∧ Ext w w' ∧ (∀ p, a1 = some p → w.heap.size ≤ p.block) ∧ ∀ p, a2 = some p → w.heap.size ≤ p.block
set_option maxRecDepth 20000 in
set_option maxHeartbeats 4000000 in
theorem manifestN_any (w : World) (S : List Nat) (sb cb : Nat) (M : CM) (m : Man) (a : Nat) (x : SMem) (h : StoAt w S sb cb M m a x) (hl1 : m.nw.length ≤ 100) (hl2 : m.od.length ≤ 100) :
    Calls Tryd.prog 13 #[.pointer (some ⟨sb, 0, none⟩)] w fun e w' => MnfN w w' e m := by
  have k1 := h.blk.cell 1
  have k2 := h.blk.cell 2
  have k3 := h.blk.cell 3
  have k4 := h.blk.cell 4
  simp [storeC] at k1 k2 k3 k4
  have hlt : sb < w.heap.size := h.blk.lt
  have C1 : Hid (∀ W, Ext w W → Calls Tryd.prog 35 #[.slice x.a1 m.nw.length x.c1] W fun e w' => ClnE W w' e m.nw) := fun W hx => cloneN_any x.a1 x.c1 m.nw W (by omega) (h.nw.ext hx)
  have C2 : Hid (∀ W, Ext w W → Calls Tryd.prog 35 #[.slice x.a2 m.od.length x.c2] W fun e w' => ClnE W w' e m.od) := fun W hx => cloneN_any x.a2 x.c2 m.od W (by omega) (h.od.ext hx)
  clear h hl1 hl2
  go_enter Tryd.func13, Tryd.ntmps13
  go_wp2
  have bx : Blk ((w.alloc (Obj.cells #[.int .i64 0, .int .i64 0, .slice none 0 0, .slice none 0 0] 42)).alloc (Obj.cells #[.int .i64 m.ep, .int .i64 m.lg, .slice x.a1 m.nw.length x.c1, .slice x.a2 m.od.length x.c2] 42)) (w.heap.size + 1) #[.int .i64 m.ep, .int .i64 m.lg, .slice x.a1 m.nw.length x.c1, .slice x.a2 m.od.length x.c2] 42 := Blk.new' _ _ _ (by simp)
  have br : Blk ((w.alloc (Obj.cells #[.int .i64 0, .int .i64 0, .slice none 0 0, .slice none 0 0] 42)).alloc (Obj.cells #[.int .i64 m.ep, .int .i64 m.lg, .slice x.a1 m.nw.length x.c1, .slice x.a2 m.od.length x.c2] 42)) w.heap.size #[.int .i64 0, .int .i64 0, .slice none 0 0, .slice none 0 0] 42 := (Blk.new _ _ _).alloc _
  have hxa : Ext w ((w.alloc (Obj.cells #[.int .i64 0, .int .i64 0, .slice none 0 0, .slice none 0 0] 42)).alloc (Obj.cells #[.int .i64 m.ep, .int .i64 m.lg, .slice x.a1 m.nw.length x.c1, .slice x.a2 m.od.length x.c2] 42)) := ((Ext.refl w).alloc _).alloc _
  generalize ((w.alloc (Obj.cells #[.int .i64 0, .int .i64 0, .slice none 0 0, .slice none 0 0] 42)).alloc (Obj.cells #[.int .i64 m.ep, .int .i64 m.lg, .slice x.a1 m.nw.length x.c1, .slice x.a2 m.od.length x.c2] 42)) = wa at *
  have y2 : wa.cell? ⟨w.heap.size + 1, 2, none⟩ = some (.slice x.a1 m.nw.length x.c1) := bx.cell 2
  have y3 : wa.cell? ⟨w.heap.size + 1, 3, none⟩ = some (.slice x.a2 m.od.length x.c2) := bx.cell 3
  have HBX : Hid (Blk wa (w.heap.size + 1) #[.int .i64 m.ep, .int .i64 m.lg, .slice x.a1 m.nw.length x.c1, .slice x.a2 m.od.length x.c2] 42 ∧ Blk wa w.heap.size #[.int .i64 0, .int .i64 0, .slice none 0 0, .slice none 0 0] 42) := ⟨bx, br⟩
  have HXA : Hid (Ext w wa) := hxa
  clear bx br hxa k1 k2 k3 k4
  go_region_with (first
    | (go_at_call_of 35 (Value.slice x.a1 m.nw.length x.c1); refine (C1.out _ ?_).mono ?_; exact HXA.out.trans (by repeat (first | assumption | exact Ext.refl _ | refine Ext.drew ?_ | refine Ext.drewN ?_ _ | refine Ext.alloc ?_ _)); rintro e w3 ⟨bo, bc, rfl, hN3, hx3, hg3⟩; have hX3 : Ext wa w3 := Ext.trans (by repeat (first | assumption | exact Ext.refl _ | refine Ext.drew ?_ | refine Ext.drewN ?_ _ | refine Ext.alloc ?_ _)) hx3; have y2 : w3.cell? ⟨w.heap.size + 1, 2, none⟩ = some (.slice x.a1 m.nw.length x.c1) := (HBX.out.1.ext hX3).cell 2; have y3 : w3.cell? ⟨w.heap.size + 1, 3, none⟩ = some (.slice x.a2 m.od.length x.c2) := (HBX.out.1.ext hX3).cell 3; have z2 := (HBX.out.1.ext hX3).free 2; have z3 := (HBX.out.1.ext hX3).free 3)
    | (go_at_call_of 35 (Value.slice x.a2 m.od.length x.c2); refine (C2.out _ ?_).mono ?_; exact HXA.out.trans (by repeat (first | assumption | exact Ext.refl _ | refine Ext.drew ?_ | refine Ext.drewN ?_ _ | refine Ext.alloc ?_ _)); rintro e w4 ⟨co, cc, rfl, hN4, hx4, hg4⟩; have hX4 : Ext wa w4 := Ext.trans (by repeat (first | assumption | exact Ext.refl _ | refine Ext.drew ?_ | refine Ext.drewN ?_ _ | refine Ext.alloc ?_ _)) hx4; have y2 : w4.cell? ⟨w.heap.size + 1, 2, none⟩ = some (.slice x.a1 m.nw.length x.c1) := (HBX.out.1.ext hX4).cell 2; have y3 : w4.cell? ⟨w.heap.size + 1, 3, none⟩ = some (.slice x.a2 m.od.length x.c2) := (HBX.out.1.ext hX4).cell 3; have z2 := (HBX.out.1.ext hX4).free 2; have z3 := (HBX.out.1.ext hX4).free 3))
  all_goals
    have hlt3 : wa.heap.size ≤ w3.heap.size := hX3.size
    have hlt4 : wa.heap.size ≤ w4.heap.size := hX4.size
    have hla : w.heap.size + 1 < wa.heap.size := HBX.out.1.lt
    have HGG : Hid ((∀ p, bo = some p → ¬ p.block = w.heap.size) ∧ ∀ p, co = some p → ¬ p.block = w.heap.size) := ⟨fun p e => by have := hg3 p e; (try simp at this); omega, fun p e => by have := hg4 p e; (try simp at this); omega⟩
    have HGN : Hid ((∀ p, bo = some p → w.heap.size ≤ p.block) ∧ ∀ p, co = some p → w.heap.size ≤ p.block) := ⟨fun p e => by have := hg3 p e; (try simp at this); omega, fun p e => by have := hg4 p e; (try simp at this); omega⟩
    have b5 := (((HBX.out.1.ext hX4).set 2 (.slice bo m.nw.length bc)).set 3 (.slice co m.od.length cc))
    have r5 := (((HBX.out.2.ext hX4).other (a := ⟨w.heap.size + 1, 2, none⟩) (by simp) (.slice bo m.nw.length bc)).other (a := ⟨w.heap.size + 1, 3, none⟩) (by simp) (.slice co m.od.length cc))
    have n1 := ((hN3.ext hx4).setX (p := ⟨w.heap.size + 1, 2, none⟩) (fun q e => by have := hg3 q e; (try simp at this); simp; omega) (.slice bo m.nw.length bc)).setX (p := ⟨w.heap.size + 1, 3, none⟩) (fun q e => by have := hg3 q e; (try simp at this); simp; omega) (.slice co m.od.length cc)
    have n2 := (hN4.setX (p := ⟨w.heap.size + 1, 2, none⟩) (fun q e => by have := hg4 q e; (try simp at this); simp; omega) (.slice bo m.nw.length bc)).setX (p := ⟨w.heap.size + 1, 3, none⟩) (fun q e => by have := hg4 q e; (try simp at this); simp; omega) (.slice co m.od.length cc)
    have hx5 := ((HXA.out.trans hX4).set (p := ⟨w.heap.size + 1, 2, none⟩) (by simp) (.slice bo m.nw.length bc)).set (p := ⟨w.heap.size + 1, 3, none⟩) (by simp) (.slice co m.od.length cc)
    simp only [Array.setIfInBounds] at b5
    clear hN3 hN4 hX3 hX4 hx3 hx4 hg3 hg4 C1 C2 HBX HXA
    generalize (w4.setCell ⟨w.heap.size + 1, 2, none⟩ (.slice bo m.nw.length bc)).setCell ⟨w.heap.size + 1, 3, none⟩ (.slice co m.od.length cc) = wf at *
    have u0 : wf.cell? ⟨w.heap.size + 1, 0, none⟩ = some (.int .i64 m.ep) := b5.cell 0
    have u1 : wf.cell? ⟨w.heap.size + 1, 1, none⟩ = some (.int .i64 m.lg) := b5.cell 1
    have u2 : wf.cell? ⟨w.heap.size + 1, 2, none⟩ = some (.slice bo m.nw.length bc) := b5.cell 2
    have u3 : wf.cell? ⟨w.heap.size + 1, 3, none⟩ = some (.slice co m.od.length cc) := b5.cell 3
    have v0 : wf.cell? ⟨w.heap.size, 0, none⟩ = some (.int .i64 0) := r5.cell 0
    have v1 : wf.cell? ⟨w.heap.size, 1, none⟩ = some (.int .i64 0) := r5.cell 1
    have v2 : wf.cell? ⟨w.heap.size, 2, none⟩ = some (.slice none 0 0) := r5.cell 2
    have v3 : wf.cell? ⟨w.heap.size, 3, none⟩ = some (.slice none 0 0) := r5.cell 3
    have z0 := r5.free 0
    have z1 := r5.free 1
    have z2 := r5.free 2
    have z3 := r5.free 3
    have HN : Hid (NumsAt wf bo m.nw ∧ NumsAt wf co m.od ∧ Ext w wf) := ⟨n1, n2, hx5⟩
    have HG : Hid ((∀ p, bo = some p → ¬ p.block = w.heap.size) ∧ ∀ p, co = some p → ¬ p.block = w.heap.size) := HGG.out
    clear b5 r5 n1 n2 hx5
    go_wp2
    refine bodyPost_ret (v := .agg #[.int .i64 m.ep, .int .i64 m.lg, .slice bo m.nw.length bc, .slice co m.od.length cc]) (by simp [results, go_sem, v0, v1, v2, v3]) rfl ?_
    refine ⟨bo, bc, co, cc, rfl, ?_, ?_, ?_, HGN.out.1, HGN.out.2⟩
    · exact ((((HN.out.1.setX (p := ⟨w.heap.size, 0, none⟩) HG.out.1 _).setX (p := ⟨w.heap.size, 1, none⟩) HG.out.1 _).setX (p := ⟨w.heap.size, 2, none⟩) HG.out.1 _).setX (p := ⟨w.heap.size, 3, none⟩) HG.out.1 _)
    · exact ((((HN.out.2.1.setX (p := ⟨w.heap.size, 0, none⟩) HG.out.2 _).setX (p := ⟨w.heap.size, 1, none⟩) HG.out.2 _).setX (p := ⟨w.heap.size, 2, none⟩) HG.out.2 _).setX (p := ⟨w.heap.size, 3, none⟩) HG.out.2 _)
    · exact ((((HN.out.2.2.set (p := ⟨w.heap.size, 0, none⟩) (Nat.le_refl _) _).set (p := ⟨w.heap.size, 1, none⟩) (Nat.le_refl _) _).set (p := ⟨w.heap.size, 2, none⟩) (Nat.le_refl _) _).set (p := ⟨w.heap.size, 3, none⟩) (Nat.le_refl _) _)
end Go.Proofs.YtkibgflbidkalaaDoor
