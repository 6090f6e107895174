/- SmnA LawA. -/
import Derived.Test.YtkibgflbidkalaaDoorStoGJ
import Derived.Deep.RegionWith
import Derived.Test.YtkibgflbidkalaaDoorTopRJ

/- The store's manifest, as it is handed out. -/
namespace Go.Proofs.YtkibgflbidkalaaDoor
open Go.RowKit Go.WideShapes

/-- A list of numbers that was copied. -/
structure ClnE (W w' : World) (e : Ending) (xs : List Int) : Prop where
  ex : ∃ bo c, e = .returned (.slice bo xs.length c) ∧ NumsAt w' bo xs ∧ Ext W w' ∧ ∀ p, bo = some p → W.heap.size ≤ p.block
set_option maxRecDepth 20000 in
set_option maxHeartbeats 2000000 in
theorem cloneN_any (ao : Option Addr) (cap : Nat) (xs : List Int) (w : World) (hl : xs.length ≤ 1000) (h : NumsAt w ao xs) :
    Calls Tryd.prog 35 #[.slice ao xs.length cap] w fun e w' => ClnE w w' e xs := by
  cases ao with
  | none =>
    have hq : ∀ (c : Nat) (w : World), (binOp .eql 40 (.slice none 0 c) (.slice none 0 0)).run Tryd.prog w = .ok (.bool true) w := fun _ _ => by kernel_rfl
    have hx : xs = [] := by
      by_cases hx : xs = []
      · exact hx
      · obtain ⟨b, off, e, _⟩ := h hx; cases e
    subst hx
    go_enter Tryd.func35, Tryd.ntmps35
    go_wp2
    go_ret
    exact ⟨none, 0, rfl, NumsAt.nil _ _, Ext.refl _, fun p e => by cases e⟩
  | some p =>
    have hq : ∀ (n c : Nat) (w : World), (binOp .eql 40 (.slice (some p) n c) (.slice none 0 0)).run Tryd.prog w = .ok (.bool false) w := fun _ _ _ => by kernel_rfl
    have hI : IL w (w.alloc (.cells #[] 3)) (.slice (some ⟨w.heap.size, 0, none⟩) 0 0) [] := ⟨World.ownsRow_made (base := w.heap.size) (e := 3) (size := 1) w #[] 0 (Nat.le_refl _) (by unfold maxLen; omega) (by simp), (Ext.refl w).alloc _⟩
    have h1 := h.ext ((Ext.refl w).alloc (.cells #[] 3))
    clear h
    go_enter Tryd.func35, Tryd.ntmps35
    go_wp2_with (at_builtin; refine wpList_app_nums rfl _ _ rfl w _ [] rfl hI (some p) cap xs rfl ?c1 ?c2 ?_)
    case c1 => exact h1
    case c2 => simp; omega
    intro v2 w2 hI2
    clear hI h1
    go_wp2
    go_ret
    obtain ⟨ao, c, hv, ha⟩ := hI2.at
    try simp only [List.nil_append] at hv ha
    refine ⟨ao, c, by rw [hv]; rfl, ha, hI2.ext, fun q e => ?_⟩
    exact (hI2.own.lt q.block (by rw [hv, e]; rfl)).1
theorem NumsAt.setX {w : World} {ao : Option Addr} {xs : List Int} (h : NumsAt w ao xs) {p : Addr} (hp : ∀ q, ao = some q → ¬ q.block = p.block) (u : Value) : NumsAt (w.setCell p u) ao xs := fun hne => by
  obtain ⟨b, off, e, hc⟩ := h hne
  refine ⟨b, off, e, fun i x hx => ?_⟩
  have hb : ¬ b = p.block := hp _ e
  rw [World.cell?_setCell_other _ _ _ _ (fun e => hb (by cases e; rfl))]
  exact hc i x hx
/-- A manifest that is handed out. -/
structure MnfE (w w' : World) (e : Ending) (m : Man) : Prop where
  ex : ∃ a1 c1 a2 c2, e = .returned (.agg #[.int .i64 m.ep, .int .i64 m.lg, .slice a1 m.nw.length c1, .slice a2 m.od.length c2]) ∧ NumsAt w' a1 m.nw ∧ NumsAt w' a2 m.od ∧ Ext w w'
set_option maxRecDepth 20000 in
set_option maxHeartbeats 4000000 in
theorem manifest_any (w : World) (S : List Nat) (sb cb : Nat) (M : CM) (m : Man) (a : Nat) (x : SMem) (h : StoAt w S sb cb M m a x) (hl1 : m.nw.length ≤ 100) (hl2 : m.od.length ≤ 100) :
    Calls Tryd.prog 13 #[.pointer (some ⟨sb, 0, none⟩)] w fun e w' => MnfE w w' e m := by
  have k1 := h.blk.cell 1
  have k2 := h.blk.cell 2
  have k3 := h.blk.cell 3
  have k4 := h.blk.cell 4
  simp [storeC] at k1 k2 k3 k4
  have hlt : sb < w.heap.size := h.blk.lt
  have C1 : Hid (∀ W, Ext w W → Calls Tryd.prog 35 #[.slice x.a1 m.nw.length x.c1] W fun e w' => ClnE W w' e m.nw) := fun W hx => cloneN_any x.a1 x.c1 m.nw W (by omega) (h.nw.ext hx)
  have C2 : Hid (∀ W, Ext w W → Calls Tryd.prog 35 #[.slice x.a2 m.od.length x.c2] W fun e w' => ClnE W w' e m.od) := fun W hx => cloneN_any x.a2 x.c2 m.od W (by omega) (h.od.ext hx)
  clear h hl1 hl2
  go_enter Tryd.func13, Tryd.ntmps13
  go_wp2
  have bx : Blk ((w.alloc (Obj.cells #[.int .i64 0, .int .i64 0, .slice none 0 0, .slice none 0 0] 42)).alloc (Obj.cells #[.int .i64 m.ep, .int .i64 m.lg, .slice x.a1 m.nw.length x.c1, .slice x.a2 m.od.length x.c2] 42)) (w.heap.size + 1) #[.int .i64 m.ep, .int .i64 m.lg, .slice x.a1 m.nw.length x.c1, .slice x.a2 m.od.length x.c2] 42 := Blk.new' _ _ _ (by simp)
  have br : Blk ((w.alloc (Obj.cells #[.int .i64 0, .int .i64 0, .slice none 0 0, .slice none 0 0] 42)).alloc (Obj.cells #[.int .i64 m.ep, .int .i64 m.lg, .slice x.a1 m.nw.length x.c1, .slice x.a2 m.od.length x.c2] 42)) w.heap.size #[.int .i64 0, .int .i64 0, .slice none 0 0, .slice none 0 0] 42 := (Blk.new _ _ _).alloc _
  have hxa : Ext w ((w.alloc (Obj.cells #[.int .i64 0, .int .i64 0, .slice none 0 0, .slice none 0 0] 42)).alloc (Obj.cells #[.int .i64 m.ep, .int .i64 m.lg, .slice x.a1 m.nw.length x.c1, .slice x.a2 m.od.length x.c2] 42)) := ((Ext.refl w).alloc _).alloc _
  generalize ((w.alloc (Obj.cells #[.int .i64 0, .int .i64 0, .slice none 0 0, .slice none 0 0] 42)).alloc (Obj.cells #[.int .i64 m.ep, .int .i64 m.lg, .slice x.a1 m.nw.length x.c1, .slice x.a2 m.od.length x.c2] 42)) = wa at *
  have y2 : wa.cell? ⟨w.heap.size + 1, 2, none⟩ = some (.slice x.a1 m.nw.length x.c1) := bx.cell 2
  have y3 : wa.cell? ⟨w.heap.size + 1, 3, none⟩ = some (.slice x.a2 m.od.length x.c2) := bx.cell 3
  have HBX : Hid (Blk wa (w.heap.size + 1) #[.int .i64 m.ep, .int .i64 m.lg, .slice x.a1 m.nw.length x.c1, .slice x.a2 m.od.length x.c2] 42 ∧ Blk wa w.heap.size #[.int .i64 0, .int .i64 0, .slice none 0 0, .slice none 0 0] 42) := ⟨bx, br⟩
  have HXA : Hid (Ext w wa) := hxa
  clear bx br hxa k1 k2 k3 k4
  go_region_with (first
    | (go_at_call_of 35 (Value.slice x.a1 m.nw.length x.c1); refine (C1.out _ ?_).mono ?_; exact HXA.out.trans (by repeat (first | assumption | exact Ext.refl _ | refine Ext.drew ?_ | refine Ext.drewN ?_ _ | refine Ext.alloc ?_ _)); rintro e w3 ⟨bo, bc, rfl, hN3, hx3, hg3⟩; have hX3 : Ext wa w3 := Ext.trans (by repeat (first | assumption | exact Ext.refl _ | refine Ext.drew ?_ | refine Ext.drewN ?_ _ | refine Ext.alloc ?_ _)) hx3; have y2 : w3.cell? ⟨w.heap.size + 1, 2, none⟩ = some (.slice x.a1 m.nw.length x.c1) := (HBX.out.1.ext hX3).cell 2; have y3 : w3.cell? ⟨w.heap.size + 1, 3, none⟩ = some (.slice x.a2 m.od.length x.c2) := (HBX.out.1.ext hX3).cell 3; have z2 := (HBX.out.1.ext hX3).free 2; have z3 := (HBX.out.1.ext hX3).free 3)
    | (go_at_call_of 35 (Value.slice x.a2 m.od.length x.c2); refine (C2.out _ ?_).mono ?_; exact HXA.out.trans (by repeat (first | assumption | exact Ext.refl _ | refine Ext.drew ?_ | refine Ext.drewN ?_ _ | refine Ext.alloc ?_ _)); rintro e w4 ⟨co, cc, rfl, hN4, hx4, hg4⟩; have hX4 : Ext wa w4 := Ext.trans (by repeat (first | assumption | exact Ext.refl _ | refine Ext.drew ?_ | refine Ext.drewN ?_ _ | refine Ext.alloc ?_ _)) hx4; have y2 : w4.cell? ⟨w.heap.size + 1, 2, none⟩ = some (.slice x.a1 m.nw.length x.c1) := (HBX.out.1.ext hX4).cell 2; have y3 : w4.cell? ⟨w.heap.size + 1, 3, none⟩ = some (.slice x.a2 m.od.length x.c2) := (HBX.out.1.ext hX4).cell 3; have z2 := (HBX.out.1.ext hX4).free 2; have z3 := (HBX.out.1.ext hX4).free 3))
  all_goals
    have hlt3 : wa.heap.size ≤ w3.heap.size := hX3.size
    have hlt4 : wa.heap.size ≤ w4.heap.size := hX4.size
    have hla : w.heap.size + 1 < wa.heap.size := HBX.out.1.lt
    have HGG : Hid ((∀ p, bo = some p → ¬ p.block = w.heap.size) ∧ ∀ p, co = some p → ¬ p.block = w.heap.size) := ⟨fun p e => by have := hg3 p e; (try simp at this); omega, fun p e => by have := hg4 p e; (try simp at this); omega⟩
    have b5 := (((HBX.out.1.ext hX4).set 2 (.slice bo m.nw.length bc)).set 3 (.slice co m.od.length cc))
    have r5 := (((HBX.out.2.ext hX4).other (a := ⟨w.heap.size + 1, 2, none⟩) (by simp) (.slice bo m.nw.length bc)).other (a := ⟨w.heap.size + 1, 3, none⟩) (by simp) (.slice co m.od.length cc))
    have n1 := ((hN3.ext hx4).setX (p := ⟨w.heap.size + 1, 2, none⟩) (fun q e => by have := hg3 q e; (try simp at this); simp; omega) (.slice bo m.nw.length bc)).setX (p := ⟨w.heap.size + 1, 3, none⟩) (fun q e => by have := hg3 q e; (try simp at this); simp; omega) (.slice co m.od.length cc)
    have n2 := (hN4.setX (p := ⟨w.heap.size + 1, 2, none⟩) (fun q e => by have := hg4 q e; (try simp at this); simp; omega) (.slice bo m.nw.length bc)).setX (p := ⟨w.heap.size + 1, 3, none⟩) (fun q e => by have := hg4 q e; (try simp at this); simp; omega) (.slice co m.od.length cc)
    have hx5 := ((HXA.out.trans hX4).set (p := ⟨w.heap.size + 1, 2, none⟩) (by simp) (.slice bo m.nw.length bc)).set (p := ⟨w.heap.size + 1, 3, none⟩) (by simp) (.slice co m.od.length cc)
    simp only [Array.setIfInBounds] at b5
    clear hN3 hN4 hX3 hX4 hx3 hx4 hg3 hg4 C1 C2 HBX HXA
    generalize (w4.setCell ⟨w.heap.size + 1, 2, none⟩ (.slice bo m.nw.length bc)).setCell ⟨w.heap.size + 1, 3, none⟩ (.slice co m.od.length cc) = wf at *
    have u0 : wf.cell? ⟨w.heap.size + 1, 0, none⟩ = some (.int .i64 m.ep) := b5.cell 0
    have u1 : wf.cell? ⟨w.heap.size + 1, 1, none⟩ = some (.int .i64 m.lg) := b5.cell 1
    have u2 : wf.cell? ⟨w.heap.size + 1, 2, none⟩ = some (.slice bo m.nw.length bc) := b5.cell 2
    have u3 : wf.cell? ⟨w.heap.size + 1, 3, none⟩ = some (.slice co m.od.length cc) := b5.cell 3
    have v0 : wf.cell? ⟨w.heap.size, 0, none⟩ = some (.int .i64 0) := r5.cell 0
    have v1 : wf.cell? ⟨w.heap.size, 1, none⟩ = some (.int .i64 0) := r5.cell 1
    have v2 : wf.cell? ⟨w.heap.size, 2, none⟩ = some (.slice none 0 0) := r5.cell 2
    have v3 : wf.cell? ⟨w.heap.size, 3, none⟩ = some (.slice none 0 0) := r5.cell 3
    have z0 := r5.free 0
    have z1 := r5.free 1
    have z2 := r5.free 2
    have z3 := r5.free 3
    have HN : Hid (NumsAt wf bo m.nw ∧ NumsAt wf co m.od ∧ Ext w wf) := ⟨n1, n2, hx5⟩
    have HG : Hid ((∀ p, bo = some p → ¬ p.block = w.heap.size) ∧ ∀ p, co = some p → ¬ p.block = w.heap.size) := HGG.out
    clear b5 r5 n1 n2 hx5
    go_wp2
    refine bodyPost_ret (v := .agg #[.int .i64 m.ep, .int .i64 m.lg, .slice bo m.nw.length bc, .slice co m.od.length cc]) (by simp [results, go_sem, v0, v1, v2, v3]) rfl ?_
    refine ⟨bo, bc, co, cc, rfl, ?_, ?_, ?_⟩
    · exact ((((HN.out.1.setX (p := ⟨w.heap.size, 0, none⟩) HG.out.1 _).setX (p := ⟨w.heap.size, 1, none⟩) HG.out.1 _).setX (p := ⟨w.heap.size, 2, none⟩) HG.out.1 _).setX (p := ⟨w.heap.size, 3, none⟩) HG.out.1 _)
    · exact ((((HN.out.2.1.setX (p := ⟨w.heap.size, 0, none⟩) HG.out.2 _).setX (p := ⟨w.heap.size, 1, none⟩) HG.out.2 _).setX (p := ⟨w.heap.size, 2, none⟩) HG.out.2 _).setX (p := ⟨w.heap.size, 3, none⟩) HG.out.2 _)
    · exact ((((HN.out.2.2.set (p := ⟨w.heap.size, 0, none⟩) (Nat.le_refl _) _).set (p := ⟨w.heap.size, 1, none⟩) (Nat.le_refl _) _).set (p := ⟨w.heap.size, 2, none⟩) (Nat.le_refl _) _).set (p := ⟨w.heap.size, 3, none⟩) (Nat.le_refl _) _)
end Go.Proofs.YtkibgflbidkalaaDoor

/- What the laws over a store walk with. -/
namespace Go.Proofs.YtkibgflbidkalaaDoor
open Go.RowKit Go.WideShapes

theorem Up.lt {n : Nat} {w : World} {S : List Nat} {sb cb : Nat} {m : Man} {k : Nat} {R : List Ent} (h : Up n w S sb cb m k R) : ∀ b ∈ S, b < w.heap.size := by
  obtain ⟨M, a, x, N, O, h1, _⟩ := h.ex
  exact h1.lt
theorem Up.nums {n : Nat} {w : World} {S : List Nat} {sb cb : Nat} {m : Man} {k : Nat} {R : List Ent} (h : Up n w S sb cb m k R) : m.nw.length ≤ 2 ∧ m.od.length ≤ 3 := by
  obtain ⟨M, a, x, N, O, h1, h2, _, _, _, h6⟩ := h.ex
  rw [h2.nw, h2.od]
  simp only [List.length_map]
  exact ⟨h6, h2.few'⟩
theorem RetE.aside {w w' : World} {v : Value} {es : List Ent} {S : List Nat} (h : RetE w w' v es) (hS : ∀ b ∈ S, b < w.heap.size) : ∃ ao c, v = .slice ao es.length c ∧ Aside2 w' S ao es ∧ Ext w w' := by
  obtain ⟨ao, c, h1, _, h3, h4, h5⟩ := h.ex
  refine ⟨ao, c, h1, ⟨h3, fun p e => ?_, fun p e hm => ?_⟩, h5⟩
  · obtain ⟨_, cs, hb⟩ := h4 p e
    exact hb.lt
  · have := (h4 p e).1
    have := hS _ hm
    omega
theorem openH (w : World) (n k : Nat) (R : List Ent) : Hid (∀ W S sb cb m, Ext w W → Up n W S sb cb m k R → Calls Tryd.prog 19 #[.pointer (some ⟨cb, 0, none⟩)] W fun e w' => ∃ tb T, e = .returned (.tuple #[.pointer (some ⟨tb, 0, none⟩), .nilIface]) ∧ Up n w' T tb cb m k R ∧ Ext W w' ∧ Ext w w') := fun W S sb cb m hx hU => hU.open.mono fun _ _ h => by
  obtain ⟨tb, T, h1, h2, h3, _⟩ := h
  exact ⟨tb, T, h1, h2, h3, hx.trans h3⟩
theorem manH (w : World) (n k : Nat) (R : List Ent) : Hid (∀ W S sb cb m, Ext w W → Up n W S sb cb m k R → Calls Tryd.prog 13 #[.pointer (some ⟨sb, 0, none⟩)] W fun e w' => ∃ a1 c1 a2 c2, e = .returned (.agg #[.int .i64 m.ep, .int .i64 m.lg, .slice a1 m.nw.length c1, .slice a2 m.od.length c2]) ∧ (NumsAt w' a1 m.nw ∧ NumsAt w' a2 m.od) ∧ Ext W w' ∧ Ext w w') := fun W S sb cb m hx hU => by
  have hn := hU.nums
  obtain ⟨M, a, x, N, O, h1, _⟩ := hU.ex
  refine (manifest_any W S sb cb M m a x h1 (by omega) (by omega)).mono fun _ _ h => ?_
  obtain ⟨a1, c1, a2, c2, h1, h2, h3, h4⟩ := h.ex
  exact ⟨a1, c1, a2, c2, h1, ⟨h2, h3⟩, h4, hx.trans h4⟩
/-- Something has been done to a store that lies behind w: what is held aside stays. -/
structure FarE (w W w' : World) (S : List Nat) (n sb cb k : Nat) (R : List Ent) (P : Nat → Man → Prop) : Prop where
  ex : ∃ S' m, Up n w' S' sb cb m k R ∧ Ext w w' ∧ (∀ b ∈ S', w.heap.size ≤ b) ∧ P cb m ∧ ∀ ro l, Aside2 W S ro l → Aside2 w' S' ro l
theorem OpEnd.farE {n : Nat} {w W w' : World} {S : List Nat} {sb cb : Nat} {M : CM} {R : List Ent} {Pf : List Ent → Prop} {Q : CM → Man → List Ent → List Tb → Prop} {e : Ending} {k : Nat} {P : Nat → Man → Prop} (h : OpEnd n W w' S sb cb M (· = R) Pf Q e) (hl : M.left = -1) (hk : wkN M.wk ≤ k) (hx : Ext w W) (hS : ∀ b ∈ S, w.heap.size ≤ b)
    (h2 : ∀ M' m' hand' N', Q M' m' hand' N' → N'.length ≤ 2) (hP : ∀ S' M' m' a' x' N' O', StoAt w' S' sb cb M' m' a' x' → Inv n M' m' a' (x'.ns.map Nd.e) N' O' → Q M' m' (x'.ns.map Nd.e) N' → P cb m') : e = .returned .nilIface ∧ FarE w W w' S n sb cb k R P := by
  cases h with
  | ok M' m' a' x' S' N' O' he hs hi hr hl' hq hw hk' hS' hQ =>
    have := hx.size
    exact ⟨he, ⟨S', m', ⟨M', a', x', N', O', hs, hi, hr, by rw [hl' (by omega)]; exact hl, by rw [hw]; exact hk, h2 _ _ _ _ hQ⟩, Kp.ext hx hk' hS, fun b hb => by rcases hS' b hb with h' | h'; exact hS b h'; omega, hP _ _ _ _ _ _ _ hs hi hQ, fun ro l hA => hA.kp hk' hS'⟩⟩
  | fell M' he hl' => exact absurd (show M.left < 0 by omega) hl'
theorem compactH (w : World) (n k : Nat) (R : List Ent) (hn : n ≤ 80000) : Hid (∀ W S sb cb m, Ext w W → (∀ b ∈ S, w.heap.size ≤ b) → Up n W S sb cb m k R → Calls Tryd.prog 11 #[.pointer (some ⟨sb, 0, none⟩)] W fun e w' => e = .returned .nilIface ∧ FarE w W w' S (n + 9) sb cb k R (fun _ m' => m'.nw = [])) := fun W S sb cb m hx hS h => by
  obtain ⟨M, a, x, N, O, h1, h2, h3, h4, h5⟩ := h.ex
  have := compact_any n W S sb cb M m a x N O h1 h2 (by omega) (by omega)
  rw [h3] at this
  exact this.mono fun _ _ hO => (hO.le (by omega)).farE h4 h5.1 hx hS (fun _ _ _ _ hq => by rw [hq.1]; simp) (fun _ _ _ _ _ _ _ _ hi hq => by rw [hi.nw, hq.1]; rfl)
/-- The log of the store is blank. -/
def LogNo (w' : World) (cb : Nat) (m : Man) : Prop := (∀ W', Ext w' W' → Calls Tryd.prog 84 #[.pointer (some ⟨cb, 0, none⟩), .int .i64 m.lg] W' fun e w'' => e = .returned (.int .i64 0) ∧ W' = w'')
theorem flushH (w : World) (n k : Nat) (R : List Ent) (hn : n ≤ 80000) : Hid (∀ W S sb cb m, Ext w W → (∀ b ∈ S, w.heap.size ≤ b) → Up n W S sb cb m k R → Calls Tryd.prog 10 #[.pointer (some ⟨sb, 0, none⟩)] W fun e w' => e = .returned .nilIface ∧ FarE w W w' S (n + 9) sb cb k R (LogNo w')) := fun W S sb cb m hx hS h => by
  obtain ⟨M, a, x, N, O, h1, h2, h3, h4, h5⟩ := h.ex
  have := flush_any n W S sb cb M m a x N O h1 h2 (by omega) hn
  rw [h3] at this
  refine this.mono fun _ w' hO => hO.farE h4 h5.1 hx hS (fun _ _ _ _ hq => hq.1) (fun S' M' m' a' x' N' O' hs hi hq => ?_)
  obtain ⟨_, _, ⟨g, hg, hp, _⟩, _⟩ := hq
  intro W' hx'
  have hlt : g < 24 := by
    have := (man_names hi.ok).1 m'.lg (by simp)
    omega
  rw [hg]
  refine (next_any cb g M' W' hlt (hs.chip.ext hx')).mono fun _ _ h => ⟨?_, h.2.symm⟩
  rw [h.1, hp]
  rfl
end Go.Proofs.YtkibgflbidkalaaDoor
