/- SmnA LawA. -/
import Derived.Test.YtkibgflbidkalaaGreatDoorStoGJ
import Derived.Deep.RegionWith
import Derived.Test.YtkibgflbidkalaaGreatDoorTopRJ

/- The store's manifest, as it is handed out. -/
namespace Go.Proofs.YtkibgflbidkalaaGreatDoor
open Go.RowKit Go.WideShapes

structure ClnE (W w' : World) (e : Ending) (xs : List Int) : Prop where
  ex : ∃ bo c, e = .returned (.slice bo xs.length c) ∧ NumsAt w' bo xs ∧ Ext W w' ∧ ∀ p, bo = some p → W.heap.size ≤ p.block
set_option maxRecDepth 20000 in
set_option maxHeartbeats 2000000 in
theorem cloneN_any (ao : Option Addr) (cap : Nat) (xs : List Int) (w : World) (hl : xs.length ≤ 1000) (h : NumsAt w ao xs) :
    Calls Tryz.prog 170 #[.slice ao xs.length cap] w fun e w' => ClnE w w' e xs := by
  cases ao with
  | none =>
    have hq : ∀ (c : Nat) (w : World), (binOp .eql 71 (.slice none 0 c) (.slice none 0 0)).run Tryz.prog w = .ok (.bool true) w := fun _ _ => by kernel_rfl
    have hx : xs = [] := by
      by_cases hx : xs = []
      · exact hx
      · obtain ⟨b, off, e, _⟩ := h hx; cases e
    subst hx
    go_enter Tryz.func170, Tryz.ntmps170
    go_wp2
    go_ret
    exact ⟨none, 0, rfl, NumsAt.nil _ _, Ext.refl _, fun p e => by cases e⟩
  | some p =>
    have hq : ∀ (n c : Nat) (w : World), (binOp .eql 71 (.slice (some p) n c) (.slice none 0 0)).run Tryz.prog w = .ok (.bool false) w := fun _ _ _ => by kernel_rfl
    have hI : IL w (w.alloc (.cells #[] 3)) (.slice (some ⟨w.heap.size, 0, none⟩) 0 0) [] := ⟨World.ownsRow_made (base := w.heap.size) (e := 3) (size := 1) w #[] 0 (Nat.le_refl _) (by unfold maxLen; omega) (by simp), (Ext.refl w).alloc _⟩
    have h1 := h.ext ((Ext.refl w).alloc (.cells #[] 3))
    clear h
    go_enter Tryz.func170, Tryz.ntmps170
    go_wp2_with (at_builtin; refine wpList_app_nums rfl _ _ rfl w _ [] rfl hI (some p) cap xs rfl ?c1 ?c2 ?_)
    case c1 => exact h1
    case c2 => simp; omega
    intro v2 w2 hI2
    clear hI h1
    go_wp2
    go_ret
    obtain ⟨ao, c, hv, ha⟩ := hI2.at
    try simp only [List.nil_append] at hv ha
    refine ⟨ao, c, by rw [hv]; rfl, ha, hI2.ext, fun q e => ?_⟩
    exact (hI2.own.lt q.block (by rw [hv, e]; rfl)).1
theorem NumsAt.setX {w : World} {ao : Option Addr} {xs : List Int} (h : NumsAt w ao xs) {p : Addr} (hp : ∀ q, ao = some q → ¬ q.block = p.block) (u : Value) : NumsAt (w.setCell p u) ao xs := fun hne => by
  obtain ⟨b, off, e, hc⟩ := h hne
  refine ⟨b, off, e, fun i x hx => ?_⟩
  have hb : ¬ b = p.block := hp _ e
  rw [World.cell?_setCell_other _ _ _ _ (fun e => hb (by cases e; rfl))]
  exact hc i x hx
end Go.Proofs.YtkibgflbidkalaaGreatDoor

/- What the laws over a store walk with. -/
namespace Go.Proofs.YtkibgflbidkalaaGreatDoor
open Go.RowKit Go.WideShapes

theorem Up.lt {n : Nat} {w : World} {S : List Nat} {sb cb : Nat} {m : Man} {k : Nat} {R : List Ent} (h : Up n w S sb cb m k R) : ∀ b ∈ S, b < w.heap.size := by
  obtain ⟨M, a, x, N, O, h1, _⟩ := h.ex
  exact h1.lt
end Go.Proofs.YtkibgflbidkalaaGreatDoor
