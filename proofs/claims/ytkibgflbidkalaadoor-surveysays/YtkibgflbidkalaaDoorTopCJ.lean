/- TopC. -/
import Derived.Test.YtkibgflbidkalaaDoorSrvEJ
import Derived.Deep.RegionHeld3

/- TopCounts. -/
namespace Go.Proofs.YtkibgflbidkalaaDoor
open Go.RowKit Go.WideShapes

theorem kC_one (g : Nat → Int) : ∀ v ∈ (kC g).toList, v.oneCell' = true := by
  intro v hv
  rw [kC_range] at hv
  simp only [List.mem_map] at hv
  obtain ⟨i, _, rfl⟩ := hv
  rfl
def Z24 : Array Value := #[.int .i64 0, .int .i64 0, .int .i64 0, .int .i64 0, .int .i64 0, .int .i64 0, .int .i64 0, .int .i64 0, .int .i64 0, .int .i64 0, .int .i64 0, .int .i64 0, .int .i64 0, .int .i64 0, .int .i64 0, .int .i64 0, .int .i64 0, .int .i64 0, .int .i64 0, .int .i64 0, .int .i64 0, .int .i64 0, .int .i64 0, .int .i64 0]
/-- An array of numbers is laid. -/
theorem lay24 (w : World) (A : Array Value) (h : A.size = 24) (h1 : ∀ v ∈ A.toList, v.oneCell' = true) :
    (storeCells ⟨w.heap.size, 0, none⟩ A.toList).run Tryd.prog (w.alloc (.cells Z24 27)) = .ok () ((w.alloc (.cells Z24 27)).setCells w.heap.size 0 A.toList) ∧ Blk ((w.alloc (.cells Z24 27)).setCells w.heap.size 0 A.toList) w.heap.size A 27 ∧ Ext w ((w.alloc (.cells Z24 27)).setCells w.heap.size 0 A.toList) := by
  have hR := Blk.new w Z24 27
  have hb := Blk.setCells A.toList hR 0
  rw [putAt_all _ _ (by rw [Array.length_toList, h]; rfl)] at hb
  exact ⟨store_run w.heap.size 0 A.toList _ (hR.there (by rw [Array.length_toList, h]; exact Nat.le_refl 24)) h1, hb, Ext.setCells (g := w.heap.size) (Nat.le_refl _) A.toList ((Ext.refl w).alloc _) 0⟩
def sumC (c : Int → Nat) : Nat → Nat
  | 0 => 0
  | j + 1 => sumC c j + c (j : Int)
theorem sumC_le {c : Int → Nat} (h : ∀ kd, c kd ≤ 24) : ∀ j, sumC c j ≤ 24 * j
  | 0 => Nat.le_refl _
  | j + 1 => by have := sumC_le h j; have := h (j : Int); unfold sumC; omega
/-- All that a store in use says to the survey. -/
structure CntE (w2 : World) (sb cb : Nat) (m : Man) (A : Array Value) (c : Int → Nat) (s1 s2 : Int) : Prop where
  size : A.size = 24
  one : ∀ v ∈ A.toList, v.oneCell' = true
  of : ∀ W, Ext w2 W → Calls Tryd.prog 5 #[.pointer (some ⟨cb, 0, none⟩), .pointer (some ⟨sb, 0, none⟩)] W fun e w' => e = .returned (.agg A) ∧ Ext W w'
  count : ∀ W (kd : Int), Calls Tryd.prog 6 #[.agg A, .int .i64 kd] W fun e w' => e = .returned (.int .i64 (c kd : Int)) ∧ Ext W w'
  spread : ∀ W, Ext w2 W → Calls Tryd.prog 16 #[.pointer (some ⟨cb, 0, none⟩)] W fun e w' => e = .returned (.tuple #[.int .i64 s1, .int .i64 s2]) ∧ W = w'
  man : ∀ W, Ext w2 W → Calls Tryd.prog 13 #[.pointer (some ⟨sb, 0, none⟩)] W fun e w' => MnfE W w' e m
  le : ∀ kd, c kd ≤ 24
  sum : sumC c 6 = 24
  head : c 1 = 2
  log : c 2 = 1
  new : c 3 = m.nw.length
  old : c 4 = m.od.length
  free : 6 ≤ c 0
  s0 : 0 ≤ s1
  s12 : s1 ≤ s2
theorem Up.cnt {n : Nat} {w : World} {S : List Nat} {sb cb : Nat} {m : Man} {k : Nat} {R : List Ent} (h : Up n w S sb cb m k R) : ∃ A c s1 s2, CntE w sb cb m A c s1 s2 := by
  have hn := h.nums
  obtain ⟨M, a, x, N, O, h1, h2, _⟩ := h.ex
  have hk := kinds_ok m M.bd h2.ok
  have hs := sprd_ok M.bd (fun b => (M.wr b : Int)) (fun b => by omega) 22
  refine ⟨kC (kindsF m M.bd), fun kd => cntK (kindsF m M.bd) kd 24, _, _, rfl, kC_one _, fun W hx => survOf_any n W S sb cb M m a x N O (h1.ext hx) h2 (by omega) (by omega), fun W kd => count_any _ kd W, fun W hx => spread_any cb M W (h1.chip.ext hx), fun W hx => manifest_any W S sb cb M m a x (h1.ext hx) (by omega) (by omega), fun kd => cntK_le _ kd 24, ?_, hk.head, hk.log, hk.new, hk.old, kinds_free h2 hn.1 hn.2, hs.1, hs.2⟩
  have := hk.sum
  simp only [sumC]
  simp only [Nat.zero_add]
  exact this
end Go.Proofs.YtkibgflbidkalaaDoor
