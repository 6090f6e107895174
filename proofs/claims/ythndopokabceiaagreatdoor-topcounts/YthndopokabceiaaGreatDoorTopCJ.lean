/- TopC. -/
import Derived.Test.YthndopokabceiaaGreatDoorSrvEJ
import Derived.Deep.RegionHeld3

/- TopCounts. -/
namespace Go.Proofs.YthndopokabceiaaGreatDoor
open Go.RowKit Go.WideShapes

theorem kC_one (g : Nat → Int) : ∀ v ∈ (kC g).toList, v.oneCell' = true := by
  intro v hv
  rw [kC_range] at hv
  simp only [List.mem_map] at hv
  obtain ⟨i, _, rfl⟩ := hv
  rfl
def Z24 : Array Value := #[.int .i64 0, .int .i64 0, .int .i64 0, .int .i64 0, .int .i64 0, .int .i64 0, .int .i64 0, .int .i64 0, .int .i64 0, .int .i64 0, .int .i64 0, .int .i64 0, .int .i64 0, .int .i64 0, .int .i64 0, .int .i64 0, .int .i64 0, .int .i64 0, .int .i64 0, .int .i64 0, .int .i64 0, .int .i64 0, .int .i64 0, .int .i64 0]
/-- An array of numbers is laid. -/
theorem lay24 (w : World) (A : Array Value) (h : A.size = 24) (h1 : ∀ v ∈ A.toList, v.oneCell' = true) :
    (storeCells ⟨w.heap.size, 0, none⟩ A.toList).run Tryz.prog (w.alloc (.cells Z24 88)) = .ok () ((w.alloc (.cells Z24 88)).setCells w.heap.size 0 A.toList) ∧ Blk ((w.alloc (.cells Z24 88)).setCells w.heap.size 0 A.toList) w.heap.size A 88 ∧ Ext w ((w.alloc (.cells Z24 88)).setCells w.heap.size 0 A.toList) := by
  have hR := Blk.new w Z24 88
  have hb := Blk.setCells A.toList hR 0
  rw [putAt_all _ _ (by rw [Array.length_toList, h]; rfl)] at hb
  exact ⟨store_run w.heap.size 0 A.toList _ (hR.there (by rw [Array.length_toList, h]; exact Nat.le_refl 24)) h1, hb, Ext.setCells (g := w.heap.size) (Nat.le_refl _) A.toList ((Ext.refl w).alloc _) 0⟩
def sumC (c : Int → Nat) : Nat → Nat
  | 0 => 0
  | j + 1 => sumC c j + c (j : Int)
theorem sumC_le {c : Int → Nat} (h : ∀ kd, c kd ≤ 24) : ∀ j, sumC c j ≤ 24 * j
  | 0 => Nat.le_refl _
  | j + 1 => by have := sumC_le h j; have := h (j : Int); unfold sumC; omega
/-- All that a store in use says to the survey. -/
structure CntE (w2 : World) (sb cb : Nat) (m : Man) (A : Array Value) (c : Int → Nat) (s1 s2 : Int) : Prop where
  size : A.size = 24
  one : ∀ v ∈ A.toList, v.oneCell' = true
  of : ∀ W, Ext w2 W → Calls Tryz.prog 54 #[.pointer (some ⟨cb, 0, none⟩), .pointer (some ⟨sb, 0, none⟩)] W fun e w' => e = .returned (.agg A) ∧ Ext W w'
  count : ∀ W (kd : Int), Calls Tryz.prog 55 #[.agg A, .int .i64 kd] W fun e w' => e = .returned (.int .i64 (c kd : Int)) ∧ Ext W w'
  spread : ∀ W, Ext w2 W → Calls Tryz.prog 56 #[.pointer (some ⟨cb, 0, none⟩)] W fun e w' => e = .returned (.tuple #[.int .i64 s1, .int .i64 s2]) ∧ W = w'
  man : ∀ W, Ext w2 W → Calls Tryz.prog 41 #[.pointer (some ⟨sb, 0, none⟩)] W fun e w' => MnfE W w' e m
  le : ∀ kd, c kd ≤ 24
  sum : sumC c 6 = 24
  head : c 1 = 2
  log : c 2 = 1
  new : c 3 = m.nw.length
  old : c 4 = m.od.length
  free : 6 ≤ c 0
  s0 : 0 ≤ s1
  s12 : s1 ≤ s2
theorem Up.cnt {n : Nat} {w : World} {S : List Nat} {sb cb : Nat} {m : Man} {k : Nat} {R : List Ent} (h : Up n w S sb cb m k R) : ∃ A c s1 s2, CntE w sb cb m A c s1 s2 := by
  have hn := h.nums
  obtain ⟨M, a, x, N, O, h1, h2, _⟩ := h.ex
  have hk := kinds_ok m M.bd h2.ok
  have hs := sprd_ok M.bd (fun b => (M.wr b : Int)) (fun b => by omega) 22
  refine ⟨kC (kindsF m M.bd), fun kd => cntK (kindsF m M.bd) kd 24, _, _, rfl, kC_one _, fun W hx => survOf_any n W S sb cb M m a x N O (h1.ext hx) h2 (by omega) (by omega), fun W kd => count_any _ kd W, fun W hx => spread_any cb M W (h1.chip.ext hx), fun W hx => manifest_any W S sb cb M m a x (h1.ext hx) (by omega) (by omega), fun kd => cntK_le _ kd 24, ?_, hk.head, hk.log, hk.new, hk.old, kinds_free h2 hn.1 hn.2, hs.1, hs.2⟩
  have := hk.sum
  simp only [sumC]
  simp only [Nat.zero_add]
  exact this
set_option maxRecDepth 20000 in
set_option maxHeartbeats 4000000 in
theorem topCounts_any (ao : Option Addr) (cap : Nat) (acs : List ActE) (w : World) (hg : GlobT w) (hl : acs.length ≤ 9223372036854775807) (has : ActsAt w ao acs) :
    Calls Tryz.prog 16 #[.slice ao acs.length cap] w fun e w' => e = .returned (.bool true) ∧ Ext w w' := by
  have HW := worksH w hg
  cases hf : fillB acs with
  | false =>
    have HF := filledN ao cap acs w hl has hf
    clear has hf hg
    go_enter Tryz.func16, Tryz.ntmps16
    go_wp2_with (first
      | (go_at_call 35; refine HW.out.mono ?_; rintro e w1 ⟨rfl, hx1⟩)
      | (go_at_call 36; refine (HF.out _ hx1).mono ?_; rintro e w2 ⟨rfl, rfl⟩))
    go_ret
    exact ⟨rfl, hx1⟩
  | true =>
    have HF := filledY ao cap acs w hg hl has hf
    generalize weakN acs = k at *
    generalize fillR acs = R at *
    clear has hf hg
    have HSZ : Hid (∀ A : Array Value, A.size = 24 → (Tryz.prog.info? 88).map (·.size) = some A.toList.length) := fun A h => by rw [Array.length_toList, h]; kernel_rfl
    go_enter Tryz.func16, Tryz.ntmps16
    go_upto_region 8 with (first
      | (go_at_call 35; refine HW.out.mono ?_; rintro e w1 ⟨rfl, hx1⟩)
      | (go_at_call 36; refine (HF.out _ hx1).mono ?_; rintro e w2 ⟨cb, sb, S, m, rfl, hU2, hx2, hS2⟩; obtain ⟨A, c, s1, s2, hC⟩ := hU2.cnt; have HC : Hid (CntE w2 sb cb m A c s1 s2) := hC; clear hC; have h24A := HC.out.size; clear hU2 HW HF)
      | (go_at_call 54; refine (HC.out.of _ (Ext.refl w2)).mono ?_; rintro e w3 ⟨rfl, hx3⟩; have hsc := (lay24 w3 A h24A HC.out.one).1; simp only [Z24] at hsc))
    clear hsc
    have HL := lay24 w3 A h24A HC.out.one
    simp only [Z24] at HL
    generalize (w3.alloc (.cells #[.int .i64 0, .int .i64 0, .int .i64 0, .int .i64 0, .int .i64 0, .int .i64 0, .int .i64 0, .int .i64 0, .int .i64 0, .int .i64 0, .int .i64 0, .int .i64 0, .int .i64 0, .int .i64 0, .int .i64 0, .int .i64 0, .int .i64 0, .int .i64 0, .int .i64 0, .int .i64 0, .int .i64 0, .int .i64 0, .int .i64 0, .int .i64 0] 88)).setCells w3.heap.size 0 A.toList = w4 at *
    have HB : Hid (∀ W, Ext w4 W → W.rangeAt w3.heap.size 0 A.toList) := fun W hx j v hv => by
      rw [Nat.zero_add, (HL.2.1.ext hx).cell]
      simpa using hv
    have hx4 : Ext w2 w4 := hx3.trans HL.2.2
    have HSZ1 := HSZ.out A h24A
    have hX4 : Ext w w4 := hx2.trans hx4
    clear HL
    generalize w3.heap.size = kb at *
    clear HSZ hS2 hx3 hx2
    go_wp2_with fail
    go_loopw [7, 8] (fun n i wr => ∃ j : Nat, j ≤ 6 ∧ i = .int .i64 j ∧ n = .int .i64 (sumC c j : Int) ∧ Ext w4 wr) (fun _ i _ => 6 - (intOf i).toNat)
    case atStart => exact ⟨0, by omega, rfl, rfl, Ext.refl _⟩
    case round =>
      obtain ⟨j, hj, rfl, rfl, hxr⟩ := hrel
      by_cases hlt : j < 6
      · have hlt' : (j : Int) ≤ 5 := by omega
        have h1 := sumC_le HC.out.le j
        have h2 := HC.out.le (j : Int)
        have hs : sumC c (j + 1) = sumC c j + c (j : Int) := rfl
        have HCN : Hid (Calls Tryz.prog 55 #[.agg A, .int .i64 (j : Int)] wr fun e w' => e = .returned (.int .i64 (c (j : Int) : Int)) ∧ Ext wr w') := HC.out.count wr j
        have hrg := HB.out wr hxr
        generalize c (j : Int) = cj at *
        generalize hq : sumC c j = q at *
        have HQ : Hid (sumC c (j + 1) = q + cj) := hs
        clear hs hq
        go_wp2_with (first
          | (refine wpList_load_mid rfl 88 (.tmp 6) rfl kb 0 (by rfl) A.toList _ hrg Tryz.underlying88 rfl HSZ1 ?_)
          | (go_at_call 55; refine HCN.out.mono ?_; rintro e w5 ⟨rfl, hx5⟩))
        go_roundw
        case rel => exact ⟨j + 1, by omega, by go_num, by rw [HQ.out]; go_num, hxr.trans hx5⟩
        case measure => simp [intOf]; omega
      · have hj6 : j = 6 := by omega
        subst hj6
        have hs24 : ((sumC c 6 : Nat) : Int) = 24 := by rw [HC.out.sum]; rfl
        have HSP := HC.out.spread wr (hx4.trans hxr)
        have HMN := HC.out.man wr (hx4.trans hxr)
        go_upto_region 15 with (first
          | (go_at_call 56; refine HSP.mono ?_; rintro e w5 ⟨rfl, rfl⟩)
          | (go_at_call 41; refine HMN.mono ?_; rintro e w6 ⟨a1, c1, a2, c2, rfl, hN6, hO6, hx6⟩))
        obtain ⟨cs, rfl⟩ : ∃ cs : List Value, A = cs.toArray := ⟨A.toList, by simp⟩
        have hm : Blk (w6.alloc (.cells #[.int .i64 m.ep, .int .i64 m.lg, .slice a1 m.nw.length c1, .slice a2 m.od.length c2] 65)) w6.heap.size #[.int .i64 m.ep, .int .i64 m.lg, .slice a1 m.nw.length c1, .slice a2 m.od.length c2] 65 := Blk.new _ _ _
        have hx7 : Ext w4 (w6.alloc (.cells #[.int .i64 m.ep, .int .i64 m.lg, .slice a1 m.nw.length c1, .slice a2 m.od.length c2] 65)) := (hxr.trans hx6).alloc _
        generalize w6.alloc (.cells #[.int .i64 m.ep, .int .i64 m.lg, .slice a1 m.nw.length c1, .slice a2 m.od.length c2] 65) = w7 at *
        have HX : Hid (Ext w w7) := hX4.trans hx7
        have HS : Hid (∀ W, Ext w7 W → W.rangeAt kb 0 cs ∧ W.cell? ⟨w6.heap.size, 2, none⟩ = some (.slice a1 m.nw.length c1) ∧ W.cell? ⟨w6.heap.size, 3, none⟩ = some (.slice a2 m.od.length c2)) := fun W hx => ⟨HB.out W (hx7.trans hx), (hm.ext hx).cell 2, (hm.ext hx).cell 3⟩
        have D1 : Hid (∀ W, Calls Tryz.prog 55 #[.agg cs.toArray, .int .i64 1] W fun e w' => e = .returned (.int .i64 2) ∧ Ext W w') := fun W => (HC.out.count W 1).mono fun _ _ h => ⟨by rw [h.1, HC.out.head]; rfl, h.2⟩
        have D2 : Hid (∀ W, Calls Tryz.prog 55 #[.agg cs.toArray, .int .i64 2] W fun e w' => e = .returned (.int .i64 1) ∧ Ext W w') := fun W => (HC.out.count W 2).mono fun _ _ h => ⟨by rw [h.1, HC.out.log]; rfl, h.2⟩
        have D3 : Hid (∀ W, Calls Tryz.prog 55 #[.agg cs.toArray, .int .i64 3] W fun e w' => e = .returned (.int .i64 (m.nw.length : Int)) ∧ Ext W w') := fun W => (HC.out.count W 3).mono fun _ _ h => ⟨by rw [h.1, HC.out.new], h.2⟩
        have D4 : Hid (∀ W, Calls Tryz.prog 55 #[.agg cs.toArray, .int .i64 4] W fun e w' => e = .returned (.int .i64 (m.od.length : Int)) ∧ Ext W w') := fun W => (HC.out.count W 4).mono fun _ _ h => ⟨by rw [h.1, HC.out.old], h.2⟩
        obtain ⟨c0, hc0⟩ : ∃ c0, c 0 = c0 := ⟨_, rfl⟩
        have D0 : Hid (∀ W, Calls Tryz.prog 55 #[.agg cs.toArray, .int .i64 0] W fun e w' => e = .returned (.int .i64 (c0 : Int)) ∧ Ext W w') := fun W => (HC.out.count W 0).mono fun _ _ h => ⟨by rw [h.1, hc0], h.2⟩
        have g6 : (6 : Int) ≤ (c0 : Int) := by have := HC.out.free; omega
        have g0 := HC.out.s0
        have g12 := HC.out.s12
        have hs := HS.out w7 (Ext.refl _)
        obtain ⟨hs1, hs2, hs3⟩ := hs
        clear hm hx7 HC hc0 HB HSP HMN hN6 hO6 hx6 hX4 hxr hx4 hx1
        have hund := Tryz.underlying88
        have hsz1 : (Tryz.prog.info? 88).map (·.size) = some cs.length := HSZ1
        clear HSZ1
        refine wp_region_held_drew (S := fun W => W.rangeAt kb 0 cs ∧ W.cell? ⟨w6.heap.size, 2, none⟩ = some (.slice a1 m.nw.length c1) ∧ W.cell? ⟨w6.heap.size, 3, none⟩ = some (.slice a2 m.od.length c2)) (by kernel_rfl) (HS.out _ (Ext.refl w7).drew) (fun hHeld => ?_)
        refine wpAnyH_take (i := 0) (oi := ({ dst := some 42, op := Op.move (Operand.tmp 7), type := 3, pos := "top.go:483", after := #[], guard := none } : Oper)) (v := .int .i64 24) rfl (by kernel_rfl) (by kernel_rfl) (by kernel_rfl) (fun _ _ _ h => h) (Or.inl ⟨by rfl, ?_⟩) (by assumption) ?_
        · (intro W hSw; obtain ⟨q1, q2, q3⟩ := hSw; go_simp)
        try simp only [Act.put, List.setIfInBounds_toArray, List.set_cons_zero, List.set_cons_succ]
        refine wpAnyH_take (i := 1) (oi := ({ dst := some 43, op := Op.binOp BinOp.eql 3 (Operand.tmp 42) (Operand.const (Value.int IntKind.i64 24)) 3, type := 4, pos := "top.go:483", after := #[{ on := 0, ground := Ground.data }], guard := none } : Oper)) (v := .bool true) rfl (by kernel_rfl) (by kernel_rfl) (by kernel_rfl) (fun _ _ _ h => h) (Or.inl ⟨by rfl, ?_⟩) (by assumption) ?_
        · (intro W hSw; obtain ⟨q1, q2, q3⟩ := hSw; go_simp)
        try simp only [Act.put, List.setIfInBounds_toArray, List.set_cons_zero, List.set_cons_succ]
        refine wpAnyH_take (i := 2) (oi := ({ dst := some 44, op := Op.move (Operand.tmp 43), type := 4, pos := "top.go:483", after := #[{ on := 1, ground := Ground.data }], guard := none } : Oper)) (v := .bool true) rfl (by kernel_rfl) (by kernel_rfl) (by kernel_rfl) (fun _ _ _ h => h) (Or.inl ⟨by rfl, ?_⟩) (by assumption) ?_
        · (intro W hSw; obtain ⟨q1, q2, q3⟩ := hSw; go_simp)
        try simp only [Act.put, List.setIfInBounds_toArray, List.set_cons_zero, List.set_cons_succ]
        refine wpAnyH_take (i := 3) (oi := ({ dst := some 45, op := Op.move (Operand.tmp 9), type := 3, pos := "top.go:483", after := #[{ on := 2, ground := Ground.guard }], guard := some (2, true) } : Oper)) (v := .int .i64 s1) rfl (by kernel_rfl) (by kernel_rfl) (by kernel_rfl) (fun _ _ _ h => h) (Or.inl ⟨by rfl, ?_⟩) (by assumption) ?_
        · (intro W hSw; obtain ⟨q1, q2, q3⟩ := hSw; go_simp)
        try simp only [Act.put, List.setIfInBounds_toArray, List.set_cons_zero, List.set_cons_succ]
        refine wpAnyH_take (i := 4) (oi := ({ dst := some 46, op := Op.move (Operand.tmp 10), type := 3, pos := "top.go:483", after := #[{ on := 2, ground := Ground.guard }], guard := some (2, true) } : Oper)) (v := .int .i64 s2) rfl (by kernel_rfl) (by kernel_rfl) (by kernel_rfl) (fun _ _ _ h => h) (Or.inl ⟨by rfl, ?_⟩) (by assumption) ?_
        · (intro W hSw; obtain ⟨q1, q2, q3⟩ := hSw; go_simp)
        try simp only [Act.put, List.setIfInBounds_toArray, List.set_cons_zero, List.set_cons_succ]
        refine wpAnyH_take (i := 5) (oi := ({ dst := some 47, op := Op.binOp BinOp.leq 3 (Operand.tmp 45) (Operand.tmp 46) 3, type := 4, pos := "top.go:483", after := #[{ on := 3, ground := Ground.data }, { on := 4, ground := Ground.data }, { on := 2, ground := Ground.guard }], guard := some (2, true) } : Oper)) (v := .bool true) rfl (by kernel_rfl) (by kernel_rfl) (by kernel_rfl) (fun _ _ _ h => h) (Or.inl ⟨by rfl, ?_⟩) (by assumption) ?_
        · (intro W hSw; obtain ⟨q1, q2, q3⟩ := hSw; go_simp)
        try simp only [Act.put, List.setIfInBounds_toArray, List.set_cons_zero, List.set_cons_succ]
        refine wpAnyH_take (i := 6) (oi := ({ dst := some 48, op := Op.pick (Operand.tmp 44) (Operand.tmp 47) (Operand.const (Value.bool false)), type := 4, pos := "top.go:483", after := #[{ on := 2, ground := Ground.data }, { on := 5, ground := Ground.data }], guard := none } : Oper)) (v := .bool true) rfl (by kernel_rfl) (by kernel_rfl) (by kernel_rfl) (fun _ _ _ h => h) (Or.inl ⟨by rfl, ?_⟩) (by assumption) ?_
        · (intro W hSw; obtain ⟨q1, q2, q3⟩ := hSw; go_simp)
        try simp only [Act.put, List.setIfInBounds_toArray, List.set_cons_zero, List.set_cons_succ]
        refine wpAnyH_take (i := 7) (oi := ({ dst := some 49, op := Op.move (Operand.tmp 48), type := 4, pos := "top.go:483", after := #[{ on := 6, ground := Ground.data }, { on := 2, ground := Ground.chain }], guard := none } : Oper)) (v := .bool true) rfl (by kernel_rfl) (by kernel_rfl) (by kernel_rfl) (fun _ _ _ h => h) (Or.inl ⟨by rfl, ?_⟩) (by assumption) ?_
        · (intro W hSw; obtain ⟨q1, q2, q3⟩ := hSw; go_simp)
        try simp only [Act.put, List.setIfInBounds_toArray, List.set_cons_zero, List.set_cons_succ]
        refine wpAnyH_take (i := 8) (oi := ({ dst := some 50, op := Op.move (Operand.tmp 9), type := 3, pos := "top.go:483", after := #[{ on := 7, ground := Ground.guard }], guard := some (7, true) } : Oper)) (v := .int .i64 s1) rfl (by kernel_rfl) (by kernel_rfl) (by kernel_rfl) (fun _ _ _ h => h) (Or.inl ⟨by rfl, ?_⟩) (by assumption) ?_
        · (intro W hSw; obtain ⟨q1, q2, q3⟩ := hSw; go_simp)
        try simp only [Act.put, List.setIfInBounds_toArray, List.set_cons_zero, List.set_cons_succ]
        refine wpAnyH_take (i := 9) (oi := ({ dst := some 51, op := Op.binOp BinOp.geq 3 (Operand.tmp 50) (Operand.const (Value.int IntKind.i64 0)) 3, type := 4, pos := "top.go:483", after := #[{ on := 8, ground := Ground.data }, { on := 7, ground := Ground.guard }], guard := some (7, true) } : Oper)) (v := .bool true) rfl (by kernel_rfl) (by kernel_rfl) (by kernel_rfl) (fun _ _ _ h => h) (Or.inl ⟨by rfl, ?_⟩) (by assumption) ?_
        · (intro W hSw; obtain ⟨q1, q2, q3⟩ := hSw; go_simp)
        try simp only [Act.put, List.setIfInBounds_toArray, List.set_cons_zero, List.set_cons_succ]
        refine wpAnyH_take (i := 10) (oi := ({ dst := some 52, op := Op.pick (Operand.tmp 49) (Operand.tmp 51) (Operand.const (Value.bool false)), type := 4, pos := "top.go:483", after := #[{ on := 7, ground := Ground.data }, { on := 9, ground := Ground.data }], guard := none } : Oper)) (v := .bool true) rfl (by kernel_rfl) (by kernel_rfl) (by kernel_rfl) (fun _ _ _ h => h) (Or.inl ⟨by rfl, ?_⟩) (by assumption) ?_
        · (intro W hSw; obtain ⟨q1, q2, q3⟩ := hSw; go_simp)
        try simp only [Act.put, List.setIfInBounds_toArray, List.set_cons_zero, List.set_cons_succ]
        refine wpAnyH_take (i := 11) (oi := ({ dst := some 53, op := Op.move (Operand.tmp 52), type := 4, pos := "top.go:483", after := #[{ on := 10, ground := Ground.data }, { on := 7, ground := Ground.chain }], guard := none } : Oper)) (v := .bool true) rfl (by kernel_rfl) (by kernel_rfl) (by kernel_rfl) (fun _ _ _ h => h) (Or.inl ⟨by rfl, ?_⟩) (by assumption) ?_
        · (intro W hSw; obtain ⟨q1, q2, q3⟩ := hSw; go_simp)
        try simp only [Act.put, List.setIfInBounds_toArray, List.set_cons_zero, List.set_cons_succ]
        refine wpAnyH_take (i := 12) (oi := ({ dst := some 54, op := Op.load 88 (Operand.tmp 6), type := 88, pos := "top.go:483", after := #[{ on := 11, ground := Ground.guard }], guard := some (11, true) } : Oper)) (v := .agg cs.toArray) rfl (by kernel_rfl) (by kernel_rfl) (by kernel_rfl) (fun _ _ _ h => h) (yieldsIf_load_mid (by rfl) _ _ rfl _ _ rfl _ _ (fun w hw => hw.1) hund rfl hsz1) (by assumption) ?_
        try simp only [Act.put, List.setIfInBounds_toArray, List.set_cons_zero, List.set_cons_succ]
        refine wpAnyH_ready (rs := [13]) (by kernel_rfl) (by simp) ?_
        refine AllReadyH.cons (o := ({ dst := some 55, op := Op.call { callee := Callee.value (Operand.func 55), args := #[Operand.tmp 54, Operand.const (Value.int IntKind.i64 1)], argTypes := #[88, 3] }, type := 3, pos := "top.go:483", after := #[{ on := 12, ground := Ground.data }, { on := 11, ground := Ground.chain }, { on := 11, ground := Ground.guard }], guard := some (11, true) } : Oper)) rfl (fun K hK => ?_) AllReadyH.nil
        go_simp
        go_at_call 55; refine (D1.out _).mono ?_; rintro e w8 ⟨rfl, hx8⟩
        have hX8 : Ext w7 w8 := Ext.trans (by repeat (first | assumption | exact Ext.refl _ | refine Ext.drew ?_ | refine Ext.drewN ?_ _ | refine Ext.alloc ?_ _)) hx8
        try go_simp
        refine hK.out _ _ (HS.out w8 hX8) (fun hHeld => ?_)
        clear hK K hx8
        try simp only [Act.put, List.setIfInBounds_toArray, List.set_cons_zero, List.set_cons_succ]
        refine wpAnyH_take (i := 14) (oi := ({ dst := some 56, op := Op.binOp BinOp.eql 3 (Operand.tmp 55) (Operand.const (Value.int IntKind.i64 2)) 3, type := 4, pos := "top.go:483", after := #[{ on := 13, ground := Ground.data }, { on := 11, ground := Ground.guard }], guard := some (11, true) } : Oper)) (v := .bool true) rfl (by kernel_rfl) (by kernel_rfl) (by kernel_rfl) (fun _ _ _ h => h) (Or.inl ⟨by rfl, ?_⟩) (by assumption) ?_
        · (intro W hSw; obtain ⟨q1, q2, q3⟩ := hSw; go_simp)
        try simp only [Act.put, List.setIfInBounds_toArray, List.set_cons_zero, List.set_cons_succ]
        refine wpAnyH_take (i := 15) (oi := ({ dst := some 57, op := Op.pick (Operand.tmp 53) (Operand.tmp 56) (Operand.const (Value.bool false)), type := 4, pos := "top.go:483", after := #[{ on := 11, ground := Ground.data }, { on := 14, ground := Ground.data }], guard := none } : Oper)) (v := .bool true) rfl (by kernel_rfl) (by kernel_rfl) (by kernel_rfl) (fun _ _ _ h => h) (Or.inl ⟨by rfl, ?_⟩) (by assumption) ?_
        · (intro W hSw; obtain ⟨q1, q2, q3⟩ := hSw; go_simp)
        try simp only [Act.put, List.setIfInBounds_toArray, List.set_cons_zero, List.set_cons_succ]
        refine wpAnyH_take (i := 16) (oi := ({ dst := some 58, op := Op.move (Operand.tmp 57), type := 4, pos := "top.go:483", after := #[{ on := 15, ground := Ground.data }, { on := 13, ground := Ground.chain }], guard := none } : Oper)) (v := .bool true) rfl (by kernel_rfl) (by kernel_rfl) (by kernel_rfl) (fun _ _ _ h => h) (Or.inl ⟨by rfl, ?_⟩) (by assumption) ?_
        · (intro W hSw; obtain ⟨q1, q2, q3⟩ := hSw; go_simp)
        try simp only [Act.put, List.setIfInBounds_toArray, List.set_cons_zero, List.set_cons_succ]
        refine wpAnyH_take (i := 17) (oi := ({ dst := some 59, op := Op.load 88 (Operand.tmp 6), type := 88, pos := "top.go:483", after := #[{ on := 16, ground := Ground.guard }], guard := some (16, true) } : Oper)) (v := .agg cs.toArray) rfl (by kernel_rfl) (by kernel_rfl) (by kernel_rfl) (fun _ _ _ h => h) (yieldsIf_load_mid (by rfl) _ _ rfl _ _ rfl _ _ (fun w hw => hw.1) hund rfl hsz1) (by assumption) ?_
        try simp only [Act.put, List.setIfInBounds_toArray, List.set_cons_zero, List.set_cons_succ]
        refine wpAnyH_ready (rs := [18]) (by kernel_rfl) (by simp) ?_
        refine AllReadyH.cons (o := ({ dst := some 60, op := Op.call { callee := Callee.value (Operand.func 55), args := #[Operand.tmp 59, Operand.const (Value.int IntKind.i64 2)], argTypes := #[88, 3] }, type := 3, pos := "top.go:483", after := #[{ on := 17, ground := Ground.data }, { on := 16, ground := Ground.chain }, { on := 16, ground := Ground.guard }], guard := some (16, true) } : Oper)) rfl (fun K hK => ?_) AllReadyH.nil
        go_simp
        go_at_call 55; refine (D2.out _).mono ?_; rintro e w9 ⟨rfl, hx9⟩
        have hX9 : Ext w7 w9 := Ext.trans (by repeat (first | assumption | exact Ext.refl _ | refine Ext.drew ?_ | refine Ext.drewN ?_ _ | refine Ext.alloc ?_ _)) hx9
        try go_simp
        refine hK.out _ _ (HS.out w9 hX9) (fun hHeld => ?_)
        clear hK K hx9
        try simp only [Act.put, List.setIfInBounds_toArray, List.set_cons_zero, List.set_cons_succ]
        refine wpAnyH_take (i := 19) (oi := ({ dst := some 61, op := Op.binOp BinOp.eql 3 (Operand.tmp 60) (Operand.const (Value.int IntKind.i64 1)) 3, type := 4, pos := "top.go:483", after := #[{ on := 18, ground := Ground.data }, { on := 16, ground := Ground.guard }], guard := some (16, true) } : Oper)) (v := .bool true) rfl (by kernel_rfl) (by kernel_rfl) (by kernel_rfl) (fun _ _ _ h => h) (Or.inl ⟨by rfl, ?_⟩) (by assumption) ?_
        · (intro W hSw; obtain ⟨q1, q2, q3⟩ := hSw; go_simp)
        try simp only [Act.put, List.setIfInBounds_toArray, List.set_cons_zero, List.set_cons_succ]
        refine wpAnyH_take (i := 20) (oi := ({ dst := some 62, op := Op.pick (Operand.tmp 58) (Operand.tmp 61) (Operand.const (Value.bool false)), type := 4, pos := "top.go:483", after := #[{ on := 16, ground := Ground.data }, { on := 19, ground := Ground.data }], guard := none } : Oper)) (v := .bool true) rfl (by kernel_rfl) (by kernel_rfl) (by kernel_rfl) (fun _ _ _ h => h) (Or.inl ⟨by rfl, ?_⟩) (by assumption) ?_
        · (intro W hSw; obtain ⟨q1, q2, q3⟩ := hSw; go_simp)
        try simp only [Act.put, List.setIfInBounds_toArray, List.set_cons_zero, List.set_cons_succ]
        refine wpAnyH_take (i := 21) (oi := ({ dst := some 63, op := Op.move (Operand.tmp 62), type := 4, pos := "top.go:483", after := #[{ on := 20, ground := Ground.data }, { on := 18, ground := Ground.chain }], guard := none } : Oper)) (v := .bool true) rfl (by kernel_rfl) (by kernel_rfl) (by kernel_rfl) (fun _ _ _ h => h) (Or.inl ⟨by rfl, ?_⟩) (by assumption) ?_
        · (intro W hSw; obtain ⟨q1, q2, q3⟩ := hSw; go_simp)
        try simp only [Act.put, List.setIfInBounds_toArray, List.set_cons_zero, List.set_cons_succ]
        refine wpAnyH_take (i := 22) (oi := ({ dst := some 64, op := Op.load 88 (Operand.tmp 6), type := 88, pos := "top.go:483", after := #[{ on := 21, ground := Ground.guard }], guard := some (21, true) } : Oper)) (v := .agg cs.toArray) rfl (by kernel_rfl) (by kernel_rfl) (by kernel_rfl) (fun _ _ _ h => h) (yieldsIf_load_mid (by rfl) _ _ rfl _ _ rfl _ _ (fun w hw => hw.1) hund rfl hsz1) (by assumption) ?_
        try simp only [Act.put, List.setIfInBounds_toArray, List.set_cons_zero, List.set_cons_succ]
        refine wpAnyH_take (i := 24) (oi := ({ dst := some 66, op := Op.fieldAddr 65 (Operand.tmp 11) 2, type := 0, pos := "top.go:483", after := #[{ on := 21, ground := Ground.guard }], guard := some (21, true) } : Oper)) (v := .pointer (some ⟨w6.heap.size, 2, none⟩)) rfl (by kernel_rfl) (by kernel_rfl) (by kernel_rfl) (fun _ _ _ h => h) (Or.inl ⟨by rfl, ?_⟩) (by assumption) ?_
        · (intro W hSw; obtain ⟨q1, q2, q3⟩ := hSw; go_simp)
        try simp only [Act.put, List.setIfInBounds_toArray, List.set_cons_zero, List.set_cons_succ]
        refine wpAnyH_take (i := 25) (oi := ({ dst := some 67, op := Op.load 63 (Operand.tmp 66), type := 63, pos := "top.go:483", after := #[{ on := 24, ground := Ground.data }, { on := 21, ground := Ground.guard }], guard := some (21, true) } : Oper)) (v := .slice a1 m.nw.length c1) rfl (by kernel_rfl) (by kernel_rfl) (by kernel_rfl) (fun _ _ _ h => h) (Or.inl ⟨by rfl, ?_⟩) (by assumption) ?_
        · (intro W hSw; obtain ⟨q1, q2, q3⟩ := hSw; go_simp)
        try simp only [Act.put, List.setIfInBounds_toArray, List.set_cons_zero, List.set_cons_succ]
        refine wpAnyH_take (i := 26) (oi := ({ dst := some 68, op := Op.call { callee := Callee.builtin Builtin.len, args := #[Operand.tmp 67], argTypes := #[63] }, type := 3, pos := "top.go:483", after := #[{ on := 25, ground := Ground.data }, { on := 21, ground := Ground.guard }], guard := some (21, true) } : Oper)) (v := .int .i64 (m.nw.length : Int)) rfl (by kernel_rfl) (by kernel_rfl) (by kernel_rfl) (fun _ _ _ h => h) (Or.inl ⟨by rfl, ?_⟩) (by assumption) ?_
        · (intro W hSw; obtain ⟨q1, q2, q3⟩ := hSw; go_simp)
        try simp only [Act.put, List.setIfInBounds_toArray, List.set_cons_zero, List.set_cons_succ]
        refine wpAnyH_ready (rs := [23]) (by kernel_rfl) (by simp) ?_
        refine AllReadyH.cons (o := ({ dst := some 65, op := Op.call { callee := Callee.value (Operand.func 55), args := #[Operand.tmp 64, Operand.const (Value.int IntKind.i64 3)], argTypes := #[88, 3] }, type := 3, pos := "top.go:483", after := #[{ on := 22, ground := Ground.data }, { on := 21, ground := Ground.chain }, { on := 21, ground := Ground.guard }], guard := some (21, true) } : Oper)) rfl (fun K hK => ?_) AllReadyH.nil
        go_simp
        go_at_call 55; refine (D3.out _).mono ?_; rintro e w10 ⟨rfl, hx10⟩
        have hX10 : Ext w7 w10 := Ext.trans (by repeat (first | assumption | exact Ext.refl _ | refine Ext.drew ?_ | refine Ext.drewN ?_ _ | refine Ext.alloc ?_ _)) hx10
        try go_simp
        refine hK.out _ _ (HS.out w10 hX10) (fun hHeld => ?_)
        clear hK K hx10
        try simp only [Act.put, List.setIfInBounds_toArray, List.set_cons_zero, List.set_cons_succ]
        refine wpAnyH_take (i := 27) (oi := ({ dst := some 69, op := Op.binOp BinOp.eql 3 (Operand.tmp 65) (Operand.tmp 68) 3, type := 4, pos := "top.go:483", after := #[{ on := 23, ground := Ground.data }, { on := 26, ground := Ground.data }, { on := 21, ground := Ground.guard }], guard := some (21, true) } : Oper)) (v := .bool true) rfl (by kernel_rfl) (by kernel_rfl) (by kernel_rfl) (fun _ _ _ h => h) (Or.inl ⟨by rfl, ?_⟩) (by assumption) ?_
        · (intro W hSw; obtain ⟨q1, q2, q3⟩ := hSw; go_simp)
        try simp only [Act.put, List.setIfInBounds_toArray, List.set_cons_zero, List.set_cons_succ]
        refine wpAnyH_take (i := 28) (oi := ({ dst := some 70, op := Op.pick (Operand.tmp 63) (Operand.tmp 69) (Operand.const (Value.bool false)), type := 4, pos := "top.go:483", after := #[{ on := 21, ground := Ground.data }, { on := 27, ground := Ground.data }], guard := none } : Oper)) (v := .bool true) rfl (by kernel_rfl) (by kernel_rfl) (by kernel_rfl) (fun _ _ _ h => h) (Or.inl ⟨by rfl, ?_⟩) (by assumption) ?_
        · (intro W hSw; obtain ⟨q1, q2, q3⟩ := hSw; go_simp)
        try simp only [Act.put, List.setIfInBounds_toArray, List.set_cons_zero, List.set_cons_succ]
        refine wpAnyH_take (i := 29) (oi := ({ dst := some 71, op := Op.move (Operand.tmp 70), type := 4, pos := "top.go:483", after := #[{ on := 28, ground := Ground.data }, { on := 23, ground := Ground.chain }], guard := none } : Oper)) (v := .bool true) rfl (by kernel_rfl) (by kernel_rfl) (by kernel_rfl) (fun _ _ _ h => h) (Or.inl ⟨by rfl, ?_⟩) (by assumption) ?_
        · (intro W hSw; obtain ⟨q1, q2, q3⟩ := hSw; go_simp)
        try simp only [Act.put, List.setIfInBounds_toArray, List.set_cons_zero, List.set_cons_succ]
        refine wpAnyH_take (i := 30) (oi := ({ dst := some 72, op := Op.load 88 (Operand.tmp 6), type := 88, pos := "top.go:483", after := #[{ on := 29, ground := Ground.guard }], guard := some (29, true) } : Oper)) (v := .agg cs.toArray) rfl (by kernel_rfl) (by kernel_rfl) (by kernel_rfl) (fun _ _ _ h => h) (yieldsIf_load_mid (by rfl) _ _ rfl _ _ rfl _ _ (fun w hw => hw.1) hund rfl hsz1) (by assumption) ?_
        try simp only [Act.put, List.setIfInBounds_toArray, List.set_cons_zero, List.set_cons_succ]
        refine wpAnyH_take (i := 32) (oi := ({ dst := some 74, op := Op.fieldAddr 65 (Operand.tmp 11) 3, type := 0, pos := "top.go:483", after := #[{ on := 29, ground := Ground.guard }], guard := some (29, true) } : Oper)) (v := .pointer (some ⟨w6.heap.size, 3, none⟩)) rfl (by kernel_rfl) (by kernel_rfl) (by kernel_rfl) (fun _ _ _ h => h) (Or.inl ⟨by rfl, ?_⟩) (by assumption) ?_
        · (intro W hSw; obtain ⟨q1, q2, q3⟩ := hSw; go_simp)
        try simp only [Act.put, List.setIfInBounds_toArray, List.set_cons_zero, List.set_cons_succ]
        refine wpAnyH_take (i := 33) (oi := ({ dst := some 75, op := Op.load 63 (Operand.tmp 74), type := 63, pos := "top.go:483", after := #[{ on := 32, ground := Ground.data }, { on := 29, ground := Ground.guard }], guard := some (29, true) } : Oper)) (v := .slice a2 m.od.length c2) rfl (by kernel_rfl) (by kernel_rfl) (by kernel_rfl) (fun _ _ _ h => h) (Or.inl ⟨by rfl, ?_⟩) (by assumption) ?_
        · (intro W hSw; obtain ⟨q1, q2, q3⟩ := hSw; go_simp)
        try simp only [Act.put, List.setIfInBounds_toArray, List.set_cons_zero, List.set_cons_succ]
        refine wpAnyH_take (i := 34) (oi := ({ dst := some 76, op := Op.call { callee := Callee.builtin Builtin.len, args := #[Operand.tmp 75], argTypes := #[63] }, type := 3, pos := "top.go:483", after := #[{ on := 33, ground := Ground.data }, { on := 29, ground := Ground.guard }], guard := some (29, true) } : Oper)) (v := .int .i64 (m.od.length : Int)) rfl (by kernel_rfl) (by kernel_rfl) (by kernel_rfl) (fun _ _ _ h => h) (Or.inl ⟨by rfl, ?_⟩) (by assumption) ?_
        · (intro W hSw; obtain ⟨q1, q2, q3⟩ := hSw; go_simp)
        try simp only [Act.put, List.setIfInBounds_toArray, List.set_cons_zero, List.set_cons_succ]
        refine wpAnyH_ready (rs := [31]) (by kernel_rfl) (by simp) ?_
        refine AllReadyH.cons (o := ({ dst := some 73, op := Op.call { callee := Callee.value (Operand.func 55), args := #[Operand.tmp 72, Operand.const (Value.int IntKind.i64 4)], argTypes := #[88, 3] }, type := 3, pos := "top.go:483", after := #[{ on := 30, ground := Ground.data }, { on := 29, ground := Ground.chain }, { on := 29, ground := Ground.guard }], guard := some (29, true) } : Oper)) rfl (fun K hK => ?_) AllReadyH.nil
        go_simp
        go_at_call 55; refine (D4.out _).mono ?_; rintro e w11 ⟨rfl, hx11⟩
        have hX11 : Ext w7 w11 := Ext.trans (by repeat (first | assumption | exact Ext.refl _ | refine Ext.drew ?_ | refine Ext.drewN ?_ _ | refine Ext.alloc ?_ _)) hx11
        try go_simp
        refine hK.out _ _ (HS.out w11 hX11) (fun hHeld => ?_)
        clear hK K hx11
        try simp only [Act.put, List.setIfInBounds_toArray, List.set_cons_zero, List.set_cons_succ]
        refine wpAnyH_take (i := 35) (oi := ({ dst := some 77, op := Op.binOp BinOp.eql 3 (Operand.tmp 73) (Operand.tmp 76) 3, type := 4, pos := "top.go:483", after := #[{ on := 31, ground := Ground.data }, { on := 34, ground := Ground.data }, { on := 29, ground := Ground.guard }], guard := some (29, true) } : Oper)) (v := .bool true) rfl (by kernel_rfl) (by kernel_rfl) (by kernel_rfl) (fun _ _ _ h => h) (Or.inl ⟨by rfl, ?_⟩) (by assumption) ?_
        · (intro W hSw; obtain ⟨q1, q2, q3⟩ := hSw; go_simp)
        try simp only [Act.put, List.setIfInBounds_toArray, List.set_cons_zero, List.set_cons_succ]
        refine wpAnyH_take (i := 36) (oi := ({ dst := some 78, op := Op.pick (Operand.tmp 71) (Operand.tmp 77) (Operand.const (Value.bool false)), type := 4, pos := "top.go:483", after := #[{ on := 29, ground := Ground.data }, { on := 35, ground := Ground.data }], guard := none } : Oper)) (v := .bool true) rfl (by kernel_rfl) (by kernel_rfl) (by kernel_rfl) (fun _ _ _ h => h) (Or.inl ⟨by rfl, ?_⟩) (by assumption) ?_
        · (intro W hSw; obtain ⟨q1, q2, q3⟩ := hSw; go_simp)
        try simp only [Act.put, List.setIfInBounds_toArray, List.set_cons_zero, List.set_cons_succ]
        refine wpAnyH_take (i := 37) (oi := ({ dst := some 79, op := Op.move (Operand.tmp 78), type := 4, pos := "top.go:483", after := #[{ on := 36, ground := Ground.data }, { on := 31, ground := Ground.chain }], guard := none } : Oper)) (v := .bool true) rfl (by kernel_rfl) (by kernel_rfl) (by kernel_rfl) (fun _ _ _ h => h) (Or.inl ⟨by rfl, ?_⟩) (by assumption) ?_
        · (intro W hSw; obtain ⟨q1, q2, q3⟩ := hSw; go_simp)
        try simp only [Act.put, List.setIfInBounds_toArray, List.set_cons_zero, List.set_cons_succ]
        refine wpAnyH_take (i := 38) (oi := ({ dst := some 80, op := Op.load 88 (Operand.tmp 6), type := 88, pos := "top.go:483", after := #[{ on := 37, ground := Ground.guard }], guard := some (37, true) } : Oper)) (v := .agg cs.toArray) rfl (by kernel_rfl) (by kernel_rfl) (by kernel_rfl) (fun _ _ _ h => h) (yieldsIf_load_mid (by rfl) _ _ rfl _ _ rfl _ _ (fun w hw => hw.1) hund rfl hsz1) (by assumption) ?_
        try simp only [Act.put, List.setIfInBounds_toArray, List.set_cons_zero, List.set_cons_succ]
        refine wpAnyH_ready (rs := [39]) (by kernel_rfl) (by simp) ?_
        refine AllReadyH.cons (o := ({ dst := some 81, op := Op.call { callee := Callee.value (Operand.func 55), args := #[Operand.tmp 80, Operand.const (Value.int IntKind.i64 0)], argTypes := #[88, 3] }, type := 3, pos := "top.go:483", after := #[{ on := 38, ground := Ground.data }, { on := 37, ground := Ground.chain }, { on := 37, ground := Ground.guard }], guard := some (37, true) } : Oper)) rfl (fun K hK => ?_) AllReadyH.nil
        go_simp
        go_at_call 55; refine (D0.out _).mono ?_; rintro e w12 ⟨rfl, hx12⟩
        have hX12 : Ext w7 w12 := Ext.trans (by repeat (first | assumption | exact Ext.refl _ | refine Ext.drew ?_ | refine Ext.drewN ?_ _ | refine Ext.alloc ?_ _)) hx12
        try go_simp
        refine hK.out _ _ (HS.out w12 hX12) (fun hHeld => ?_)
        clear hK K hx12
        try simp only [Act.put, List.setIfInBounds_toArray, List.set_cons_zero, List.set_cons_succ]
        refine wpAnyH_take (i := 40) (oi := ({ dst := some 82, op := Op.binOp BinOp.geq 3 (Operand.tmp 81) (Operand.const (Value.int IntKind.i64 6)) 3, type := 4, pos := "top.go:483", after := #[{ on := 39, ground := Ground.data }, { on := 37, ground := Ground.guard }], guard := some (37, true) } : Oper)) (v := .bool true) rfl (by kernel_rfl) (by kernel_rfl) (by kernel_rfl) (fun _ _ _ h => h) (Or.inl ⟨by rfl, ?_⟩) (by assumption) ?_
        · (intro W hSw; obtain ⟨q1, q2, q3⟩ := hSw; go_simp)
        try simp only [Act.put, List.setIfInBounds_toArray, List.set_cons_zero, List.set_cons_succ]
        refine wpAnyH_take (i := 41) (oi := ({ dst := some 83, op := Op.pick (Operand.tmp 79) (Operand.tmp 82) (Operand.const (Value.bool false)), type := 4, pos := "top.go:483", after := #[{ on := 37, ground := Ground.data }, { on := 40, ground := Ground.data }], guard := none } : Oper)) (v := .bool true) rfl (by kernel_rfl) (by kernel_rfl) (by kernel_rfl) (fun _ _ _ h => h) (Or.inl ⟨by rfl, ?_⟩) (by assumption) ?_
        · (intro W hSw; obtain ⟨q1, q2, q3⟩ := hSw; go_simp)
        try simp only [Act.put, List.setIfInBounds_toArray, List.set_cons_zero, List.set_cons_succ]
        refine wpAnyH_take (i := 42) (oi := ({ dst := some 2, op := Op.assign (Operand.tmp 83), type := 4, pos := "top.go:483", after := #[{ on := 41, ground := Ground.data }, { on := 39, ground := Ground.chain }, { on := 0, ground := Ground.phase }, { on := 1, ground := Ground.phase }, { on := 2, ground := Ground.phase }, { on := 3, ground := Ground.phase }, { on := 4, ground := Ground.phase }, { on := 5, ground := Ground.phase }, { on := 6, ground := Ground.phase }, { on := 7, ground := Ground.phase }, { on := 8, ground := Ground.phase }, { on := 9, ground := Ground.phase }, { on := 10, ground := Ground.phase }, { on := 11, ground := Ground.phase }, { on := 12, ground := Ground.phase }, { on := 13, ground := Ground.phase }, { on := 14, ground := Ground.phase }, { on := 15, ground := Ground.phase }, { on := 16, ground := Ground.phase }, { on := 17, ground := Ground.phase }, { on := 18, ground := Ground.phase }, { on := 19, ground := Ground.phase }, { on := 20, ground := Ground.phase }, { on := 21, ground := Ground.phase }, { on := 22, ground := Ground.phase }, { on := 23, ground := Ground.phase }, { on := 24, ground := Ground.phase }, { on := 25, ground := Ground.phase }, { on := 26, ground := Ground.phase }, { on := 27, ground := Ground.phase }, { on := 28, ground := Ground.phase }, { on := 29, ground := Ground.phase }, { on := 30, ground := Ground.phase }, { on := 31, ground := Ground.phase }, { on := 32, ground := Ground.phase }, { on := 33, ground := Ground.phase }, { on := 34, ground := Ground.phase }, { on := 35, ground := Ground.phase }, { on := 36, ground := Ground.phase }, { on := 37, ground := Ground.phase }, { on := 38, ground := Ground.phase }, { on := 39, ground := Ground.phase }, { on := 40, ground := Ground.phase }, { on := 41, ground := Ground.phase }], guard := none } : Oper)) (v := .bool true) rfl (by kernel_rfl) (by kernel_rfl) (by kernel_rfl) (fun _ _ _ h => h) (Or.inl ⟨by rfl, ?_⟩) (by assumption) ?_
        · (intro W hSw; obtain ⟨q1, q2, q3⟩ := hSw; go_simp)
        try simp only [Act.put, List.setIfInBounds_toArray, List.set_cons_zero, List.set_cons_succ]
        refine wpAnyH_done (by kernel_rfl) ?_ _
        go_wp2_with fail
        go_ret
        exact ⟨rfl, HX.out.trans hX12⟩
end Go.Proofs.YthndopokabceiaaGreatDoor
