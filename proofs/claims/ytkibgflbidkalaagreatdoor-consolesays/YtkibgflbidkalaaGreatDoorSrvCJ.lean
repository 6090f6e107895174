/- SrvA SrvB SrvC. -/
import Derived.Test.YtkibgflbidkalaaGreatDoorLawAJ
import Derived.Test.YtkibgflbidkalaaGreatDoorStoAJ
import Derived.Deep.MidRow

/- What blocks are used for: unused, Spread. -/
namespace Go.Proofs.YtkibgflbidkalaaGreatDoor
open Go.RowKit Go.WideShapes

def unK (f : Nat → Bool) (b : Nat) : Int := if b < 2 then 1 else if f b = true then 5 else 0
set_option maxRecDepth 20000 in
set_option maxHeartbeats 1000000 in
theorem unused_any (cb b : Nat) (M : CM) (w : World) (hb : b < 24) (h : ChipAt w cb M) :
    Calls Tryz.prog 147 #[.pointer (some ⟨cb, 0, none⟩), .int .i64 (b : Int)] w fun e w' => e = .returned (.int .i64 (unK M.bd b)) ∧ w = w' := by
  have HB : Hid (Calls Tryz.prog 75 #[.pointer (some ⟨cb, 0, none⟩), .int .i64 (b : Int)] w fun e w' => e = .returned (.bool (M.bd b)) ∧ w = w') := (bad_any cb b M w hb h).mono fun _ _ h => ⟨h.1, h.2.symm⟩
  clear h
  by_cases h2 : (b : Int) < 2
  · have hk : unK M.bd b = 1 := by unfold unK; rw [if_pos (by omega)]
    rw [hk]
    go_enter Tryz.func147, Tryz.ntmps147
    go_wp2_with (go_at_call 75; refine HB.out.mono ?_; rintro e w1 ⟨rfl, rfl⟩)
    go_ret
    exact ⟨rfl, rfl⟩
  · cases hf : M.bd b with
    | true =>
      have hk : unK M.bd b = 5 := by unfold unK; rw [if_neg (by omega), if_pos hf]
      rw [hk]
      rw [hf] at HB
      clear hf hk
      go_enter Tryz.func147, Tryz.ntmps147
      go_wp2_with (go_at_call 75; refine HB.out.mono ?_; rintro e w1 ⟨rfl, rfl⟩)
      go_ret
      exact ⟨rfl, rfl⟩
    | false =>
      have hk : unK M.bd b = 0 := by unfold unK; rw [if_neg (by omega), if_neg (by rw [hf]; simp)]
      rw [hk]
      rw [hf] at HB
      clear hf hk
      go_enter Tryz.func147, Tryz.ntmps147
      go_wp2_with (go_at_call 75; refine HB.out.mono ?_; rintro e w1 ⟨rfl, rfl⟩)
      go_ret
      exact ⟨rfl, rfl⟩
def sprd (f : Nat → Bool) (wr : Nat → Int) : Nat → Int × Int × Bool
  | 0 => (0, 0, true)
  | j + 1 => if f (j + 2) = true then sprd f wr j else if (sprd f wr j).2.2 = true then (wr (j + 2), wr (j + 2), false) else (min (sprd f wr j).1 (wr (j + 2)), max (sprd f wr j).2.1 (wr (j + 2)), false)
set_option maxRecDepth 20000 in
set_option maxHeartbeats 2000000 in
theorem spread_any (cb : Nat) (M : CM) (w : World) (h : ChipAt w cb M) :
    Calls Tryz.prog 110 #[.pointer (some ⟨cb, 0, none⟩)] w fun e w' => e = .returned (.tuple #[.int .i64 (sprd M.bd (fun b => (M.wr b : Int)) 22).1, .int .i64 (sprd M.bd (fun b => (M.wr b : Int)) 22).2.1]) ∧ w = w' := by
  have HB : Hid (∀ b : Nat, b < 24 → Calls Tryz.prog 75 #[.pointer (some ⟨cb, 0, none⟩), .int .i64 (b : Int)] w fun e w' => e = .returned (.bool (M.bd b)) ∧ w = w') := fun b hb => (bad_any cb b M w hb h).mono fun _ _ h => ⟨h.1, h.2.symm⟩
  have HWR : Hid (∀ b : Nat, b < 24 → Calls Tryz.prog 76 #[.pointer (some ⟨cb, 0, none⟩), .int .i64 (b : Int)] w fun e w' => e = .returned (.int .i64 (M.wr b : Int)) ∧ w = w') := fun b hb => (wear_any cb b M w hb h).mono fun _ _ h => ⟨h.1, h.2.symm⟩
  clear h
  generalize M.bd = f at *
  obtain ⟨g, hg⟩ : ∃ g : Nat → Int, ∀ b, (M.wr b : Int) = g b := ⟨_, fun _ => rfl⟩
  have hgf : (fun b => (M.wr b : Int)) = g := funext hg
  rw [hgf]
  have HWR' : Hid (∀ b : Nat, b < 24 → Calls Tryz.prog 76 #[.pointer (some ⟨cb, 0, none⟩), .int .i64 (b : Int)] w fun e w' => e = .returned (.int .i64 (g b)) ∧ w = w') := fun b hb => by have := HWR.out b hb; rw [hg] at this; exact this
  clear HWR hgf hg
  go_enter Tryz.func110, Tryz.ntmps110
  go_wp2_with fail
  go_loopw [2, 3, 4, 5] (fun le mo fi i wr => ∃ j : Nat, j ≤ 22 ∧ i = .int .i64 ((j + 2 : Nat) : Int) ∧ le = .int .i64 (sprd f g j).1 ∧ mo = .int .i64 (sprd f g j).2.1 ∧ fi = .bool (sprd f g j).2.2 ∧ w = wr) (fun _ _ _ i _ => 24 - (intOf i).toNat)
  case atStart => exact ⟨0, by omega, rfl, rfl, rfl, rfl, rfl⟩
  case round =>
    obtain ⟨j, hj, rfl, rfl, rfl, rfl, rfl⟩ := hrel
    by_cases hlt : j < 22
    · have h24 : ((j + 2 : Nat) : Int) < 24 := by omega
      have h24' : (j : Int) + 2 < 24 := by omega
      have HB1 : Hid (Calls Tryz.prog 75 #[.pointer (some ⟨cb, 0, none⟩), .int .i64 ((j + 2 : Nat) : Int)] w fun e w' => e = .returned (.bool (f (j + 2))) ∧ w = w') := HB.out (j + 2) (by omega)
      have HW1 : Hid (Calls Tryz.prog 76 #[.pointer (some ⟨cb, 0, none⟩), .int .i64 ((j + 2 : Nat) : Int)] w fun e w' => e = .returned (.int .i64 (g (j + 2))) ∧ w = w') := HWR'.out (j + 2) (by omega)
      have HS : Hid (sprd f g (j + 1) = if f (j + 2) = true then sprd f g j else if (sprd f g j).2.2 = true then (g (j + 2), g (j + 2), false) else (min (sprd f g j).1 (g (j + 2)), max (sprd f g j).2.1 (g (j + 2)), false)) := rfl
      clear HB HWR'
      rw [show ((j + 2 : Nat) : Int) = (j : Int) + 2 by omega] at HB1 HW1 ⊢
      generalize sprd f g j = z at *
      obtain ⟨z1, z2, z3⟩ := z
      generalize g (j + 2) = gj at *
      cases hf : f (j + 2) with
      | true =>
        rw [hf] at HB1
        have HS' : Hid (sprd f g (j + 1) = (z1, z2, z3)) := by have := HS.out; rw [hf] at this; rw [Hid]; simpa using this
        clear HS hf
        go_wp2_with (first
          | (go_at_call 75; refine HB1.out.mono ?_; rintro e w1 ⟨rfl, rfl⟩)
          | (go_at_call 76; refine HW1.out.mono ?_; rintro e w1 ⟨rfl, rfl⟩))
        go_roundw
        case rel => exact ⟨j + 1, by omega, by go_num, by rw [HS'.out], by rw [HS'.out], by rw [HS'.out], trivial⟩
        case measure => simp [intOf]; omega
      | false =>
        rw [hf] at HB1
        cases z3 with
        | true =>
          have HS' : Hid (sprd f g (j + 1) = (gj, gj, false)) := by have := HS.out; rw [hf] at this; rw [Hid]; simpa using this
          clear HS hf
          go_wp2_with (first
            | (go_at_call 75; refine HB1.out.mono ?_; rintro e w1 ⟨rfl, rfl⟩)
            | (go_at_call 76; refine HW1.out.mono ?_; rintro e w1 ⟨rfl, rfl⟩))
          go_roundw
          case rel => exact ⟨j + 1, by omega, by go_num, by rw [HS'.out], by rw [HS'.out], by rw [HS'.out], trivial⟩
          case measure => simp [intOf]; omega
        | false =>
          have HS' : Hid (sprd f g (j + 1) = (min z1 gj, max z2 gj, false)) := by have := HS.out; rw [hf] at this; rw [Hid]; simpa using this
          clear HS hf
          go_wp2_with (first
            | (go_at_call 75; refine HB1.out.mono ?_; rintro e w1 ⟨rfl, rfl⟩)
            | (go_at_call 76; refine HW1.out.mono ?_; rintro e w1 ⟨rfl, rfl⟩))
          go_roundw
          case rel => exact ⟨j + 1, by omega, by go_num, by rw [HS'.out], by rw [HS'.out], by rw [HS'.out], trivial⟩
          case measure => simp [intOf]; omega
    · have hj22 : j = 22 := by omega
      subst hj22
      clear HB HWR'
      go_wp2_with fail
      go_ret2
      exact ⟨rfl, rfl⟩
end Go.Proofs.YtkibgflbidkalaaGreatDoor

/- What blocks are used for: Count. -/
namespace Go.Proofs.YtkibgflbidkalaaGreatDoor
open Go.RowKit Go.WideShapes

def kC (g : Nat → Int) : Array Value := #[.int .i64 (g 0), .int .i64 (g 1), .int .i64 (g 2), .int .i64 (g 3), .int .i64 (g 4), .int .i64 (g 5), .int .i64 (g 6), .int .i64 (g 7), .int .i64 (g 8), .int .i64 (g 9), .int .i64 (g 10), .int .i64 (g 11), .int .i64 (g 12), .int .i64 (g 13), .int .i64 (g 14), .int .i64 (g 15), .int .i64 (g 16), .int .i64 (g 17), .int .i64 (g 18), .int .i64 (g 19), .int .i64 (g 20), .int .i64 (g 21), .int .i64 (g 22), .int .i64 (g 23)]
theorem kC_range (g : Nat → Int) : kC g = ((List.range 24).map fun i : Nat => Value.int .i64 (g i)).toArray := rfl
theorem kC_get (g : Nat → Int) (n : Nat) (h : n < 24) : (kC g)[n]? = some (.int .i64 (g n)) := by
  rw [kC_range]; simp [h]
def updK (g : Nat → Int) (b : Nat) (v : Int) : Nat → Int := fun i => if i = b then v else g i
theorem kC_set (g : Nat → Int) (b : Nat) (v : Int) : (kC g).setIfInBounds b (.int .i64 v) = kC (updK g b v) := by
  rw [kC_range, kC_range]
  apply Array.ext'
  simp only [Array.toList_setIfInBounds]
  apply List.ext_getElem?
  intro i
  rw [List.getElem?_set]
  by_cases hi : i < 24
  · by_cases hij : b = i
    · subst hij
      simp [hi, updK]
    · have hij' : ¬ i = b := fun e => hij e.symm
      simp [hij, hi, updK, hij']
  · have h1 : (List.map (fun i : Nat => Value.int .i64 (updK g b v i)) (List.range 24))[i]? = none := by simp; omega
    have h2 : (List.map (fun i : Nat => Value.int .i64 (g i)) (List.range 24))[i]? = none := by simp; omega
    rw [h1]
    split
    · split
      · rename_i h3 h4; simp at h4; omega
      · rfl
    · exact h2
def cntK (g : Nat → Int) (kd : Int) : Nat → Nat
  | 0 => 0
  | j + 1 => cntK g kd j + if g j = kd then 1 else 0
theorem cntK_le (g : Nat → Int) (kd : Int) : ∀ j, cntK g kd j ≤ j
  | 0 => Nat.le_refl _
  | j + 1 => by have := cntK_le g kd j; unfold cntK; split <;> omega
theorem idx24 (g : Nat → Int) (j : Nat) (hj : j < 24) (w : World) : (Instr.index 159 (.agg (kC g)) (.int .i64 (j : Int))).run Tryz.prog w = .ok (.int .i64 (g j)) w := by
  have h0 : (Instr.index 159 (.agg (kC g)) (.int .i64 ((0 : Nat) : Int))).run Tryz.prog w = .ok (.int .i64 (g 0)) w := by kernel_rfl
  have h1 : (Instr.index 159 (.agg (kC g)) (.int .i64 ((1 : Nat) : Int))).run Tryz.prog w = .ok (.int .i64 (g 1)) w := by kernel_rfl
  have h2 : (Instr.index 159 (.agg (kC g)) (.int .i64 ((2 : Nat) : Int))).run Tryz.prog w = .ok (.int .i64 (g 2)) w := by kernel_rfl
  have h3 : (Instr.index 159 (.agg (kC g)) (.int .i64 ((3 : Nat) : Int))).run Tryz.prog w = .ok (.int .i64 (g 3)) w := by kernel_rfl
  have h4 : (Instr.index 159 (.agg (kC g)) (.int .i64 ((4 : Nat) : Int))).run Tryz.prog w = .ok (.int .i64 (g 4)) w := by kernel_rfl
  have h5 : (Instr.index 159 (.agg (kC g)) (.int .i64 ((5 : Nat) : Int))).run Tryz.prog w = .ok (.int .i64 (g 5)) w := by kernel_rfl
  have h6 : (Instr.index 159 (.agg (kC g)) (.int .i64 ((6 : Nat) : Int))).run Tryz.prog w = .ok (.int .i64 (g 6)) w := by kernel_rfl
  have h7 : (Instr.index 159 (.agg (kC g)) (.int .i64 ((7 : Nat) : Int))).run Tryz.prog w = .ok (.int .i64 (g 7)) w := by kernel_rfl
  have h8 : (Instr.index 159 (.agg (kC g)) (.int .i64 ((8 : Nat) : Int))).run Tryz.prog w = .ok (.int .i64 (g 8)) w := by kernel_rfl
  have h9 : (Instr.index 159 (.agg (kC g)) (.int .i64 ((9 : Nat) : Int))).run Tryz.prog w = .ok (.int .i64 (g 9)) w := by kernel_rfl
  have h10 : (Instr.index 159 (.agg (kC g)) (.int .i64 ((10 : Nat) : Int))).run Tryz.prog w = .ok (.int .i64 (g 10)) w := by kernel_rfl
  have h11 : (Instr.index 159 (.agg (kC g)) (.int .i64 ((11 : Nat) : Int))).run Tryz.prog w = .ok (.int .i64 (g 11)) w := by kernel_rfl
  have h12 : (Instr.index 159 (.agg (kC g)) (.int .i64 ((12 : Nat) : Int))).run Tryz.prog w = .ok (.int .i64 (g 12)) w := by kernel_rfl
  have h13 : (Instr.index 159 (.agg (kC g)) (.int .i64 ((13 : Nat) : Int))).run Tryz.prog w = .ok (.int .i64 (g 13)) w := by kernel_rfl
  have h14 : (Instr.index 159 (.agg (kC g)) (.int .i64 ((14 : Nat) : Int))).run Tryz.prog w = .ok (.int .i64 (g 14)) w := by kernel_rfl
  have h15 : (Instr.index 159 (.agg (kC g)) (.int .i64 ((15 : Nat) : Int))).run Tryz.prog w = .ok (.int .i64 (g 15)) w := by kernel_rfl
  have h16 : (Instr.index 159 (.agg (kC g)) (.int .i64 ((16 : Nat) : Int))).run Tryz.prog w = .ok (.int .i64 (g 16)) w := by kernel_rfl
  have h17 : (Instr.index 159 (.agg (kC g)) (.int .i64 ((17 : Nat) : Int))).run Tryz.prog w = .ok (.int .i64 (g 17)) w := by kernel_rfl
  have h18 : (Instr.index 159 (.agg (kC g)) (.int .i64 ((18 : Nat) : Int))).run Tryz.prog w = .ok (.int .i64 (g 18)) w := by kernel_rfl
  have h19 : (Instr.index 159 (.agg (kC g)) (.int .i64 ((19 : Nat) : Int))).run Tryz.prog w = .ok (.int .i64 (g 19)) w := by kernel_rfl
  have h20 : (Instr.index 159 (.agg (kC g)) (.int .i64 ((20 : Nat) : Int))).run Tryz.prog w = .ok (.int .i64 (g 20)) w := by kernel_rfl
  have h21 : (Instr.index 159 (.agg (kC g)) (.int .i64 ((21 : Nat) : Int))).run Tryz.prog w = .ok (.int .i64 (g 21)) w := by kernel_rfl
  have h22 : (Instr.index 159 (.agg (kC g)) (.int .i64 ((22 : Nat) : Int))).run Tryz.prog w = .ok (.int .i64 (g 22)) w := by kernel_rfl
  have h23 : (Instr.index 159 (.agg (kC g)) (.int .i64 ((23 : Nat) : Int))).run Tryz.prog w = .ok (.int .i64 (g 23)) w := by kernel_rfl
  match j, hj with
  | 0, _ => exact h0
  | 1, _ => exact h1
  | 2, _ => exact h2
  | 3, _ => exact h3
  | 4, _ => exact h4
  | 5, _ => exact h5
  | 6, _ => exact h6
  | 7, _ => exact h7
  | 8, _ => exact h8
  | 9, _ => exact h9
  | 10, _ => exact h10
  | 11, _ => exact h11
  | 12, _ => exact h12
  | 13, _ => exact h13
  | 14, _ => exact h14
  | 15, _ => exact h15
  | 16, _ => exact h16
  | 17, _ => exact h17
  | 18, _ => exact h18
  | 19, _ => exact h19
  | 20, _ => exact h20
  | 21, _ => exact h21
  | 22, _ => exact h22
  | 23, _ => exact h23
  | n + 24, h => exact absurd h (by omega)
end Go.Proofs.YtkibgflbidkalaaGreatDoor

/- What blocks are used for: Count. -/
namespace Go.Proofs.YtkibgflbidkalaaGreatDoor
open Go.RowKit Go.WideShapes

set_option maxRecDepth 20000 in
set_option maxHeartbeats 4000000 in
theorem count_any (g : Nat → Int) (kd : Int) (w : World) :
    Calls Tryz.prog 109 #[.agg (kC g), .int .i64 kd] w fun e w' => e = .returned (.int .i64 (cntK g kd 24 : Int)) ∧ Ext w w' := by
  have HI : Hid (∀ (j : Nat), j < 24 → ∀ W : World, (Instr.index 159 (.agg (kC g)) (.int .i64 (j : Int))).run Tryz.prog W = .ok (.int .i64 (g j)) W) := fun j hj W => idx24 g j hj W
  have HRG : Hid ((w.alloc (.cells (kC g) 159)).rangeAt w.heap.size 0 (kC g).toList) := fun j v hv => by
    rw [Nat.zero_add, (Blk.new w (kC g) 159).cell]
    simpa using hv
  have HSZ : Hid ((Tryz.prog.info? 159).map (·.size) = some (kC g).toList.length) := by rw [Hid]; kernel_rfl
  have hx0 : Ext w (w.alloc (.cells (kC g) 159)) := (Ext.refl w).alloc _
  generalize kC g = A at *
  go_enter Tryz.func109, Tryz.ntmps109
  go_upto_region 2 with fail
  generalize w.alloc (.cells A 159) = w1 at *
  generalize w.heap.size = b0 at *
  go_wp2_with (refine wpList_load_mid rfl 159 (.tmp 2) rfl b0 0 (by rfl) A.toList _ HRG.out Tryz.underlying159 rfl HSZ.out ?_)
  clear HRG HSZ
  go_loopw [5, 9] (fun n i wr => ∃ j : Nat, j ≤ 24 ∧ i = .int .i64 j ∧ n = .int .i64 (cntK g kd j : Int) ∧ w1 = wr) (fun _ i _ => 24 - (intOf i).toNat)
  case atStart => exact ⟨0, by omega, rfl, rfl, rfl⟩
  case round =>
    obtain ⟨j, hj, rfl, rfl, rfl⟩ := hrel
    have hcl := cntK_le g kd j
    by_cases hlt : j < 24
    · have h24 : (j : Int) < 24 := by omega
      have hi := HI.out j hlt
      have HC : Hid (cntK g kd (j + 1) = cntK g kd j + if g j = kd then 1 else 0) := rfl
      clear HI
      generalize cntK g kd j = q at *
      generalize g j = gj at *
      by_cases hk : gj = kd
      · have HC' : Hid (cntK g kd (j + 1) = q + 1) := by rw [Hid, HC.out, if_pos hk]
        clear HC
        subst hk
        go_wp2_with fail
        go_roundw
        case rel => exact ⟨j + 1, by omega, by go_num, by rw [HC'.out]; go_num, trivial⟩
        case measure => simp [intOf]; omega
      · have HC' : Hid (cntK g kd (j + 1) = q) := by rw [Hid, HC.out, if_neg hk]; rfl
        clear HC
        go_wp2_with fail
        go_roundw
        case rel => exact ⟨j + 1, by omega, by go_num, by rw [HC'.out], trivial⟩
        case measure => simp [intOf]; omega
    · have hj24 : j = 24 := by omega
      subst hj24
      clear HI
      go_wp2_with fail
      go_ret
      exact ⟨rfl, hx0⟩
end Go.Proofs.YtkibgflbidkalaaGreatDoor
