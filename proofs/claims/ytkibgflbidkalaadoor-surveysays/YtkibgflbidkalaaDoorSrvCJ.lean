/- SrvC. -/
import Derived.Test.YtkibgflbidkalaaDoorSrvBJ
import Derived.Deep.MidRow

/- What blocks are used for: Count. -/
namespace Go.Proofs.YtkibgflbidkalaaDoor
open Go.RowKit Go.WideShapes

set_option maxRecDepth 20000 in
set_option maxHeartbeats 4000000 in
theorem count_any (g : Nat → Int) (kd : Int) (w : World) :
    Calls Tryd.prog 6 #[.agg (kC g), .int .i64 kd] w fun e w' => e = .returned (.int .i64 (cntK g kd 24 : Int)) ∧ Ext w w' := by
  have HI : Hid (∀ (j : Nat), j < 24 → ∀ W : World, (Instr.index 27 (.agg (kC g)) (.int .i64 (j : Int))).run Tryd.prog W = .ok (.int .i64 (g j)) W) := fun j hj W => idx24 g j hj W
  have HRG : Hid ((w.alloc (.cells (kC g) 27)).rangeAt w.heap.size 0 (kC g).toList) := fun j v hv => by
    rw [Nat.zero_add, (Blk.new w (kC g) 27).cell]
    simpa using hv
  have HSZ : Hid ((Tryd.prog.info? 27).map (·.size) = some (kC g).toList.length) := by rw [Hid]; kernel_rfl
  have hx0 : Ext w (w.alloc (.cells (kC g) 27)) := (Ext.refl w).alloc _
  generalize kC g = A at *
  go_enter Tryd.func6, Tryd.ntmps6
  go_upto_region 2 with fail
  generalize w.alloc (.cells A 27) = w1 at *
  generalize w.heap.size = b0 at *
  go_wp2_with (refine wpList_load_mid rfl 27 (.tmp 2) rfl b0 0 (by rfl) A.toList _ HRG.out Tryd.underlying27 rfl HSZ.out ?_)
  clear HRG HSZ
  go_loopw [5, 9] (fun n i wr => ∃ j : Nat, j ≤ 24 ∧ i = .int .i64 j ∧ n = .int .i64 (cntK g kd j : Int) ∧ w1 = wr) (fun _ i _ => 24 - (intOf i).toNat)
  case atStart => exact ⟨0, by omega, rfl, rfl, rfl⟩
  case round =>
    obtain ⟨j, hj, rfl, rfl, rfl⟩ := hrel
    have hcl := cntK_le g kd j
    by_cases hlt : j < 24
    · have h24 : (j : Int) < 24 := by omega
      have hi := HI.out j hlt
      have HC : Hid (cntK g kd (j + 1) = cntK g kd j + if g j = kd then 1 else 0) := rfl
      clear HI
      generalize cntK g kd j = q at *
      generalize g j = gj at *
      by_cases hk : gj = kd
      · have HC' : Hid (cntK g kd (j + 1) = q + 1) := by rw [Hid, HC.out, if_pos hk]
        clear HC
        subst hk
        go_wp2_with fail
        go_roundw
        case rel => exact ⟨j + 1, by omega, by go_num, by rw [HC'.out]; go_num, trivial⟩
        case measure => simp [intOf]; omega
      · have HC' : Hid (cntK g kd (j + 1) = q) := by rw [Hid, HC.out, if_neg hk]; rfl
        clear HC
        go_wp2_with fail
        go_roundw
        case rel => exact ⟨j + 1, by omega, by go_num, by rw [HC'.out], trivial⟩
        case measure => simp [intOf]; omega
    · have hj24 : j = 24 := by omega
      subst hj24
      clear HI
      go_wp2_with fail
      go_ret
      exact ⟨rfl, hx0⟩
end Go.Proofs.YtkibgflbidkalaaDoor
