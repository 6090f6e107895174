/- SrvA. -/
import Derived.Test.YtkibgflbidkalaaDoorLawAJ
import Derived.Test.YtkibgflbidkalaaDoorStoAJ

/- What blocks are used for: unused, Spread. -/
namespace Go.Proofs.YtkibgflbidkalaaDoor
open Go.RowKit Go.WideShapes

/-- The kind of a block that no manifest names. -/
def unK (f : Nat → Bool) (b : Nat) : Int := if b < 2 then 1 else if f b = true then 5 else 0
set_option maxRecDepth 20000 in
set_option maxHeartbeats 1000000 in
theorem unused_any (cb b : Nat) (M : CM) (w : World) (hb : b < 24) (h : ChipAt w cb M) :
    Calls Tryd.prog 20 #[.pointer (some ⟨cb, 0, none⟩), .int .i64 (b : Int)] w fun e w' => e = .returned (.int .i64 (unK M.bd b)) ∧ w = w' := by
  have HB : Hid (Calls Tryd.prog 14 #[.pointer (some ⟨cb, 0, none⟩), .int .i64 (b : Int)] w fun e w' => e = .returned (.bool (M.bd b)) ∧ w = w') := (bad_any cb b M w hb h).mono fun _ _ h => ⟨h.1, h.2.symm⟩
  clear h
  by_cases h2 : (b : Int) < 2
  · have hk : unK M.bd b = 1 := by unfold unK; rw [if_pos (by omega)]
    rw [hk]
    go_enter Tryd.func20, Tryd.ntmps20
    go_wp2_with (go_at_call 14; refine HB.out.mono ?_; rintro e w1 ⟨rfl, rfl⟩)
    go_ret
    exact ⟨rfl, rfl⟩
  · cases hf : M.bd b with
    | true =>
      have hk : unK M.bd b = 5 := by unfold unK; rw [if_neg (by omega), if_pos hf]
      rw [hk]
      rw [hf] at HB
      clear hf hk
      go_enter Tryd.func20, Tryd.ntmps20
      go_wp2_with (go_at_call 14; refine HB.out.mono ?_; rintro e w1 ⟨rfl, rfl⟩)
      go_ret
      exact ⟨rfl, rfl⟩
    | false =>
      have hk : unK M.bd b = 0 := by unfold unK; rw [if_neg (by omega), if_neg (by rw [hf]; simp)]
      rw [hk]
      rw [hf] at HB
      clear hf hk
      go_enter Tryd.func20, Tryd.ntmps20
      go_wp2_with (go_at_call 14; refine HB.out.mono ?_; rintro e w1 ⟨rfl, rfl⟩)
      go_ret
      exact ⟨rfl, rfl⟩
/-- The least and the most wear so far, and whether there was none yet. -/
def sprd (f : Nat → Bool) (wr : Nat → Int) : Nat → Int × Int × Bool
  | 0 => (0, 0, true)
  | j + 1 => if f (j + 2) = true then sprd f wr j else if (sprd f wr j).2.2 = true then (wr (j + 2), wr (j + 2), false) else (min (sprd f wr j).1 (wr (j + 2)), max (sprd f wr j).2.1 (wr (j + 2)), false)
theorem sprd_ok (f : Nat → Bool) (wr : Nat → Int) (h : ∀ b, 0 ≤ wr b) : ∀ j, 0 ≤ (sprd f wr j).1 ∧ (sprd f wr j).1 ≤ (sprd f wr j).2.1
  | 0 => ⟨Int.le_refl _, Int.le_refl _⟩
  | j + 1 => by
    have ih := sprd_ok f wr h j
    have hw := h (j + 2)
    unfold sprd
    split
    · exact ih
    · split
      · exact ⟨hw, Int.le_refl _⟩
      · dsimp only; omega
set_option maxRecDepth 20000 in
set_option maxHeartbeats 2000000 in
theorem spread_any (cb : Nat) (M : CM) (w : World) (h : ChipAt w cb M) :
    Calls Tryd.prog 16 #[.pointer (some ⟨cb, 0, none⟩)] w fun e w' => e = .returned (.tuple #[.int .i64 (sprd M.bd (fun b => (M.wr b : Int)) 22).1, .int .i64 (sprd M.bd (fun b => (M.wr b : Int)) 22).2.1]) ∧ w = w' := by
  have HB : Hid (∀ b : Nat, b < 24 → Calls Tryd.prog 14 #[.pointer (some ⟨cb, 0, none⟩), .int .i64 (b : Int)] w fun e w' => e = .returned (.bool (M.bd b)) ∧ w = w') := fun b hb => (bad_any cb b M w hb h).mono fun _ _ h => ⟨h.1, h.2.symm⟩
  have HWR : Hid (∀ b : Nat, b < 24 → Calls Tryd.prog 15 #[.pointer (some ⟨cb, 0, none⟩), .int .i64 (b : Int)] w fun e w' => e = .returned (.int .i64 (M.wr b : Int)) ∧ w = w') := fun b hb => (wear_any cb b M w hb h).mono fun _ _ h => ⟨h.1, h.2.symm⟩
  clear h
  generalize M.bd = f at *
  obtain ⟨g, hg⟩ : ∃ g : Nat → Int, ∀ b, (M.wr b : Int) = g b := ⟨_, fun _ => rfl⟩
  have hgf : (fun b => (M.wr b : Int)) = g := funext hg
  rw [hgf]
  have HWR' : Hid (∀ b : Nat, b < 24 → Calls Tryd.prog 15 #[.pointer (some ⟨cb, 0, none⟩), .int .i64 (b : Int)] w fun e w' => e = .returned (.int .i64 (g b)) ∧ w = w') := fun b hb => by have := HWR.out b hb; rw [hg] at this; exact this
  clear HWR hgf hg
  go_enter Tryd.func16, Tryd.ntmps16
  go_wp2_with fail
  go_loopw [2, 3, 4, 5] (fun le mo fi i wr => ∃ j : Nat, j ≤ 22 ∧ i = .int .i64 ((j + 2 : Nat) : Int) ∧ le = .int .i64 (sprd f g j).1 ∧ mo = .int .i64 (sprd f g j).2.1 ∧ fi = .bool (sprd f g j).2.2 ∧ w = wr) (fun _ _ _ i _ => 24 - (intOf i).toNat)
  case atStart => exact ⟨0, by omega, rfl, rfl, rfl, rfl, rfl⟩
  case round =>
    obtain ⟨j, hj, rfl, rfl, rfl, rfl, rfl⟩ := hrel
    by_cases hlt : j < 22
    · have h24 : ((j + 2 : Nat) : Int) < 24 := by omega
      have h24' : (j : Int) + 2 < 24 := by omega
      have HB1 : Hid (Calls Tryd.prog 14 #[.pointer (some ⟨cb, 0, none⟩), .int .i64 ((j + 2 : Nat) : Int)] w fun e w' => e = .returned (.bool (f (j + 2))) ∧ w = w') := HB.out (j + 2) (by omega)
      have HW1 : Hid (Calls Tryd.prog 15 #[.pointer (some ⟨cb, 0, none⟩), .int .i64 ((j + 2 : Nat) : Int)] w fun e w' => e = .returned (.int .i64 (g (j + 2))) ∧ w = w') := HWR'.out (j + 2) (by omega)
      have HS : Hid (sprd f g (j + 1) = if f (j + 2) = true then sprd f g j else if (sprd f g j).2.2 = true then (g (j + 2), g (j + 2), false) else (min (sprd f g j).1 (g (j + 2)), max (sprd f g j).2.1 (g (j + 2)), false)) := rfl
      clear HB HWR'
      rw [show ((j + 2 : Nat) : Int) = (j : Int) + 2 by omega] at HB1 HW1 ⊢
      generalize sprd f g j = z at *
      obtain ⟨z1, z2, z3⟩ := z
      generalize g (j + 2) = gj at *
      cases hf : f (j + 2) with
      | true =>
        rw [hf] at HB1
        have HS' : Hid (sprd f g (j + 1) = (z1, z2, z3)) := by have := HS.out; rw [hf] at this; rw [Hid]; simpa using this
        clear HS hf
        go_wp2_with (first
          | (go_at_call 14; refine HB1.out.mono ?_; rintro e w1 ⟨rfl, rfl⟩)
          | (go_at_call 15; refine HW1.out.mono ?_; rintro e w1 ⟨rfl, rfl⟩))
        go_roundw
        case rel => exact ⟨j + 1, by omega, by go_num, by rw [HS'.out], by rw [HS'.out], by rw [HS'.out], trivial⟩
        case measure => simp [intOf]; omega
      | false =>
        rw [hf] at HB1
        cases z3 with
        | true =>
          have HS' : Hid (sprd f g (j + 1) = (gj, gj, false)) := by have := HS.out; rw [hf] at this; rw [Hid]; simpa using this
          clear HS hf
          go_wp2_with (first
            | (go_at_call 14; refine HB1.out.mono ?_; rintro e w1 ⟨rfl, rfl⟩)
            | (go_at_call 15; refine HW1.out.mono ?_; rintro e w1 ⟨rfl, rfl⟩))
          go_roundw
          case rel => exact ⟨j + 1, by omega, by go_num, by rw [HS'.out], by rw [HS'.out], by rw [HS'.out], trivial⟩
          case measure => simp [intOf]; omega
        | false =>
          have HS' : Hid (sprd f g (j + 1) = (min z1 gj, max z2 gj, false)) := by have := HS.out; rw [hf] at this; rw [Hid]; simpa using this
          clear HS hf
          go_wp2_with (first
            | (go_at_call 14; refine HB1.out.mono ?_; rintro e w1 ⟨rfl, rfl⟩)
            | (go_at_call 15; refine HW1.out.mono ?_; rintro e w1 ⟨rfl, rfl⟩))
          go_roundw
          case rel => exact ⟨j + 1, by omega, by go_num, by rw [HS'.out], by rw [HS'.out], by rw [HS'.out], trivial⟩
          case measure => simp [intOf]; omega
    · have hj22 : j = 22 := by omega
      subst hj22
      clear HB HWR'
      go_wp2_with fail
      go_ret2
      exact ⟨rfl, rfl⟩
end Go.Proofs.YtkibgflbidkalaaDoor
