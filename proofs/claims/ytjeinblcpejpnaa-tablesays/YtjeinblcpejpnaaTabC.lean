/- Tables: the filter of a table. -/
import Derived.Test.YtjeinblcpejpnaaTabB
import Derived.Lib.EndianBits
namespace Go.Proofs.Ytjeinblcpejpnaa
open Go.RowKit Go.WideShapes
attribute [local go_sem ↓] Go.wp_at_zero Go.wp_at_succ

def bytA (d : List UInt8) (i : Nat) : Nat := (d.getD i 0).toNat
/-- A number of k bytes, behind the mark. -/
def headN (d : List UInt8) : Nat → Nat
  | 0 => 0
  | k + 1 => headN d k + bytA d (1 + k) * 256 ^ k
theorem bytA_lt (d : List UInt8) (i : Nat) : bytA d i < 256 := (d.getD i 0).toNat_lt
theorem headN_lt (d : List UInt8) : ∀ k, headN d k < 256 ^ k
  | 0 => by simp [headN]
  | k + 1 => by
    have h1 := headN_lt d k
    have h2 := bytA_lt d (1 + k)
    have h3 : bytA d (1 + k) * 256 ^ k ≤ 255 * 256 ^ k := Nat.mul_le_mul_right _ (by omega)
    simp only [headN]
    rw [Nat.pow_succ]
    omega
theorem u64_or (y x : Int) (i : Nat) (hy₀ : 0 ≤ y) (hy : y < 2 ^ i) (hy1 : y < 2 ^ 64) (hx₀ : 0 ≤ x) (hx : x % 2 ^ i = 0) (hx₁ : x < 2 ^ 64) : bits .or .u64 y x = y + x :=
  bits_join_low .u64 64 (by decide) wraps_u64 i y x hy₀ hy hy1 hx₀ hx hx₁
theorem or_byte (F y k : Nat) (hk : k < 8) (hF : F < 256 ^ k) (hy : y < 256) : bits .or .u64 (F : Int) (IntKind.u64.wrap ((y : Int) * 2 ^ (8 * k))) = ((F + y * 256 ^ k : Nat) : Int) := by
  have hp : (2 : Int) ^ (8 * k) = ((256 ^ k : Nat) : Int) := by rw [Int.pow_mul]; simp
  have h7 : 256 ^ k ≤ 256 ^ 7 := Nat.pow_le_pow_right (by omega) (by omega)
  have hm : y * 256 ^ k ≤ 255 * 256 ^ k := Nat.mul_le_mul_right _ (by omega)
  have hx : (y : Int) * ((256 ^ k : Nat) : Int) = ((y * 256 ^ k : Nat) : Int) := by simp
  have hlt : y * 256 ^ k < 18446744073709551616 := by omega
  rw [hp, hx, wraps_u64 _ (by omega) (by omega)]
  rw [u64_or _ _ (8 * k) (by omega) (by rw [hp]; omega) (by omega) (by omega) (by rw [hp, ← hx]; exact Int.mul_emod_left _ _) (by omega)]
  omega
/-- What the first page of a table says. -/
def headR (M : CM) (b : Int) : Nat × Int := if ¬ (readR M b 0).2 = 0 then (0, (readR M b 0).2) else if ¬ bytA (readR M b 0).1 0 = 70 then (0, 4) else (headN (readR M b 0).1 8, 0)

set_option maxRecDepth 20000 in
set_option maxHeartbeats 2000000 in
theorem readHead_ok (cb : Nat) (b : Int) (d : List UInt8) (w : World) (hd : d.length = 64) (h70 : bytA d 0 = 70)
    (HR : Calls Try.prog 37 #[.pointer (some ⟨cb, 0, none⟩), .int .i64 b, .int .i64 0] w fun e w' => e = .returned (.tuple #[.string (txtL d), .nilIface]) ∧ w' = w) :
    Calls Try.prog 103 #[.pointer (some ⟨cb, 0, none⟩), .int .i64 b] w fun e w' => e = .returned (.tuple #[.int .u64 (headN d 8 : Int), .nilIface]) ∧ Ext w w' := by
  have HRR : Hid (Calls Try.prog 37 #[.pointer (some ⟨cb, 0, none⟩), .int .i64 b, .int .i64 0] w fun e w' => e = .returned (.tuple #[.string (txtL d), .nilIface]) ∧ w' = w) := HR
  have hsz : (txtL d).size = 64 := by rw [Lib.size_eq]; simp [txtL, hd]
  have HIX : Hid (∀ i : Nat, i < 64 → ∀ W : World, (Instr.index 9 (.string (txtL d)) (.int .i64 (i : Int))).run Try.prog W = .ok (.int .u8 (bytA d i : Int)) W) := fun i hi W => by
    have hi' : i < (txtL d).size := by omega
    have h1 : (txtL d)[i].toNat = bytA d i := by
      unfold bytA; rw [List.getD_eq_getElem?_getD, List.getElem?_eq_getElem (by omega)]; rfl
    rw [← h1]
    simp [go_sem, Try.underlying9, hi']
  have i0 := HIX.out 0 (by omega)
  rw [h70] at i0
  simp only [Int.cast_ofNat_Int] at i0
  clear HR
  generalize txtL d = T at *
  go_enter Try.func103, Try.ntmps103
  go_wp2_with (go_at_call 37; refine HRR.out.mono ?_; rintro e w1 ⟨rfl, hw1⟩; subst w1)
  go_loopw [8, 23] (fun f i wr => ∃ k : Nat, k ≤ 8 ∧ i = .int .i64 k ∧ f = .int .u64 (headN d k : Int) ∧ Ext w wr) (fun _ i _ => 8 - (intOf i).toNat)
  case atStart => exact ⟨0, by omega, rfl, rfl, Ext.refl _⟩
  case round =>
    obtain ⟨k, hk, rfl, rfl, hx⟩ := hrel
    by_cases hlt : k < 8
    · have ix := HIX.out (1 + k) (by omega)
      rw [show ((1 + k : Nat) : Int) = 1 + (k : Int) by omega] at ix
      have hb := bytA_lt d (1 + k)
      have hh := headN_lt d k
      have HN : Hid (headN d (k + 1) = headN d k + bytA d (1 + k) * 256 ^ k) := rfl
      generalize bytA d (1 + k) = y at *
      generalize headN d k = F at *
      clear i0
      go_wp2_with fail
      go_roundw
      case rel => exact ⟨k + 1, by omega, by go_num, by rw [or_byte F y k hlt hh hb, HN.out], hx⟩
      case measure => simp [intOf]; omega
    · have hk8 : k = 8 := by omega
      subst hk8
      go_wp2_with fail
      go_ret2
      exact ⟨rfl, hx⟩
set_option maxRecDepth 20000 in
set_option maxHeartbeats 1000000 in
theorem readHead_mark (cb : Nat) (b : Int) (d : List UInt8) (w : World) (hd : d.length = 64) (h70 : ¬ bytA d 0 = 70)
    (HR : Calls Try.prog 37 #[.pointer (some ⟨cb, 0, none⟩), .int .i64 b, .int .i64 0] w fun e w' => e = .returned (.tuple #[.string (txtL d), .nilIface]) ∧ w' = w) :
    Calls Try.prog 103 #[.pointer (some ⟨cb, 0, none⟩), .int .i64 b] w fun e w' => e = .returned (.tuple #[.int .u64 0, .iface 128 (.int .i64 4)]) ∧ Ext w w' := by
  have HRR : Hid (Calls Try.prog 37 #[.pointer (some ⟨cb, 0, none⟩), .int .i64 b, .int .i64 0] w fun e w' => e = .returned (.tuple #[.string (txtL d), .nilIface]) ∧ w' = w) := HR
  have hsz : 0 < (txtL d).size := by rw [Lib.size_eq]; simp [txtL, hd]
  have i0 : ∀ W : World, (Instr.index 9 (.string (txtL d)) (.int .i64 0)).run Try.prog W = .ok (.int .u8 (bytA d 0 : Int)) W := fun W => by
    have h1 : (txtL d)[0].toNat = bytA d 0 := by
      unfold bytA; rw [List.getD_eq_getElem?_getD, List.getElem?_eq_getElem (by omega)]; rfl
    rw [← h1]
    simp [go_sem, Try.underlying9, hsz]
  have h70' : ¬ (bytA d 0 : Int) = 70 := by omega
  clear HR
  generalize txtL d = T at *
  generalize (bytA d 0 : Int) = x at *
  go_enter Try.func103, Try.ntmps103
  go_wp2_with (go_at_call 37; refine HRR.out.mono ?_; rintro e w1 ⟨rfl, hw1⟩; subst w1)
  go_ret2
  exact ⟨rfl, Ext.refl _⟩
set_option maxHeartbeats 1000000 in
theorem readHead_err (cb : Nat) (b f : Int) (T : ByteArray) (w : World)
    (HR : Calls Try.prog 37 #[.pointer (some ⟨cb, 0, none⟩), .int .i64 b, .int .i64 0] w fun e w' => e = .returned (.tuple #[.string T, .iface 128 (.int .i64 f)]) ∧ w' = w) :
    Calls Try.prog 103 #[.pointer (some ⟨cb, 0, none⟩), .int .i64 b] w fun e w' => e = .returned (.tuple #[.int .u64 0, .iface 128 (.int .i64 f)]) ∧ Ext w w' := by
  have HRR : Hid (Calls Try.prog 37 #[.pointer (some ⟨cb, 0, none⟩), .int .i64 b, .int .i64 0] w fun e w' => e = .returned (.tuple #[.string T, .iface 128 (.int .i64 f)]) ∧ w' = w) := HR
  clear HR
  go_enter Try.func103, Try.ntmps103
  go_wp2_with (go_at_call 37; refine HRR.out.mono ?_; rintro e w1 ⟨rfl, hw1⟩; subst w1)
  go_ret2
  exact ⟨rfl, Ext.refl _⟩
theorem readHead_any (cb : Nat) (b : Int) (M : CM) (w : World) (h : ChipAt w cb M) :
    Calls Try.prog 103 #[.pointer (some ⟨cb, 0, none⟩), .int .i64 b] w fun e w' => e = .returned (.tuple #[.int .u64 ((headR M b).1 : Int), errV (headR M b).2]) ∧ Ext w w' := by
  have HR := read_any cb b 0 M w h
  by_cases hz : (readR M b 0).2 = 0
  · have hd : (readR M b 0).1.length = 64 := by
      unfold readR at hz ⊢
      split at hz
      · simp at hz
      · rename_i hdn
        rw [if_neg hdn]
        split at hz
        · rename_i hc
          rw [if_pos hc]
          split at hz
          · simp at hz
          · rename_i d hg
            obtain ⟨⟨cs, fv, _, h2, _⟩, _⟩ := h
            have := (h2.blk b.toNat (by omega)).d64 _ d hg
            simp only; exact this
          · simp at hz
        · simp at hz
    unfold errV at HR; rw [if_pos hz] at HR
    by_cases h70 : bytA (readR M b 0).1 0 = 70
    · have : headR M b = (headN (readR M b 0).1 8, 0) := by unfold headR; rw [if_neg (by simp [hz]), if_neg (by simp [h70])]
      rw [this]
      exact readHead_ok cb b _ w hd h70 HR
    · have : headR M b = (0, 4) := by unfold headR; rw [if_neg (by simp [hz]), if_pos h70]
      rw [this]
      exact readHead_mark cb b _ w hd h70 HR
  · have : headR M b = (0, (readR M b 0).2) := by unfold headR; rw [if_pos hz]
    rw [this]
    unfold errV at HR ⊢; rw [if_neg hz] at HR; simp only [if_neg hz]
    exact readHead_err cb b _ _ w HR
end Go.Proofs.Ytjeinblcpejpnaa
