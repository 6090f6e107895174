
/- A new chip. -/
import Derived.Test.YtpldeejagomfjaaChpI
namespace Go.Proofs.Ytpldeejagomfjaa
open Go.RowKit

def zPage : List Value := .int .i64 0 :: List.replicate 64 (.int .u8 0)
def zBlock : List Value := (List.replicate 8 zPage).flatten ++ [.int .i64 0, .int .i64 0, .bool false, .bool false]
def zChip : List Value := (List.replicate 24 zBlock).flatten ++ [.int .i64 0, .nilFunc]
def Z89 : Array Value := zChip.toArray
def N89 : Array Value := Z89.setIfInBounds 12576 (.int .i64 (-1))
set_option maxRecDepth 1000000 in
theorem zero89 (w : World) : (zeroValue 138).run Try.prog w = .ok (.agg Z89) w := by kernel_rfl

theorem flat_len (n : Nat) (l : List Value) : (List.replicate n l).flatten.length = n * l.length := by simp
theorem flat_get (l : List Value) : ∀ (n b r : Nat), b < n → r < l.length → (List.replicate n l).flatten[b * l.length + r]? = l[r]?
  | 0, b, r, h, _ => absurd h (Nat.not_lt_zero _)
  | n + 1, 0, r, _, hr => by
    rw [List.replicate_succ, List.flatten_cons, Nat.zero_mul, Nat.zero_add, List.getElem?_append_left hr]
  | n + 1, b + 1, r, h, hr => by
    rw [List.replicate_succ, List.flatten_cons, List.getElem?_append_right (by rw [Nat.succ_mul]; omega), show (b + 1) * l.length + r - l.length = b * l.length + r by rw [Nat.succ_mul]; omega]
    exact flat_get l n b r (by omega) hr
theorem zPage_len : zPage.length = 65 := by simp [zPage]
theorem zBlock_len : zBlock.length = 524 := by
  unfold zBlock; rw [List.length_append, flat_len, zPage_len]; rfl
theorem zChip_len : zChip.length = 12578 := by
  unfold zChip; rw [List.length_append, flat_len, zBlock_len]; rfl
theorem zChip_get (b r : Nat) (hb : b < 24) (hr : r < 524) : zChip[b * 524 + r]? = zBlock[r]? := by
  unfold zChip
  rw [List.getElem?_append_left (by rw [flat_len, zBlock_len]; omega)]
  have := flat_get zBlock 24 b r hb (by rw [zBlock_len]; exact hr)
  rwa [zBlock_len] at this
theorem zBlock_page (p j : Nat) (hp : p < 8) (hj : j < 65) : zBlock[p * 65 + j]? = zPage[j]? := by
  unfold zBlock
  rw [List.getElem?_append_left (by rw [flat_len, zPage_len]; omega)]
  have := flat_get zPage 8 p j hp (by rw [zPage_len]; exact hj)
  rwa [zPage_len] at this
theorem zBlock_tail (j : Nat) : zBlock[520 + j]? = [Value.int .i64 0, .int .i64 0, .bool false, .bool false][j]? := by
  unfold zBlock
  rw [List.getElem?_append_right (by rw [flat_len, zPage_len]; omega), flat_len, zPage_len, show 520 + j - 8 * 65 = j by omega]
theorem zChip_tail (j : Nat) : zChip[12576 + j]? = [Value.int .i64 0, .nilFunc][j]? := by
  unfold zChip
  rw [List.getElem?_append_right (by rw [flat_len, zBlock_len]; omega), flat_len, zBlock_len, show 12576 + j - 24 * 524 = j by omega]

def newM : CM := { pg := fun _ => [], wr := fun _ => 0, wk := fun _ => false, bd := fun _ => false, left := -1, pend := none }
theorem N89_get (i : Nat) (h : ¬ i = 12576) : N89[i]? = zChip[i]? := by
  unfold N89 Z89
  rw [Array.getElem?_setIfInBounds_ne (by omega)]; simp
theorem N89_size : N89.size = 12578 := by unfold N89 Z89; rw [Array.size_setIfInBounds, List.size_toArray, zChip_len]
set_option maxRecDepth 10000 in
theorem newRep : Rep N89 newM .nilFunc := by
  refine ⟨N89_size, fun b hb => ?_, ?_, ?_⟩
  · refine ⟨fun p hp => ?_, fun p d _ hd => ?_, ?_, ?_, ?_, ?_, by simp [newM], fun p d hd => ?_⟩
    · rw [N89_get _ (by omega), zChip_get b (p * 65) hb (by omega)]
      have := zBlock_page p 0 hp (by omega)
      rw [Nat.add_zero] at this
      rw [this]; rfl
    · simp [newM] at hd
    · rw [N89_get _ (by omega), zChip_get b 520 hb (by omega)]; exact zBlock_tail 0
    · rw [N89_get _ (by omega), zChip_get b 521 hb (by omega)]; exact zBlock_tail 1
    · rw [N89_get _ (by omega), zChip_get b 522 hb (by omega)]; exact zBlock_tail 2
    · rw [N89_get _ (by omega), zChip_get b 523 hb (by omega)]; exact zBlock_tail 3
    · simp [newM] at hd
  · have hz : Z89.size = 12578 := by unfold Z89; rw [List.size_toArray, zChip_len]
    unfold N89
    rw [Array.getElem?_setIfInBounds_self_of_lt (by omega)]; rfl
  · rw [N89_get _ (by omega)]; exact zChip_tail 1

theorem Z89_ne : (Z89 = #[]) = False := by
  simp only [eq_iff_iff, iff_false]
  intro h
  have : Z89.size = 12578 := by unfold Z89; rw [List.size_toArray, zChip_len]
  rw [h] at this; simp at this
theorem Z89_set : Z89.setIfInBounds 12576 (.int .i64 (-1)) = N89 := rfl

set_option maxRecDepth 100000 in
set_option maxHeartbeats 1000000 in
theorem new_any (w : World) : Calls Try.prog 29 #[] w fun e w' => e = .returned (.pointer (some ⟨w.heap.size, 0, none⟩)) ∧ ChipAt w' w.heap.size newM ∧ Ext w w' ∧ w'.heap.size = w.heap.size + 1 := by
  have z0 := zero89
  have z1 := Z89_ne
  have z2 := Z89_set
  go_enter Try.func29, Try.ntmps29
  go_wp2
  go_ret
  refine ⟨rfl, ⟨⟨N89, .nilFunc, Blk.new _ _ _, newRep, rfl⟩, fun b d e => by cases e⟩, (Ext.refl _).alloc _, by simp⟩

end Go.Proofs.Ytpldeejagomfjaa
