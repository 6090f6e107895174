
/- Manifests: numbers, Parse. -/
import Derived.Test.YtpldeejagomfjaaManC
import Derived.Deep.RegionHeld3
namespace Go.Proofs.Ytpldeejagomfjaa
open Go.RowKit Go.WideShapes

def numsOf (l : List UInt8) : List Int := l.map fun b => (b.toNat : Int)
theorem byte_take (s : ByteArray) (k : Nat) (h : k < s.size) : s.data.toList.take (k + 1) = s.data.toList.take k ++ [s[k]] := by
  rw [List.take_add_one, List.getElem?_eq_getElem (by simpa using h)]; rfl

set_option maxRecDepth 20000 in
set_option maxHeartbeats 2000000 in
theorem numbers_any (s : ByteArray) (w : World) (hs : s.size ≤ 10000) :
    Calls Try.prog 100 #[.string s] w fun e w' => ∃ v, e = .returned v ∧ IL w w' v (numsOf s.data.toList) := by
  go_enter Try.func100, Try.ntmps100
  go_wp2
  go_loopw [3, 4, 7] (fun v _ i wr => ∃ k : Nat, k ≤ s.size ∧ i = .int .i64 k ∧ IL w wr v (numsOf (s.data.toList.take k))) (fun _ _ i _ => s.size - (intOf i).toNat)
  case atStart => exact ⟨0, Nat.zero_le _, rfl, IL.nil (Ext.refl _)⟩
  case round =>
    obtain ⟨k, hk, rfl, hI⟩ := hrel
    by_cases hlt : k < s.size
    · have HS : Hid (numsOf (s.data.toList.take (k + 1)) = numsOf (s.data.toList.take k) ++ [(s[k].toNat : Int)]) := by rw [Hid, byte_take s k hlt]; simp [numsOf]
      have hll : (numsOf (s.data.toList.take k)).length ≤ 10000 := by simp [numsOf]; omega
      have hb : s[k].toNat < 256 := s[k].toNat_lt
      have ix : ∀ W : World, (Instr.index 9 (.string s) (.int .i64 (k : Int))).run Try.prog W = .ok (.int .u8 (s[k].toNat : Int)) W := fun W => by
        simp [go_sem, Try.underlying9, hlt]
      generalize s[k].toNat = y at *
      generalize numsOf (s.data.toList.take k) = z at *
      go_wp2_with (at_builtin; refine wpList_app_nums rfl _ _ rfl w _ z rfl ?c1 (some ⟨wr.heap.size, 0, none⟩) 1 [(y : Int)] rfl ?c2 ?c3 ?_)
      case c1 => exact hI.alloc _
      case c2 => exact nums_blk (Blk.new _ _ _)
      case c3 => simp; omega
      intro v2 w2 hI2
      clear hI
      go_wp2
      go_roundw
      case rel => exact ⟨k + 1, by omega, by go_num, by rw [HS.out]; exact hI2⟩
      case measure => simp [intOf]; omega
    · have HE : Hid (numsOf s.data.toList = numsOf (s.data.toList.take k)) := by unfold Hid; rw [List.take_of_length_le (by simp; omega)]
      go_wp2
      go_ret
      exact ⟨_, rfl, by rw [HE.out]; exact hI⟩
theorem numbers_ret (s : ByteArray) (w : World) (hs : s.size ≤ 10000) :
    Calls Try.prog 100 #[.string s] w fun e w' => ∃ ao cap, e = .returned (.slice ao (numsOf s.data.toList).length cap) ∧ NumsAt w' ao (numsOf s.data.toList) ∧ Ext w w' := by
  refine (numbers_any s w hs).mono ?_
  rintro e w' ⟨v, rfl, hI⟩
  obtain ⟨ao, cap, hv, ha⟩ := hI.at
  exact ⟨ao, cap, by rw [hv], ha, hI.ext⟩
end Go.Proofs.Ytpldeejagomfjaa
