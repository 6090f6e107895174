
/- What Live answers. -/
import Derived.Test.YtpldeejagomfjaaLstG
import Derived.Test.YtpldeejagomfjaaEntApp
namespace Go.Proofs.Ytpldeejagomfjaa
open Go.RowKit

theorem live_step {es : List Ent} {k : Nat} {e : Ent} (he : es[k]? = some e) : liveE (es.take (k + 1)) = if e.gone then liveE (es.take k) else liveE (es.take k) ++ [e] := by
  rw [take_snocE he]; unfold liveE; rw [List.filter_append]
  cases h : e.gone <;> simp [h]
theorem live_len (es : List Ent) (k : Nat) : (liveE (es.take k)).length ≤ es.length := by
  unfold liveE
  refine Nat.le_trans (List.length_filter_le _ _) ?_
  simp; omega

set_option maxRecDepth 20000 in
set_option maxHeartbeats 2000000 in
theorem live_any (ao : Option Addr) (cap : Nat) (es : List Ent) (w : World) (hl : es.length ≤ 1000) (hes : EntsAt w ao es) :
    Calls Try.prog 66 #[.slice ao es.length cap] w fun e w' => ∃ v, e = .returned v ∧ Lst w w' v (liveE es) := by
  go_enter Try.func66, Try.ntmps66
  go_wp2
  go_loopw [3, 5, 8] (fun v _ i wr => ∃ (k : Nat), k ≤ es.length ∧ i = .int .i64 k ∧ Lst w wr v (liveE (es.take k))) (fun _ _ i _ => es.length - (intOf i).toNat)
  case atStart => exact ⟨0, Nat.zero_le _, rfl, Lst.nil (Ext.refl _)⟩
  case round =>
    obtain ⟨k, hk, rfl, hL⟩ := hrel
    by_cases hlt : k < es.length
    · obtain ⟨b, off, ek, ev, eg, rfl, he, h1, h2, h3⟩ := hes.get hlt
      have HS : Hid (liveE (es.take (k + 1)) = if eg then liveE (es.take k) else liveE (es.take k) ++ [⟨ek, ev, eg⟩]) := live_step he
      have hll := live_len es k
      have g1 := hL.ext.cell h1
      have g2 := hL.ext.cell h2
      have g3 := hL.ext.cell h3
      clear h1 h2 h3 he hes
      generalize liveE (es.take k) = done at *
      cases eg with
      | true =>
        go_wp2
        go_roundw
        case rel => exact ⟨k + 1, by omega, by go_num, by rw [HS.out]; exact hL.alloc _⟩
        case measure => simp [intOf]; omega
      | false =>
        go_wp2_with (at_builtin; refine wpList_app_ent rfl _ _ rfl w _ done rfl ?c1 _ ek ev false rfl ?c2 ?c3 ?_)
        case c1 => exact (hL.alloc _).alloc _
        case c2 => exact Blk.new' _ _ _ (by simp)
        case c3 => omega
        intro v2 w2 hL2
        clear hL g1 g2 g3
        go_wp2
        go_roundw
        case rel => exact ⟨k + 1, by omega, by go_num, by rw [HS.out]; exact hL2⟩
        case measure => simp [intOf]; omega
    · have HE : Hid (liveE es = liveE (es.take k)) := by unfold Hid; rw [List.take_of_length_le (by omega)]
      clear hes
      go_wp2
      go_ret
      exact ⟨_, rfl, by rw [HE.out]; exact hL⟩
end Go.Proofs.Ytpldeejagomfjaa
