
/- The walk of TopOnce: all ways. -/
import Derived.Test.YtpldeejagomfjaaOnceB
namespace Go.Proofs.Ytpldeejagomfjaa
open Go.RowKit

theorem lightActs_len {acs : List ActE} {k : Nat} (h : lightActs acs k = true) : acs.length ≤ k := by
  unfold lightActs at h
  simp at h
  exact h.1

theorem topOnce_any (ao : Option Addr) (cap : Nat) (acs : List ActE) (e : ActE) (w : World) (hl : acs.length ≤ 9223372036854775807) (has : ActsAt w ao acs) (hok : ActOk w e) :
    Calls Try.prog 6 #[.slice ao acs.length cap, .agg (actV e)] w fun r w' => r = .returned (.bool true) ∧ Ext w w' := by
  cases hli : lightActs acs 80 with
  | false => exact topOnce_dark ao cap acs e w hl has hli
  | true =>
    cases hl1 : lightActs [e] 1 with
    | false => exact topOnce_dark2 ao cap acs e w hl has hok hli (.inl hl1)
    | true =>
      by_cases hA : 0 ≤ e.a ∧ e.a < 24
      · obtain ⟨kind, s, a, b, es, eo, ec⟩ := e
        dsimp only at hA
        obtain ⟨A, rfl⟩ : ∃ A : Nat, a = (A : Int) := ⟨a.toNat, by omega⟩
        exact topOnce_main ao cap acs kind s A b es eo ec _ w (lightActs_len hli) has hok hli hl1 (by omega) rfl
      · exact topOnce_dark2 ao cap acs e w hl has hok hli (.inr ⟨hl1, by omega⟩)
#print axioms topOnce_any
end Go.Proofs.Ytpldeejagomfjaa
