
/- The walk of TopTorn: all ways. -/
import Derived.Test.YtpldeejagomfjaaTornB
import Derived.Test.YtpldeejagomfjaaTornC
namespace Go.Proofs.Ytpldeejagomfjaa
open Go.RowKit

theorem topTorn_any (ao : Option Addr) (cap : Nat) (acs : List ActE) (e : ActE) (how : Int) (w : World) (hl : acs.length ≤ 9223372036854775807) (has : ActsAt w ao acs) (hok : ActOk w e) :
    Calls Try.prog 7 #[.slice ao acs.length cap, .agg (actV e), .int .i64 how] w fun r w' => r = .returned (.bool true) ∧ Ext w w' := by
  cases hli : lightActs acs 80 with
  | false => exact topTorn_dark ao cap acs e how w hl has hli
  | true =>
    cases hl1 : lightActs [e] 1 with
    | false => exact topTorn_dark2 ao cap acs e how w hl has hok hli (.inl hl1)
    | true =>
      by_cases hA : 0 ≤ e.a ∧ e.a < 24
      · obtain ⟨kind, s, a, b, es, eo, ec⟩ := e
        dsimp only at hA
        obtain ⟨A, rfl⟩ : ∃ A : Nat, a = (A : Int) := ⟨a.toNat, by omega⟩
        cases her : (kind.toList == [101, 114, 97, 115, 101]) with
        | true => exact topTorn_erase ao cap acs kind s A b es eo ec how w (lightActs_len hli) has hok hli hl1 (by omega) her
        | false => exact topTorn_write ao cap acs kind s A b es eo ec how w (lightActs_len hli) has hok hli hl1 (by omega) her
      · exact topTorn_dark2 ao cap acs e how w hl has hok hli (.inr ⟨hl1, by omega⟩)
#print axioms topTorn_any
end Go.Proofs.Ytpldeejagomfjaa
