/- ActA. -/
import Derived.Test.YthndopokabceiaaGreatDoorEntLJ
import Derived.Test.YthndopokabceiaaGreatDoorWldJ

/- Acts in memory: LightActs. -/
namespace Go.Proofs.YthndopokabceiaaGreatDoor
open Go.RowKit

theorem EntsAt.ext2 {w w' : World} {ao : Option Addr} {es : List Ent} (h : EntsAt w ao es) (hx : Ext w w') : EntsAt w' ao es := by
  intro hne
  obtain ⟨b, off, rfl, hc⟩ := h hne
  exact ⟨b, off, rfl, fun i e he => ⟨hx.cell (hc i e he).1, hx.cell (hc i e he).2.1, hx.cell (hc i e he).2.2⟩⟩
end Go.Proofs.YthndopokabceiaaGreatDoor
