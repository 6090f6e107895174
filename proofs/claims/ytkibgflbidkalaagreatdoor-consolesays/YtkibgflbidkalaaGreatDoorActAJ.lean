/- ActA. -/
import Derived.Test.YtkibgflbidkalaaGreatDoorEntLJ
import Derived.Test.YtkibgflbidkalaaGreatDoorWldJ

/- Acts in memory: LightActs. -/
namespace Go.Proofs.YtkibgflbidkalaaGreatDoor
open Go.RowKit

structure ActE where
  kind : ByteArray
  s : ByteArray
  a : Int
  b : Int
  es : List Ent
  ao : Option Addr
  cap : Nat
structure ActOk (w : World) (e : ActE) : Prop where
  ents : EntsAt w e.ao e.es
  len : e.es.length ≤ 9223372036854775807
  sz : e.s.size ≤ 9223372036854775807
  a0 : -9223372036854775808 ≤ e.a
  a1 : e.a ≤ 9223372036854775807
def ActsAt (w : World) (ao : Option Addr) (acs : List ActE) : Prop :=
  acs ≠ [] → ∃ b off, ao = some ⟨b, off, none⟩ ∧ ∀ i e, acs[i]? = some e →
    w.cell? ⟨b, off + i * 5, none⟩ = some (.string e.kind) ∧ w.cell? ⟨b, off + i * 5 + 1, none⟩ = some (.string e.s) ∧ w.cell? ⟨b, off + i * 5 + 2, none⟩ = some (.int .i64 e.a) ∧ w.cell? ⟨b, off + i * 5 + 3, none⟩ = some (.int .i64 e.b) ∧
      w.cell? ⟨b, off + i * 5 + 4, none⟩ = some (.slice e.ao e.es.length e.cap) ∧ ActOk w e
theorem EntsAt.ext2 {w w' : World} {ao : Option Addr} {es : List Ent} (h : EntsAt w ao es) (hx : Ext w w') : EntsAt w' ao es := by
  intro hne
  obtain ⟨b, off, rfl, hc⟩ := h hne
  exact ⟨b, off, rfl, fun i e he => ⟨hx.cell (hc i e he).1, hx.cell (hc i e he).2.1, hx.cell (hc i e he).2.2⟩⟩
theorem ActOk.ext {w w' : World} {e : ActE} (h : ActOk w e) (hx : Ext w w') : ActOk w' e := ⟨h.ents.ext2 hx, h.len, h.sz, h.a0, h.a1⟩
theorem ActsAt.ext {w w' : World} {ao : Option Addr} {acs : List ActE} (h : ActsAt w ao acs) (hx : Ext w w') : ActsAt w' ao acs := by
  intro hne
  obtain ⟨b, off, rfl, hc⟩ := h hne
  refine ⟨b, off, rfl, fun i e he => ?_⟩
  obtain ⟨c0, c1, c2, c3, c4, c5⟩ := hc i e he
  exact ⟨hx.cell c0, hx.cell c1, hx.cell c2, hx.cell c3, hx.cell c4, c5.ext hx⟩

end Go.Proofs.YtkibgflbidkalaaGreatDoor
