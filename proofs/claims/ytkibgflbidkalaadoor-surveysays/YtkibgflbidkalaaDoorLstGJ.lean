/- LstG. -/
import Derived.Test.YtkibgflbidkalaaDoorLstMJ
import Derived.Deep.RegionHeld3

/- What rising, Get, Put and Live answer. -/
namespace Go.Proofs.YtkibgflbidkalaaDoor
open Go.RowKit

/-- An entry as a value, or a blank one. -/
def noEnt : Ent := ⟨⟨#[]⟩, ⟨#[]⟩, false⟩
def gotV (o : Option Ent) : Value := .tuple #[entV (o.getD noEnt), .bool o.isSome]

theorem getE_step {es : List Ent} {k : Nat} {e : Ent} {key : ByteArray} (he : es[k]? = some e) (h : getE (es.take k) key = none) : getE (es.take (k + 1)) key = if e.key = key then some e else none := by
  rw [take_snocE he]
  unfold getE at *
  rw [List.find?_append, h, List.find?_cons]
  by_cases hk : e.key = key <;> simp [hk]
theorem getE_stop {es : List Ent} {k : Nat} {e : Ent} {key : ByteArray} (he : es[k]? = some e) (h : getE (es.take k) key = none) (hk : e.key = key) : getE es key = some e := by
  have h1 := getE_step he h
  rw [if_pos hk] at h1
  have h2 : es = es.take (k + 1) ++ es.drop (k + 1) := (List.take_append_drop _ _).symm
  rw [h2]
  unfold getE at *
  rw [List.find?_append, h1]; rfl

end Go.Proofs.YtkibgflbidkalaaDoor
