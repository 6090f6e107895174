
/- Lists in blocks of their own; closed facts. -/
import Derived.Test.YtpldeejagomfjaaMrgB
namespace Go.Proofs.Ytpldeejagomfjaa
open Go.RowKit

theorem ents_blk {w : World} {b : Nat} {cs : Array Value} {t : TypeId} (es : List Ent) (h : Blk w b cs t) (hc : cs = (rowOf es).toArray) : EntsAt w (some ⟨b, 0, none⟩) es := by
  intro _
  refine ⟨b, 0, rfl, fun i e he => ?_⟩
  obtain ⟨h1, h2, h3⟩ := rowOf_get es i e he
  subst hc
  refine ⟨?_, ?_, ?_⟩
  · rw [h.cell, Nat.zero_add]; simpa using h1
  · rw [h.cell, Nat.zero_add]; simpa using h2
  · rw [h.cell, Nat.zero_add]; simpa using h3
theorem lt_data (a b : ByteArray) : Lt a b ↔ Op.bytesLess a.data.toList b.data.toList = true := by
  unfold Lt; rw [Lib.toList_data, Lib.toList_data]
/-- Entries of the closed facts. -/
def eA : Ent := ⟨⟨#[97]⟩, ⟨#[]⟩, false⟩
def eAx : Ent := ⟨⟨#[97]⟩, ⟨#[120]⟩, false⟩
def eB : Ent := ⟨⟨#[98]⟩, ⟨#[]⟩, false⟩
theorem two_ab : twoE [eA] [eAx, eB] = [eA, eB] := by
  rw [twoE, if_neg (by rw [lt_data]; decide)]
  have : [eAx, eB].dropWhile (fun e => decide (e.key = eA.key)) = [eB] := by
    rw [List.dropWhile_cons, if_pos (by simp [eA, eAx]), List.dropWhile_cons, if_neg (by simp [eA, eB])]
  rw [this, nil_two]
end Go.Proofs.Ytpldeejagomfjaa
