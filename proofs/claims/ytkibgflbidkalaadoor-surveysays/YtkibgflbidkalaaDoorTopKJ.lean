/- TopK. -/
import Derived.Test.YtkibgflbidkalaaDoorLawAJ
import Derived.Test.YtkibgflbidkalaaDoorLstGJ

/- TopAsked. -/
namespace Go.Proofs.YtkibgflbidkalaaDoor
open Go.RowKit Go.WideShapes

/-- What the rows of a store are. -/
theorem Up.plain {n : Nat} {w : World} {S : List Nat} {sb cb : Nat} {m : Man} {k : Nat} {R : List Ent} (h : Up n w S sb cb m k R) : Ris R ∧ (∀ e ∈ R, e.gone = false) ∧ ∀ e ∈ R, faultE e = 0 := by
  obtain ⟨M, a, x, N, O, h1, h2, h3, _⟩ := h.ex
  subst h3
  refine ⟨rowsE_ris _ _ _, fun e he => ?_, fun e he => ?_⟩
  · have := (List.mem_filter.1 (show e ∈ List.filter _ _ from he)).2
    simpa using this
  · obtain ⟨l, hl, hel⟩ := all_mem _ e (List.mem_filter.1 (show e ∈ List.filter _ _ from he)).1
    rcases List.mem_cons.1 hl with rfl | hl
    · obtain ⟨g, _, hL⟩ := h2.lg
      exact hL.ris.2.1 e hel
    rcases List.mem_append.1 hl with hl | hl
    · obtain ⟨x, hx, rfl⟩ := List.mem_map.1 hl
      exact tabF_fault (h2.tn x hx).ok e hel
    · obtain ⟨x, hx, rfl⟩ := List.mem_map.1 hl
      exact tabF_fault (h2.told x hx).ok e hel
/-- What is asked for is there. -/
theorem getR_mem {R : List Ent} (hr : Ris R) {e : Ent} (he : e ∈ R) (hg : e.gone = false) : getR (getE R e.key) = .tuple #[.string e.val, .bool true, .nilIface] := by
  rw [getE_of_mem hr he]
  simp [getR, liveO, hg]
theorem getE_live' {R : List Ent} (hl : ∀ e ∈ R, e.gone = false) (key : ByteArray) : liveO (getE R key) = getE R key := by
  cases h : getE R key with
  | none => rfl
  | some e => simp [liveO, hl e (getE_mem h).1]
end Go.Proofs.YtkibgflbidkalaaDoor
