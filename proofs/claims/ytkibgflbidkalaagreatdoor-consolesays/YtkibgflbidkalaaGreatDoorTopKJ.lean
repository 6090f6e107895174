/- TopK. -/
import Derived.Test.YtkibgflbidkalaaGreatDoorLawAJ
import Derived.Test.YtkibgflbidkalaaGreatDoorLstGJ

/- TopAsked. -/
namespace Go.Proofs.YtkibgflbidkalaaGreatDoor
open Go.RowKit Go.WideShapes

theorem Up.plain {n : Nat} {w : World} {S : List Nat} {sb cb : Nat} {m : Man} {k : Nat} {R : List Ent} (h : Up n w S sb cb m k R) : Ris R ∧ (∀ e ∈ R, e.gone = false) ∧ ∀ e ∈ R, faultE e = 0 := by
  obtain ⟨M, a, x, N, O, h1, h2, h3, _⟩ := h.ex
  subst h3
  refine ⟨rowsE_ris _ _ _, fun e he => ?_, fun e he => ?_⟩
  · have := (List.mem_filter.1 (show e ∈ List.filter _ _ from he)).2
    simpa using this
  · obtain ⟨l, hl, hel⟩ := all_mem _ e (List.mem_filter.1 (show e ∈ List.filter _ _ from he)).1
    rcases List.mem_cons.1 hl with rfl | hl
    · obtain ⟨g, _, hL⟩ := h2.lg
      exact hL.ris.2.1 e hel
    rcases List.mem_append.1 hl with hl | hl
    · obtain ⟨x, hx, rfl⟩ := List.mem_map.1 hl
      exact tabF_fault (h2.tn x hx).ok e hel
    · obtain ⟨x, hx, rfl⟩ := List.mem_map.1 hl
      exact tabF_fault (h2.told x hx).ok e hel
end Go.Proofs.YtkibgflbidkalaaGreatDoor
