/-
  DERIVED. GIVEN WITH THE SEED: THE CARDS: each row of YtkibgflbidkalaaDoorRows.lean that lists a variable, with what it lists TIED to the program's text (the seventh form; the later family's looks); each row that meets fmt, with fmt's text TOLD by the authors' own Lean function (tested against real Go, not proved from fmt's source: count such statements apart). THE CARD IS WHAT COUNTS. Prove the row's statement (the work); the ties are given (YtkibgflbidkalaaDoorTie.lean); close each card by the builder's one call (the guide's Derived/Test/ToyasCard.lean, 'card_holds'). Laid BY PROGRAM, IN A SANDBOX (cutbox-door.mjs). By AI agents, Wed Nov 11 2026. No macro, syntax, notation, axiom, sorry.
-/
import Derived.Test.YtkibgflbidkalaaDoorRows
import GoSem.ClaimSeven
namespace Go.Proofs.YtkibgflbidkalaaDoor
namespace Rows

/-- THE TIED CARD OF 'tidegatelaw.SurveySays'. -/
def surveySaysCard : Claim7 := { stood := { row := surveySaysRow, standIns := [], harness := (true, "27bc5c847e053ca0829003e7027e6ab6243c6f327981cb635b0ac3aabeba5efd"), looks := true }, kinds := [], alts := [], laidByText := true, laidKinds := [.data, .data], laidTests := true, laidLooks := .later }
def SurveySaysCardSaid : Prop := Claim7.holds Tryd.pinned (.plain (OpenSpec.ofChange surveySaysSpec)) surveySaysCard

/-- THE SECOND FORM's CARD OF 'tidegatelaw.SurveySays'. -/
def surveySaysUptoCard : Claim7 := { stood := { row := surveySaysUptoRow, standIns := [], harness := (true, "27bc5c847e053ca0829003e7027e6ab6243c6f327981cb635b0ac3aabeba5efd"), looks := true }, kinds := [], alts := [], laidByText := true, laidKinds := [.data, .data], laidTests := true, laidLooks := .later }
def SurveySaysUptoCardSaid : Prop := Claim7.holds Tryd.pinned (.plain (OpenSpec.upto surveySaysSpec)) surveySaysUptoCard
end Rows
end Go.Proofs.YtkibgflbidkalaaDoor
