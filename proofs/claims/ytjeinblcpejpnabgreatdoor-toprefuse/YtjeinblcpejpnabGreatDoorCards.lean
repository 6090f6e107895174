/-
  DERIVED. GIVEN WITH THE SEED: THE CARDS: each row of YtjeinblcpejpnabGreatDoorRows.lean that lists a variable, with what it lists TIED to the program's text (the seventh form; the later family's looks); each row that meets fmt, with fmt's text TOLD by the authors' own Lean function (tested against real Go, not proved from fmt's source: count such statements apart). THE CARD IS WHAT COUNTS. Prove the row's statement (the work); the ties are given (YtjeinblcpejpnabGreatDoorTie.lean); close each card by the builder's one call (the guide's Derived/Test/ToyasCard.lean, 'card_holds'). Laid BY PROGRAM, IN A SANDBOX (cutbox-door.mjs). By AI agents, Wed Nov 11 2026. No macro, syntax, notation, axiom, sorry.
-/
import Derived.Test.YtjeinblcpejpnabGreatDoorRows
import GoSem.ClaimSeven
namespace Go.Proofs.YtjeinblcpejpnabGreatDoor
namespace Rows

/-- THE TIED CARD OF 'tidegatelaw.StoreSays'. -/
def storeSaysCard : Claim7 := { stood := { row := storeSaysRow, standIns := [], harness := (true, "8a7456722ea1e73bf469351a5117bab8d6f25b7e14e2019f4839d09f791af7c9"), looks := true }, kinds := [], alts := [], laidByText := true, laidKinds := [.data, .data], laidTests := true, laidLooks := .later }
def StoreSaysCardSaid : Prop := Claim7.holds Tryz.pinned (.plain (OpenSpec.ofChange storeSaysSpec)) storeSaysCard

/-- THE TIED CARD OF 'tidegatetop.TopUnseen'. -/
def topUnseenCard : Claim7 := { stood := { row := topUnseenRow, standIns := [], harness := (true, "8a7456722ea1e73bf469351a5117bab8d6f25b7e14e2019f4839d09f791af7c9"), looks := true }, kinds := [], alts := [], laidByText := true, laidKinds := [.data, .data], laidTests := true, laidLooks := .later }
def TopUnseenCardSaid : Prop := Claim7.holds Tryz.pinned (.plain (OpenSpec.ofChange topUnseenSpec)) topUnseenCard

/-- THE TIED CARD OF 'tidegatetop.TopRefuse'. -/
def topRefuseCard : Claim7 := { stood := { row := topRefuseRow, standIns := [], harness := (true, "8a7456722ea1e73bf469351a5117bab8d6f25b7e14e2019f4839d09f791af7c9"), looks := true }, kinds := [], alts := [], laidByText := true, laidKinds := [.data, .data], laidTests := true, laidLooks := .later }
def TopRefuseCardSaid : Prop := Claim7.holds Tryz.pinned (.plain (OpenSpec.ofChange topRefuseSpec)) topRefuseCard

/-- THE TIED CARD OF 'tidegatetop.TopLaid'. -/
def topLaidCard : Claim7 := { stood := { row := topLaidRow, standIns := [], harness := (true, "8a7456722ea1e73bf469351a5117bab8d6f25b7e14e2019f4839d09f791af7c9"), looks := true }, kinds := [], alts := [], laidByText := true, laidKinds := [.data, .data], laidTests := true, laidLooks := .later }
def TopLaidCardSaid : Prop := Claim7.holds Tryz.pinned (.plain (OpenSpec.ofChange topLaidSpec)) topLaidCard

/-- THE TIED CARD OF 'tidegatetop.TopOpen'. -/
def topOpenCard : Claim7 := { stood := { row := topOpenRow, standIns := [], harness := (true, "8a7456722ea1e73bf469351a5117bab8d6f25b7e14e2019f4839d09f791af7c9"), looks := true }, kinds := [], alts := [], laidByText := true, laidKinds := [.data, .data], laidTests := true, laidLooks := .later }
def TopOpenCardSaid : Prop := Claim7.holds Tryz.pinned (.plain (OpenSpec.ofChange topOpenSpec)) topOpenCard

/-- THE SECOND FORM's CARD OF 'tidegatelaw.StoreSays'. -/
def storeSaysUptoCard : Claim7 := { stood := { row := storeSaysUptoRow, standIns := [], harness := (true, "8a7456722ea1e73bf469351a5117bab8d6f25b7e14e2019f4839d09f791af7c9"), looks := true }, kinds := [], alts := [], laidByText := true, laidKinds := [.data, .data], laidTests := true, laidLooks := .later }
def StoreSaysUptoCardSaid : Prop := Claim7.holds Tryz.pinned (.plain (OpenSpec.upto storeSaysSpec)) storeSaysUptoCard

/-- THE SECOND FORM's CARD OF 'tidegatetop.TopUnseen'. -/
def topUnseenUptoCard : Claim7 := { stood := { row := topUnseenUptoRow, standIns := [], harness := (true, "8a7456722ea1e73bf469351a5117bab8d6f25b7e14e2019f4839d09f791af7c9"), looks := true }, kinds := [], alts := [], laidByText := true, laidKinds := [.data, .data], laidTests := true, laidLooks := .later }
def TopUnseenUptoCardSaid : Prop := Claim7.holds Tryz.pinned (.plain (OpenSpec.upto topUnseenSpec)) topUnseenUptoCard

/-- THE SECOND FORM's CARD OF 'tidegatetop.TopRefuse'. -/
def topRefuseUptoCard : Claim7 := { stood := { row := topRefuseUptoRow, standIns := [], harness := (true, "8a7456722ea1e73bf469351a5117bab8d6f25b7e14e2019f4839d09f791af7c9"), looks := true }, kinds := [], alts := [], laidByText := true, laidKinds := [.data, .data], laidTests := true, laidLooks := .later }
def TopRefuseUptoCardSaid : Prop := Claim7.holds Tryz.pinned (.plain (OpenSpec.upto topRefuseSpec)) topRefuseUptoCard

/-- THE SECOND FORM's CARD OF 'tidegatetop.TopLaid'. -/
def topLaidUptoCard : Claim7 := { stood := { row := topLaidUptoRow, standIns := [], harness := (true, "8a7456722ea1e73bf469351a5117bab8d6f25b7e14e2019f4839d09f791af7c9"), looks := true }, kinds := [], alts := [], laidByText := true, laidKinds := [.data, .data], laidTests := true, laidLooks := .later }
def TopLaidUptoCardSaid : Prop := Claim7.holds Tryz.pinned (.plain (OpenSpec.upto topLaidSpec)) topLaidUptoCard

/-- THE SECOND FORM's CARD OF 'tidegatetop.TopOpen'. -/
def topOpenUptoCard : Claim7 := { stood := { row := topOpenUptoRow, standIns := [], harness := (true, "8a7456722ea1e73bf469351a5117bab8d6f25b7e14e2019f4839d09f791af7c9"), looks := true }, kinds := [], alts := [], laidByText := true, laidKinds := [.data, .data], laidTests := true, laidLooks := .later }
def TopOpenUptoCardSaid : Prop := Claim7.holds Tryz.pinned (.plain (OpenSpec.upto topOpenSpec)) topOpenUptoCard
end Rows
end Go.Proofs.YtjeinblcpejpnabGreatDoor
