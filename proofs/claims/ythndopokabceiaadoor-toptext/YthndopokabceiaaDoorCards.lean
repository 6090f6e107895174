/-
  DERIVED. GIVEN WITH THE SEED: THE CARDS: each row of YthndopokabceiaaDoorRows.lean that lists a variable, with what it lists TIED to the program's text (the seventh form; the later family's looks); each row that meets fmt, with fmt's text TOLD by the authors' own Lean function (tested against real Go, not proved from fmt's source: count such statements apart). THE CARD IS WHAT COUNTS. Prove the row's statement (the work); the ties are given (YthndopokabceiaaDoorTie.lean); close each card by the builder's one call (the guide's Derived/Test/ToyasCard.lean, 'card_holds'). Laid BY PROGRAM, IN A SANDBOX (cutbox-door.mjs). By AI agents, Wed Nov 11 2026. No macro, syntax, notation, axiom, sorry.
-/
import Derived.Test.YthndopokabceiaaDoorRows
import GoSem.ClaimSeven
namespace Go.Proofs.YthndopokabceiaaDoor
namespace Rows

/-- THE TIED CARD OF 'tidegatetop.TopLast'. -/
def topLastCard : Claim7 := { stood := { row := topLastRow, standIns := [], harness := (true, "d4182a365f00357ec684a725565f610f7813ac9eba3cb6c5c48b056b4f93c143"), looks := true }, kinds := [], alts := [], laidByText := true, laidKinds := [.data, .data], laidTests := true, laidLooks := .later }
def TopLastCardSaid : Prop := Claim7.holds Tryd.pinned (.plain (OpenSpec.ofChange topLastSpec)) topLastCard

/-- THE TIED CARD OF 'tidegatetop.TopOthers'. -/
def topOthersCard : Claim7 := { stood := { row := topOthersRow, standIns := [], harness := (true, "d4182a365f00357ec684a725565f610f7813ac9eba3cb6c5c48b056b4f93c143"), looks := true }, kinds := [], alts := [], laidByText := true, laidKinds := [.data, .data], laidTests := true, laidLooks := .later }
def TopOthersCardSaid : Prop := Claim7.holds Tryd.pinned (.plain (OpenSpec.ofChange topOthersSpec)) topOthersCard

/-- THE TIED CARD OF 'tidegatetop.TopFew'. -/
def topFewCard : Claim7 := { stood := { row := topFewRow, standIns := [], harness := (true, "d4182a365f00357ec684a725565f610f7813ac9eba3cb6c5c48b056b4f93c143"), looks := true }, kinds := [], alts := [], laidByText := true, laidKinds := [.data, .data], laidTests := true, laidLooks := .later }
def TopFewCardSaid : Prop := Claim7.holds Tryd.pinned (.plain (OpenSpec.ofChange topFewSpec)) topFewCard

/-- THE TIED CARD OF 'tidegatetop.TopOld'. -/
def topOldCard : Claim7 := { stood := { row := topOldRow, standIns := [], harness := (true, "d4182a365f00357ec684a725565f610f7813ac9eba3cb6c5c48b056b4f93c143"), looks := true }, kinds := [], alts := [], laidByText := true, laidKinds := [.data, .data], laidTests := true, laidLooks := .later }
def TopOldCardSaid : Prop := Claim7.holds Tryd.pinned (.plain (OpenSpec.ofChange topOldSpec)) topOldCard

/-- THE TIED CARD OF 'tidegatetop.TopFull'. -/
def topFullCard : Claim7 := { stood := { row := topFullRow, standIns := [], harness := (true, "d4182a365f00357ec684a725565f610f7813ac9eba3cb6c5c48b056b4f93c143"), looks := true }, kinds := [], alts := [], laidByText := true, laidKinds := [.data, .data], laidTests := true, laidLooks := .later }
def TopFullCardSaid : Prop := Claim7.holds Tryd.pinned (.plain (OpenSpec.ofChange topFullSpec)) topFullCard

/-- THE TIED CARD OF 'tidegatetop.TopBad'. -/
def topBadCard : Claim7 := { stood := { row := topBadRow, standIns := [], harness := (true, "d4182a365f00357ec684a725565f610f7813ac9eba3cb6c5c48b056b4f93c143"), looks := true }, kinds := [], alts := [], laidByText := true, laidKinds := [.data, .data], laidTests := true, laidLooks := .later }
def TopBadCardSaid : Prop := Claim7.holds Tryd.pinned (.plain (OpenSpec.ofChange topBadSpec)) topBadCard

/-- THE TIED CARD OF 'tidegatelaw.BatchSays'. -/
def batchSaysCard : Claim7 := { stood := { row := batchSaysRow, standIns := [], harness := (true, "d4182a365f00357ec684a725565f610f7813ac9eba3cb6c5c48b056b4f93c143"), looks := true }, kinds := [], alts := [], laidByText := true, laidKinds := [.data, .pinned], laidTests := true, laidLooks := .later }
def BatchSaysCardSaid : Prop := Claim7.holds Tryd.pinned (.plain (OpenSpec.ofChange batchSaysSpec)) batchSaysCard

/-- THE TIED CARD OF 'tidegatelaw.SurveySays'. -/
def surveySaysCard : Claim7 := { stood := { row := surveySaysRow, standIns := [], harness := (true, "d4182a365f00357ec684a725565f610f7813ac9eba3cb6c5c48b056b4f93c143"), looks := true }, kinds := [], alts := [], laidByText := true, laidKinds := [.data, .data], laidTests := true, laidLooks := .later }
def SurveySaysCardSaid : Prop := Claim7.holds Tryd.pinned (.plain (OpenSpec.ofChange surveySaysSpec)) surveySaysCard

/-- THE TIED CARD OF 'tidegatetop.TopText'. -/
def topTextCard : Claim7 := { stood := { row := topTextRow, standIns := [], harness := (true, "d4182a365f00357ec684a725565f610f7813ac9eba3cb6c5c48b056b4f93c143"), looks := true }, kinds := [], alts := [], laidByText := true, laidKinds := [.data, .pinned], laidTests := true, laidLooks := .later }
def TopTextCardSaid : Prop := Claim7.holds Tryd.pinned (.plain (OpenSpec.ofChange topTextSpec)) topTextCard

/-- THE SECOND FORM's CARD OF 'tidegatetop.TopLast'. -/
def topLastUptoCard : Claim7 := { stood := { row := topLastUptoRow, standIns := [], harness := (true, "d4182a365f00357ec684a725565f610f7813ac9eba3cb6c5c48b056b4f93c143"), looks := true }, kinds := [], alts := [], laidByText := true, laidKinds := [.data, .data], laidTests := true, laidLooks := .later }
def TopLastUptoCardSaid : Prop := Claim7.holds Tryd.pinned (.plain (OpenSpec.upto topLastSpec)) topLastUptoCard

/-- THE SECOND FORM's CARD OF 'tidegatetop.TopOthers'. -/
def topOthersUptoCard : Claim7 := { stood := { row := topOthersUptoRow, standIns := [], harness := (true, "d4182a365f00357ec684a725565f610f7813ac9eba3cb6c5c48b056b4f93c143"), looks := true }, kinds := [], alts := [], laidByText := true, laidKinds := [.data, .data], laidTests := true, laidLooks := .later }
def TopOthersUptoCardSaid : Prop := Claim7.holds Tryd.pinned (.plain (OpenSpec.upto topOthersSpec)) topOthersUptoCard

/-- THE SECOND FORM's CARD OF 'tidegatetop.TopFew'. -/
def topFewUptoCard : Claim7 := { stood := { row := topFewUptoRow, standIns := [], harness := (true, "d4182a365f00357ec684a725565f610f7813ac9eba3cb6c5c48b056b4f93c143"), looks := true }, kinds := [], alts := [], laidByText := true, laidKinds := [.data, .data], laidTests := true, laidLooks := .later }
def TopFewUptoCardSaid : Prop := Claim7.holds Tryd.pinned (.plain (OpenSpec.upto topFewSpec)) topFewUptoCard

/-- THE SECOND FORM's CARD OF 'tidegatetop.TopOld'. -/
def topOldUptoCard : Claim7 := { stood := { row := topOldUptoRow, standIns := [], harness := (true, "d4182a365f00357ec684a725565f610f7813ac9eba3cb6c5c48b056b4f93c143"), looks := true }, kinds := [], alts := [], laidByText := true, laidKinds := [.data, .data], laidTests := true, laidLooks := .later }
def TopOldUptoCardSaid : Prop := Claim7.holds Tryd.pinned (.plain (OpenSpec.upto topOldSpec)) topOldUptoCard

/-- THE SECOND FORM's CARD OF 'tidegatetop.TopFull'. -/
def topFullUptoCard : Claim7 := { stood := { row := topFullUptoRow, standIns := [], harness := (true, "d4182a365f00357ec684a725565f610f7813ac9eba3cb6c5c48b056b4f93c143"), looks := true }, kinds := [], alts := [], laidByText := true, laidKinds := [.data, .data], laidTests := true, laidLooks := .later }
def TopFullUptoCardSaid : Prop := Claim7.holds Tryd.pinned (.plain (OpenSpec.upto topFullSpec)) topFullUptoCard

/-- THE SECOND FORM's CARD OF 'tidegatetop.TopBad'. -/
def topBadUptoCard : Claim7 := { stood := { row := topBadUptoRow, standIns := [], harness := (true, "d4182a365f00357ec684a725565f610f7813ac9eba3cb6c5c48b056b4f93c143"), looks := true }, kinds := [], alts := [], laidByText := true, laidKinds := [.data, .data], laidTests := true, laidLooks := .later }
def TopBadUptoCardSaid : Prop := Claim7.holds Tryd.pinned (.plain (OpenSpec.upto topBadSpec)) topBadUptoCard

/-- THE SECOND FORM's CARD OF 'tidegatelaw.BatchSays'. -/
def batchSaysUptoCard : Claim7 := { stood := { row := batchSaysUptoRow, standIns := [], harness := (true, "d4182a365f00357ec684a725565f610f7813ac9eba3cb6c5c48b056b4f93c143"), looks := true }, kinds := [], alts := [], laidByText := true, laidKinds := [.data, .pinned], laidTests := true, laidLooks := .later }
def BatchSaysUptoCardSaid : Prop := Claim7.holds Tryd.pinned (.plain (OpenSpec.upto batchSaysSpec)) batchSaysUptoCard

/-- THE SECOND FORM's CARD OF 'tidegatelaw.SurveySays'. -/
def surveySaysUptoCard : Claim7 := { stood := { row := surveySaysUptoRow, standIns := [], harness := (true, "d4182a365f00357ec684a725565f610f7813ac9eba3cb6c5c48b056b4f93c143"), looks := true }, kinds := [], alts := [], laidByText := true, laidKinds := [.data, .data], laidTests := true, laidLooks := .later }
def SurveySaysUptoCardSaid : Prop := Claim7.holds Tryd.pinned (.plain (OpenSpec.upto surveySaysSpec)) surveySaysUptoCard

/-- THE SECOND FORM's CARD OF 'tidegatetop.TopText'. -/
def topTextUptoCard : Claim7 := { stood := { row := topTextUptoRow, standIns := [], harness := (true, "d4182a365f00357ec684a725565f610f7813ac9eba3cb6c5c48b056b4f93c143"), looks := true }, kinds := [], alts := [], laidByText := true, laidKinds := [.data, .pinned], laidTests := true, laidLooks := .later }
def TopTextUptoCardSaid : Prop := Claim7.holds Tryd.pinned (.plain (OpenSpec.upto topTextSpec)) topTextUptoCard
end Rows
end Go.Proofs.YthndopokabceiaaDoor
