/-
  No cell of these rows narrows 'for every input' (looked for: loops, veiled, ifaces, maps, wideKeys, modest, calm, conditions, laid).
  DERIVED. THE GIVEN ROWS OF THIS SEAT. 5 by the template 'for every input the law returns true; each argument reads behind the call as it read before'; 0 by the template 'total and deterministic' (their statements: YtccdpoihhljlcaaTotals.lean).
  GIVEN WITH THE SEED: the statements are not yours to turn. If you find one false, say at which input.
  Laid BY PROGRAM, IN A SANDBOX (cutbox-rows.mjs): the forced cells as the released guide's own fill.sh prints them over the translation 3842151a29bb68e9… (all of the seat's roots in one cut). By AI agents, Wed Nov 11 2026. No macro, syntax, notation, axiom, sorry.
-/
import Derived.Test.YtccdpoihhljlcaaChecked
import GoSem.Claim
import GoSem.ClaimJoined
import GoSem.ClaimMapViews
import Derived.JoinedTies
import Derived.KernelRfl
namespace Go.Proofs.Ytccdpoihhljlcaa
/- THE CELL 'sum', in the pinned program and in every row, IS THE sha256 OF THE DUMP (.gsa) THAT YtccdpoihhljlcaaProg.lean LOADS. Nothing in Lean hashes anything: it is a label: what it is worth is what the hold of that sum in a sandbox is worth. -/
noncomputable def Try.pinned : Pinned := { name := "ytccdpoihhljlcaa", sum := "3842151a29bb68e96f703a068821a7e275f3d187b4ed2815c74d224fcbef449c", checked := Try.checked }
namespace Rows
def none {H : Type} : Left H := { results := [], args := [] }

/-- 'tidegatelaw.EntrySays': WHATEVER THE INPUT: true; the input reads as it did. -/
def entrySaysSpec : ChangeSpec := { name := "entrySays", fn := fun _ => fun
  | [d1, d2] => { results := [.lit (.bool true)], args := [d1, d2] }
  | _ => none }
def entrySaysRow : OpenClaim := { program := "ytccdpoihhljlcaa", sum := "3842151a29bb68e96f703a068821a7e275f3d187b4ed2815c74d224fcbef449c", func := "tidegate/tidegatelaw.EntrySays", spec := "entrySays", apart := false }
def EntrySaysSaid : Prop := entrySaysRow.holds Try.pinned (OpenSpec.ofChange entrySaysSpec)

/-- ITS FALSE NEIGHBOUR: 'it returns false'. Refute it at one input. -/
def entrySaysWrong : ChangeSpec := { name := "entrySays", fn := fun _ => fun
  | [d1, d2] => { results := [.lit (.bool false)], args := [d1, d2] }
  | _ => none }
def EntrySaysWrongFalsely : Prop := entrySaysRow.holds Try.pinned (OpenSpec.ofChange entrySaysWrong)

/-- 'tidegatelaw.ChipSays': WHATEVER THE INPUT: true; the input reads as it did. -/
def chipSaysSpec : ChangeSpec := { name := "chipSays", fn := fun _ => fun
  | [d] => { results := [.lit (.bool true)], args := [d] }
  | _ => none }
def chipSaysRow : OpenClaim := { program := "ytccdpoihhljlcaa", sum := "3842151a29bb68e96f703a068821a7e275f3d187b4ed2815c74d224fcbef449c", func := "tidegate/tidegatelaw.ChipSays", spec := "chipSays", unfollowed := true, recurses := true, apart := false }
def ChipSaysSaid : Prop := chipSaysRow.holds Try.pinned (OpenSpec.ofChange chipSaysSpec)

/-- ITS FALSE NEIGHBOUR: 'it returns false'. Refute it at one input. -/
def chipSaysWrong : ChangeSpec := { name := "chipSays", fn := fun _ => fun
  | [d] => { results := [.lit (.bool false)], args := [d] }
  | _ => none }
def ChipSaysWrongFalsely : Prop := chipSaysRow.holds Try.pinned (OpenSpec.ofChange chipSaysWrong)

/-- 'tidegatetop.TopEntry': WHATEVER THE INPUT: true; the input reads as it did. -/
def topEntrySpec : ChangeSpec := { name := "topEntry", fn := fun _ => fun
  | [d1, d2] => { results := [.lit (.bool true)], args := [d1, d2] }
  | _ => none }
def topEntryRow : OpenClaim := { program := "ytccdpoihhljlcaa", sum := "3842151a29bb68e96f703a068821a7e275f3d187b4ed2815c74d224fcbef449c", func := "tidegate/tidegatetop.TopEntry", spec := "topEntry", apart := false }
def TopEntrySaid : Prop := topEntryRow.holds Try.pinned (OpenSpec.ofChange topEntrySpec)

/-- ITS FALSE NEIGHBOUR: 'it returns false'. Refute it at one input. -/
def topEntryWrong : ChangeSpec := { name := "topEntry", fn := fun _ => fun
  | [d1, d2] => { results := [.lit (.bool false)], args := [d1, d2] }
  | _ => none }
def TopEntryWrongFalsely : Prop := topEntryRow.holds Try.pinned (OpenSpec.ofChange topEntryWrong)

/-- 'tidegatetop.TopOnce': WHATEVER THE INPUT: true; the input reads as it did. -/
def topOnceSpec : ChangeSpec := { name := "topOnce", fn := fun _ => fun
  | [d1, d2] => { results := [.lit (.bool true)], args := [d1, d2] }
  | _ => none }
def topOnceRow : OpenClaim := { program := "ytccdpoihhljlcaa", sum := "3842151a29bb68e96f703a068821a7e275f3d187b4ed2815c74d224fcbef449c", func := "tidegate/tidegatetop.TopOnce", spec := "topOnce", unfollowed := true, recurses := true, apart := false }
def TopOnceSaid : Prop := topOnceRow.holds Try.pinned (OpenSpec.ofChange topOnceSpec)

/-- ITS FALSE NEIGHBOUR: 'it returns false'. Refute it at one input. -/
def topOnceWrong : ChangeSpec := { name := "topOnce", fn := fun _ => fun
  | [d1, d2] => { results := [.lit (.bool false)], args := [d1, d2] }
  | _ => none }
def TopOnceWrongFalsely : Prop := topOnceRow.holds Try.pinned (OpenSpec.ofChange topOnceWrong)

/-- 'tidegatetop.TopTorn': WHATEVER THE INPUT: true; the input reads as it did. -/
def topTornSpec : ChangeSpec := { name := "topTorn", fn := fun _ => fun
  | [d1, d2, d3] => { results := [.lit (.bool true)], args := [d1, d2, d3] }
  | _ => none }
def topTornRow : OpenClaim := { program := "ytccdpoihhljlcaa", sum := "3842151a29bb68e96f703a068821a7e275f3d187b4ed2815c74d224fcbef449c", func := "tidegate/tidegatetop.TopTorn", spec := "topTorn", unfollowed := true, recurses := true, apart := false }
def TopTornSaid : Prop := topTornRow.holds Try.pinned (OpenSpec.ofChange topTornSpec)

/-- ITS FALSE NEIGHBOUR: 'it returns false'. Refute it at one input. -/
def topTornWrong : ChangeSpec := { name := "topTorn", fn := fun _ => fun
  | [d1, d2, d3] => { results := [.lit (.bool false)], args := [d1, d2, d3] }
  | _ => none }
def TopTornWrongFalsely : Prop := topTornRow.holds Try.pinned (OpenSpec.ofChange topTornWrong)

/- THE SECOND FORM. 'bulk': how many values and letters a reading holds, each counted each time it is reached (what is shared counts as often as it is met; a slice's spare places count too). A statement '..UptoSaid' is the law's where the arguments, and the package variables that the reading takes, are together of bulk at most 1048576: NARROWER than '..Said'. Prove '..Said' where nothing that the law and all that it calls make is longer than what came in: it says more and counts as full. Else prove '..UptoSaid'. A law counts once. -/
mutual
def uptoBulk {H : Type} : DataW H → Nat
  | .lit (.string bytes) => bytes.length + 1
  | .lit _ => 1
  | .nil => 1
  | .ptr d => uptoBulk d + 1
  | .slice elems spare => uptoBulkAll elems + uptoBulkAll spare + 1
  | .agg parts => uptoBulkAll parts + 1
  | .iface _ d => uptoBulk d + 1
  | .map entries => uptoBulkEntries entries + 1
  | .held _ => 1
def uptoBulkAll {H : Type} : List (DataW H) → Nat
  | [] => 0
  | d :: r => uptoBulk d + uptoBulkAll r
def uptoBulkEntries {H : Type} : List (Lit × DataW H) → Nat
  | [] => 0
  | x :: r => uptoBulkEntry x + uptoBulkEntries r
def uptoBulkEntry {H : Type} : Lit × DataW H → Nat
  | (.string bytes, d) => bytes.length + uptoBulk d + 1
  | (_, d) => uptoBulk d + 1
 end
def uptoSmall : (H : Type) → List (DataW H) → Bool := fun _ ds => decide (uptoBulkAll ds ≤ 1048576)
def OpenSpec.upto (s : _root_.Go.ChangeSpec) : _root_.Go.OpenSpec := { _root_.Go.OpenSpec.ofChange s with cond := some uptoSmall }

/-- 'tidegatelaw.EntrySays', WHERE WHAT IT READS IS OF BULK AT MOST 1048576: true; the input reads as it did. -/
def entrySaysUptoRow : OpenClaim := { program := "ytccdpoihhljlcaa", sum := "3842151a29bb68e96f703a068821a7e275f3d187b4ed2815c74d224fcbef449c", func := "tidegate/tidegatelaw.EntrySays", spec := "entrySays", apart := false, narrowed := true }
def EntrySaysUptoSaid : Prop := entrySaysUptoRow.holds Try.pinned (OpenSpec.upto entrySaysSpec)

/-- 'tidegatelaw.ChipSays', WHERE WHAT IT READS IS OF BULK AT MOST 1048576: true; the input reads as it did. -/
def chipSaysUptoRow : OpenClaim := { program := "ytccdpoihhljlcaa", sum := "3842151a29bb68e96f703a068821a7e275f3d187b4ed2815c74d224fcbef449c", func := "tidegate/tidegatelaw.ChipSays", spec := "chipSays", unfollowed := true, recurses := true, apart := false, narrowed := true }
def ChipSaysUptoSaid : Prop := chipSaysUptoRow.holds Try.pinned (OpenSpec.upto chipSaysSpec)

/-- 'tidegatetop.TopEntry', WHERE WHAT IT READS IS OF BULK AT MOST 1048576: true; the input reads as it did. -/
def topEntryUptoRow : OpenClaim := { program := "ytccdpoihhljlcaa", sum := "3842151a29bb68e96f703a068821a7e275f3d187b4ed2815c74d224fcbef449c", func := "tidegate/tidegatetop.TopEntry", spec := "topEntry", apart := false, narrowed := true }
def TopEntryUptoSaid : Prop := topEntryUptoRow.holds Try.pinned (OpenSpec.upto topEntrySpec)

/-- 'tidegatetop.TopOnce', WHERE WHAT IT READS IS OF BULK AT MOST 1048576: true; the input reads as it did. -/
def topOnceUptoRow : OpenClaim := { program := "ytccdpoihhljlcaa", sum := "3842151a29bb68e96f703a068821a7e275f3d187b4ed2815c74d224fcbef449c", func := "tidegate/tidegatetop.TopOnce", spec := "topOnce", unfollowed := true, recurses := true, apart := false, narrowed := true }
def TopOnceUptoSaid : Prop := topOnceUptoRow.holds Try.pinned (OpenSpec.upto topOnceSpec)

/-- 'tidegatetop.TopTorn', WHERE WHAT IT READS IS OF BULK AT MOST 1048576: true; the input reads as it did. -/
def topTornUptoRow : OpenClaim := { program := "ytccdpoihhljlcaa", sum := "3842151a29bb68e96f703a068821a7e275f3d187b4ed2815c74d224fcbef449c", func := "tidegate/tidegatetop.TopTorn", spec := "topTorn", unfollowed := true, recurses := true, apart := false, narrowed := true }
def TopTornUptoSaid : Prop := topTornUptoRow.holds Try.pinned (OpenSpec.upto topTornSpec)

end Rows
end Go.Proofs.Ytccdpoihhljlcaa
