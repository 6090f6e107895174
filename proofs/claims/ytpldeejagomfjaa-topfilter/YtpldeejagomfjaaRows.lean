/-
  No cell of these rows narrows 'for every input' (looked for: loops, veiled, ifaces, maps, wideKeys, modest, calm, conditions, laid).
  DERIVED. THE GIVEN ROWS OF THIS SEAT. 14 by the template 'for every input the law returns true; each argument reads behind the call as it read before'; 0 by the template 'total and deterministic' (their statements: YtpldeejagomfjaaTotals.lean).
  GIVEN WITH THE SEED: the statements are not yours to turn. If you find one false, say at which input.
  Laid BY PROGRAM, IN A SANDBOX (cutbox-rows.mjs): the forced cells as the released guide's own fill.sh prints them over the translation f109e49cc999cce4… (all of the seat's roots in one cut). By AI agents, Wed Nov 11 2026. No macro, syntax, notation, axiom, sorry.
-/
import Derived.Test.YtpldeejagomfjaaChecked
import GoSem.Claim
import GoSem.ClaimJoined
import GoSem.ClaimMapViews
import Derived.JoinedTies
import Derived.KernelRfl
namespace Go.Proofs.Ytpldeejagomfjaa
/- THE CELL 'sum', in the pinned program and in every row, IS THE sha256 OF THE DUMP (.gsa) THAT YtpldeejagomfjaaProg.lean LOADS. Nothing in Lean hashes anything: it is a label: what it is worth is what the hold of that sum in a sandbox is worth. -/
noncomputable def Try.pinned : Pinned := { name := "ytpldeejagomfjaa", sum := "f109e49cc999cce4c6868cdf79fc8adcbce2c0f0c3671cdd8d0ce330bef6045c", checked := Try.checked }
namespace Rows
def none {H : Type} : Left H := { results := [], args := [] }

/-- 'tidegatelaw.EntrySays': WHATEVER THE INPUT: true; the input reads as it did. -/
def entrySaysSpec : ChangeSpec := { name := "entrySays", fn := fun _ => fun
  | [d1, d2] => { results := [.lit (.bool true)], args := [d1, d2] }
  | _ => none }
def entrySaysRow : OpenClaim := { program := "ytpldeejagomfjaa", sum := "f109e49cc999cce4c6868cdf79fc8adcbce2c0f0c3671cdd8d0ce330bef6045c", func := "tidegate/tidegatelaw.EntrySays", spec := "entrySays", apart := false }
def EntrySaysSaid : Prop := entrySaysRow.holds Try.pinned (OpenSpec.ofChange entrySaysSpec)

/-- ITS FALSE NEIGHBOUR: 'it returns false'. Refute it at one input. -/
def entrySaysWrong : ChangeSpec := { name := "entrySays", fn := fun _ => fun
  | [d1, d2] => { results := [.lit (.bool false)], args := [d1, d2] }
  | _ => none }
def EntrySaysWrongFalsely : Prop := entrySaysRow.holds Try.pinned (OpenSpec.ofChange entrySaysWrong)

/-- 'tidegatelaw.ChipSays': WHATEVER THE INPUT: true; the input reads as it did. -/
def chipSaysSpec : ChangeSpec := { name := "chipSays", fn := fun _ => fun
  | [d] => { results := [.lit (.bool true)], args := [d] }
  | _ => none }
def chipSaysRow : OpenClaim := { program := "ytpldeejagomfjaa", sum := "f109e49cc999cce4c6868cdf79fc8adcbce2c0f0c3671cdd8d0ce330bef6045c", func := "tidegate/tidegatelaw.ChipSays", spec := "chipSays", unfollowed := true, recurses := true, apart := false }
def ChipSaysSaid : Prop := chipSaysRow.holds Try.pinned (OpenSpec.ofChange chipSaysSpec)

/-- ITS FALSE NEIGHBOUR: 'it returns false'. Refute it at one input. -/
def chipSaysWrong : ChangeSpec := { name := "chipSays", fn := fun _ => fun
  | [d] => { results := [.lit (.bool false)], args := [d] }
  | _ => none }
def ChipSaysWrongFalsely : Prop := chipSaysRow.holds Try.pinned (OpenSpec.ofChange chipSaysWrong)

/-- 'tidegatetop.TopEntry': WHATEVER THE INPUT: true; the input reads as it did. -/
def topEntrySpec : ChangeSpec := { name := "topEntry", fn := fun _ => fun
  | [d1, d2] => { results := [.lit (.bool true)], args := [d1, d2] }
  | _ => none }
def topEntryRow : OpenClaim := { program := "ytpldeejagomfjaa", sum := "f109e49cc999cce4c6868cdf79fc8adcbce2c0f0c3671cdd8d0ce330bef6045c", func := "tidegate/tidegatetop.TopEntry", spec := "topEntry", apart := false }
def TopEntrySaid : Prop := topEntryRow.holds Try.pinned (OpenSpec.ofChange topEntrySpec)

/-- ITS FALSE NEIGHBOUR: 'it returns false'. Refute it at one input. -/
def topEntryWrong : ChangeSpec := { name := "topEntry", fn := fun _ => fun
  | [d1, d2] => { results := [.lit (.bool false)], args := [d1, d2] }
  | _ => none }
def TopEntryWrongFalsely : Prop := topEntryRow.holds Try.pinned (OpenSpec.ofChange topEntryWrong)

/-- 'tidegatetop.TopOnce': WHATEVER THE INPUT: true; the input reads as it did. -/
def topOnceSpec : ChangeSpec := { name := "topOnce", fn := fun _ => fun
  | [d1, d2] => { results := [.lit (.bool true)], args := [d1, d2] }
  | _ => none }
def topOnceRow : OpenClaim := { program := "ytpldeejagomfjaa", sum := "f109e49cc999cce4c6868cdf79fc8adcbce2c0f0c3671cdd8d0ce330bef6045c", func := "tidegate/tidegatetop.TopOnce", spec := "topOnce", unfollowed := true, recurses := true, apart := false }
def TopOnceSaid : Prop := topOnceRow.holds Try.pinned (OpenSpec.ofChange topOnceSpec)

/-- ITS FALSE NEIGHBOUR: 'it returns false'. Refute it at one input. -/
def topOnceWrong : ChangeSpec := { name := "topOnce", fn := fun _ => fun
  | [d1, d2] => { results := [.lit (.bool false)], args := [d1, d2] }
  | _ => none }
def TopOnceWrongFalsely : Prop := topOnceRow.holds Try.pinned (OpenSpec.ofChange topOnceWrong)

/-- 'tidegatetop.TopTorn': WHATEVER THE INPUT: true; the input reads as it did. -/
def topTornSpec : ChangeSpec := { name := "topTorn", fn := fun _ => fun
  | [d1, d2, d3] => { results := [.lit (.bool true)], args := [d1, d2, d3] }
  | _ => none }
def topTornRow : OpenClaim := { program := "ytpldeejagomfjaa", sum := "f109e49cc999cce4c6868cdf79fc8adcbce2c0f0c3671cdd8d0ce330bef6045c", func := "tidegate/tidegatetop.TopTorn", spec := "topTorn", unfollowed := true, recurses := true, apart := false }
def TopTornSaid : Prop := topTornRow.holds Try.pinned (OpenSpec.ofChange topTornSpec)

/-- ITS FALSE NEIGHBOUR: 'it returns false'. Refute it at one input. -/
def topTornWrong : ChangeSpec := { name := "topTorn", fn := fun _ => fun
  | [d1, d2, d3] => { results := [.lit (.bool false)], args := [d1, d2, d3] }
  | _ => none }
def TopTornWrongFalsely : Prop := topTornRow.holds Try.pinned (OpenSpec.ofChange topTornWrong)

/-- 'tidegatelaw.TowerSays': WHATEVER THE INPUT: true; the input reads as it did. -/
def towerSaysSpec : ChangeSpec := { name := "towerSays", fn := fun _ => fun
  | [d1, d2, d3] => { results := [.lit (.bool true)], args := [d1, d2, d3] }
  | _ => none }
def towerSaysRow : OpenClaim := { program := "ytpldeejagomfjaa", sum := "f109e49cc999cce4c6868cdf79fc8adcbce2c0f0c3671cdd8d0ce330bef6045c", func := "tidegate/tidegatelaw.TowerSays", spec := "towerSays", apart := false }
def TowerSaysSaid : Prop := towerSaysRow.holds Try.pinned (OpenSpec.ofChange towerSaysSpec)

/-- ITS FALSE NEIGHBOUR: 'it returns false'. Refute it at one input. -/
def towerSaysWrong : ChangeSpec := { name := "towerSays", fn := fun _ => fun
  | [d1, d2, d3] => { results := [.lit (.bool false)], args := [d1, d2, d3] }
  | _ => none }
def TowerSaysWrongFalsely : Prop := towerSaysRow.holds Try.pinned (OpenSpec.ofChange towerSaysWrong)

/-- 'tidegatelaw.FilterSays': WHATEVER THE INPUT: true; the input reads as it did. -/
def filterSaysSpec : ChangeSpec := { name := "filterSays", fn := fun _ => fun
  | [d1, d2, d3] => { results := [.lit (.bool true)], args := [d1, d2, d3] }
  | _ => none }
def filterSaysRow : OpenClaim := { program := "ytpldeejagomfjaa", sum := "f109e49cc999cce4c6868cdf79fc8adcbce2c0f0c3671cdd8d0ce330bef6045c", func := "tidegate/tidegatelaw.FilterSays", spec := "filterSays", apart := false }
def FilterSaysSaid : Prop := filterSaysRow.holds Try.pinned (OpenSpec.ofChange filterSaysSpec)

/-- ITS FALSE NEIGHBOUR: 'it returns false'. Refute it at one input. -/
def filterSaysWrong : ChangeSpec := { name := "filterSays", fn := fun _ => fun
  | [d1, d2, d3] => { results := [.lit (.bool false)], args := [d1, d2, d3] }
  | _ => none }
def FilterSaysWrongFalsely : Prop := filterSaysRow.holds Try.pinned (OpenSpec.ofChange filterSaysWrong)

/-- 'tidegatelaw.MergeSays': WHATEVER THE INPUT: true; the input reads as it did. -/
def mergeSaysSpec : ChangeSpec := { name := "mergeSays", fn := fun _ => fun
  | [d] => { results := [.lit (.bool true)], args := [d] }
  | _ => none }
def mergeSaysRow : OpenClaim := { program := "ytpldeejagomfjaa", sum := "f109e49cc999cce4c6868cdf79fc8adcbce2c0f0c3671cdd8d0ce330bef6045c", func := "tidegate/tidegatelaw.MergeSays", spec := "mergeSays", recurses := true, apart := false }
def MergeSaysSaid : Prop := mergeSaysRow.holds Try.pinned (OpenSpec.ofChange mergeSaysSpec)

/-- ITS FALSE NEIGHBOUR: 'it returns false'. Refute it at one input. -/
def mergeSaysWrong : ChangeSpec := { name := "mergeSays", fn := fun _ => fun
  | [d] => { results := [.lit (.bool false)], args := [d] }
  | _ => none }
def MergeSaysWrongFalsely : Prop := mergeSaysRow.holds Try.pinned (OpenSpec.ofChange mergeSaysWrong)

/-- 'tidegatelaw.ManifestSays': WHATEVER THE INPUT: true; the input reads as it did. -/
def manifestSaysSpec : ChangeSpec := { name := "manifestSays", fn := fun _ => fun
  | [d1, d2, d3] => { results := [.lit (.bool true)], args := [d1, d2, d3] }
  | _ => none }
def manifestSaysRow : OpenClaim := { program := "ytpldeejagomfjaa", sum := "f109e49cc999cce4c6868cdf79fc8adcbce2c0f0c3671cdd8d0ce330bef6045c", func := "tidegate/tidegatelaw.ManifestSays", spec := "manifestSays", unfollowed := true, recurses := true, apart := false }
def ManifestSaysSaid : Prop := manifestSaysRow.holds Try.pinned (OpenSpec.ofChange manifestSaysSpec)

/-- ITS FALSE NEIGHBOUR: 'it returns false'. Refute it at one input. -/
def manifestSaysWrong : ChangeSpec := { name := "manifestSays", fn := fun _ => fun
  | [d1, d2, d3] => { results := [.lit (.bool false)], args := [d1, d2, d3] }
  | _ => none }
def ManifestSaysWrongFalsely : Prop := manifestSaysRow.holds Try.pinned (OpenSpec.ofChange manifestSaysWrong)

/-- 'tidegatetop.TopTower': WHATEVER THE INPUT: true; the input reads as it did. -/
def topTowerSpec : ChangeSpec := { name := "topTower", fn := fun _ => fun
  | [d1, d2, d3, d4] => { results := [.lit (.bool true)], args := [d1, d2, d3, d4] }
  | _ => none }
def topTowerRow : OpenClaim := { program := "ytpldeejagomfjaa", sum := "f109e49cc999cce4c6868cdf79fc8adcbce2c0f0c3671cdd8d0ce330bef6045c", func := "tidegate/tidegatetop.TopTower", spec := "topTower", apart := false }
def TopTowerSaid : Prop := topTowerRow.holds Try.pinned (OpenSpec.ofChange topTowerSpec)

/-- ITS FALSE NEIGHBOUR: 'it returns false'. Refute it at one input. -/
def topTowerWrong : ChangeSpec := { name := "topTower", fn := fun _ => fun
  | [d1, d2, d3, d4] => { results := [.lit (.bool false)], args := [d1, d2, d3, d4] }
  | _ => none }
def TopTowerWrongFalsely : Prop := topTowerRow.holds Try.pinned (OpenSpec.ofChange topTowerWrong)

/-- 'tidegatetop.TopFilter': WHATEVER THE INPUT: true; the input reads as it did. -/
def topFilterSpec : ChangeSpec := { name := "topFilter", fn := fun _ => fun
  | [d1, d2, d3] => { results := [.lit (.bool true)], args := [d1, d2, d3] }
  | _ => none }
def topFilterRow : OpenClaim := { program := "ytpldeejagomfjaa", sum := "f109e49cc999cce4c6868cdf79fc8adcbce2c0f0c3671cdd8d0ce330bef6045c", func := "tidegate/tidegatetop.TopFilter", spec := "topFilter", apart := false }
def TopFilterSaid : Prop := topFilterRow.holds Try.pinned (OpenSpec.ofChange topFilterSpec)

/-- ITS FALSE NEIGHBOUR: 'it returns false'. Refute it at one input. -/
def topFilterWrong : ChangeSpec := { name := "topFilter", fn := fun _ => fun
  | [d1, d2, d3] => { results := [.lit (.bool false)], args := [d1, d2, d3] }
  | _ => none }
def TopFilterWrongFalsely : Prop := topFilterRow.holds Try.pinned (OpenSpec.ofChange topFilterWrong)

/-- 'tidegatetop.TopMerge': WHATEVER THE INPUT: true; the input reads as it did. -/
def topMergeSpec : ChangeSpec := { name := "topMerge", fn := fun _ => fun
  | [d1, d2, d3] => { results := [.lit (.bool true)], args := [d1, d2, d3] }
  | _ => none }
def topMergeRow : OpenClaim := { program := "ytpldeejagomfjaa", sum := "f109e49cc999cce4c6868cdf79fc8adcbce2c0f0c3671cdd8d0ce330bef6045c", func := "tidegate/tidegatetop.TopMerge", spec := "topMerge", recurses := true, apart := false }
def TopMergeSaid : Prop := topMergeRow.holds Try.pinned (OpenSpec.ofChange topMergeSpec)

/-- ITS FALSE NEIGHBOUR: 'it returns false'. Refute it at one input. -/
def topMergeWrong : ChangeSpec := { name := "topMerge", fn := fun _ => fun
  | [d1, d2, d3] => { results := [.lit (.bool false)], args := [d1, d2, d3] }
  | _ => none }
def TopMergeWrongFalsely : Prop := topMergeRow.holds Try.pinned (OpenSpec.ofChange topMergeWrong)

/-- 'tidegatetop.TopManifest': WHATEVER THE INPUT: true; the input reads as it did. -/
def topManifestSpec : ChangeSpec := { name := "topManifest", fn := fun _ => fun
  | [d1, d2] => { results := [.lit (.bool true)], args := [d1, d2] }
  | _ => none }
def topManifestRow : OpenClaim := { program := "ytpldeejagomfjaa", sum := "f109e49cc999cce4c6868cdf79fc8adcbce2c0f0c3671cdd8d0ce330bef6045c", func := "tidegate/tidegatetop.TopManifest", spec := "topManifest", apart := false }
def TopManifestSaid : Prop := topManifestRow.holds Try.pinned (OpenSpec.ofChange topManifestSpec)

/-- ITS FALSE NEIGHBOUR: 'it returns false'. Refute it at one input. -/
def topManifestWrong : ChangeSpec := { name := "topManifest", fn := fun _ => fun
  | [d1, d2] => { results := [.lit (.bool false)], args := [d1, d2] }
  | _ => none }
def TopManifestWrongFalsely : Prop := topManifestRow.holds Try.pinned (OpenSpec.ofChange topManifestWrong)

/-- 'tidegatetop.TopNewest': WHATEVER THE INPUT: true; the input reads as it did. -/
def topNewestSpec : ChangeSpec := { name := "topNewest", fn := fun _ => fun
  | [d1, d2, d3] => { results := [.lit (.bool true)], args := [d1, d2, d3] }
  | _ => none }
def topNewestRow : OpenClaim := { program := "ytpldeejagomfjaa", sum := "f109e49cc999cce4c6868cdf79fc8adcbce2c0f0c3671cdd8d0ce330bef6045c", func := "tidegate/tidegatetop.TopNewest", spec := "topNewest", unfollowed := true, recurses := true, apart := false }
def TopNewestSaid : Prop := topNewestRow.holds Try.pinned (OpenSpec.ofChange topNewestSpec)

/-- ITS FALSE NEIGHBOUR: 'it returns false'. Refute it at one input. -/
def topNewestWrong : ChangeSpec := { name := "topNewest", fn := fun _ => fun
  | [d1, d2, d3] => { results := [.lit (.bool false)], args := [d1, d2, d3] }
  | _ => none }
def TopNewestWrongFalsely : Prop := topNewestRow.holds Try.pinned (OpenSpec.ofChange topNewestWrong)

/- THE SECOND FORM. 'bulk': how many values and letters a reading holds, each counted each time it is reached (what is shared counts as often as it is met; a slice's spare places count too). A statement '..UptoSaid' is the law's where the arguments, and the package variables that the reading takes, are together of bulk at most 1048576: NARROWER than '..Said'. Prove '..Said' where nothing that the law and all that it calls make is longer than what came in: it says more and counts as full. Else prove '..UptoSaid'. A law counts once. -/
mutual
def uptoBulk {H : Type} : DataW H → Nat
  | .lit (.string bytes) => bytes.length + 1
  | .lit _ => 1
  | .nil => 1
  | .ptr d => uptoBulk d + 1
  | .slice elems spare => uptoBulkAll elems + uptoBulkAll spare + 1
  | .agg parts => uptoBulkAll parts + 1
  | .iface _ d => uptoBulk d + 1
  | .map entries => uptoBulkEntries entries + 1
  | .held _ => 1
def uptoBulkAll {H : Type} : List (DataW H) → Nat
  | [] => 0
  | d :: r => uptoBulk d + uptoBulkAll r
def uptoBulkEntries {H : Type} : List (Lit × DataW H) → Nat
  | [] => 0
  | x :: r => uptoBulkEntry x + uptoBulkEntries r
def uptoBulkEntry {H : Type} : Lit × DataW H → Nat
  | (.string bytes, d) => bytes.length + uptoBulk d + 1
  | (_, d) => uptoBulk d + 1
 end
def uptoSmall : (H : Type) → List (DataW H) → Bool := fun _ ds => decide (uptoBulkAll ds ≤ 1048576)
def OpenSpec.upto (s : _root_.Go.ChangeSpec) : _root_.Go.OpenSpec := { _root_.Go.OpenSpec.ofChange s with cond := some uptoSmall }

/-- 'tidegatelaw.EntrySays', WHERE WHAT IT READS IS OF BULK AT MOST 1048576: true; the input reads as it did. -/
def entrySaysUptoRow : OpenClaim := { program := "ytpldeejagomfjaa", sum := "f109e49cc999cce4c6868cdf79fc8adcbce2c0f0c3671cdd8d0ce330bef6045c", func := "tidegate/tidegatelaw.EntrySays", spec := "entrySays", apart := false, narrowed := true }
def EntrySaysUptoSaid : Prop := entrySaysUptoRow.holds Try.pinned (OpenSpec.upto entrySaysSpec)

/-- 'tidegatelaw.ChipSays', WHERE WHAT IT READS IS OF BULK AT MOST 1048576: true; the input reads as it did. -/
def chipSaysUptoRow : OpenClaim := { program := "ytpldeejagomfjaa", sum := "f109e49cc999cce4c6868cdf79fc8adcbce2c0f0c3671cdd8d0ce330bef6045c", func := "tidegate/tidegatelaw.ChipSays", spec := "chipSays", unfollowed := true, recurses := true, apart := false, narrowed := true }
def ChipSaysUptoSaid : Prop := chipSaysUptoRow.holds Try.pinned (OpenSpec.upto chipSaysSpec)

/-- 'tidegatetop.TopEntry', WHERE WHAT IT READS IS OF BULK AT MOST 1048576: true; the input reads as it did. -/
def topEntryUptoRow : OpenClaim := { program := "ytpldeejagomfjaa", sum := "f109e49cc999cce4c6868cdf79fc8adcbce2c0f0c3671cdd8d0ce330bef6045c", func := "tidegate/tidegatetop.TopEntry", spec := "topEntry", apart := false, narrowed := true }
def TopEntryUptoSaid : Prop := topEntryUptoRow.holds Try.pinned (OpenSpec.upto topEntrySpec)

/-- 'tidegatetop.TopOnce', WHERE WHAT IT READS IS OF BULK AT MOST 1048576: true; the input reads as it did. -/
def topOnceUptoRow : OpenClaim := { program := "ytpldeejagomfjaa", sum := "f109e49cc999cce4c6868cdf79fc8adcbce2c0f0c3671cdd8d0ce330bef6045c", func := "tidegate/tidegatetop.TopOnce", spec := "topOnce", unfollowed := true, recurses := true, apart := false, narrowed := true }
def TopOnceUptoSaid : Prop := topOnceUptoRow.holds Try.pinned (OpenSpec.upto topOnceSpec)

/-- 'tidegatetop.TopTorn', WHERE WHAT IT READS IS OF BULK AT MOST 1048576: true; the input reads as it did. -/
def topTornUptoRow : OpenClaim := { program := "ytpldeejagomfjaa", sum := "f109e49cc999cce4c6868cdf79fc8adcbce2c0f0c3671cdd8d0ce330bef6045c", func := "tidegate/tidegatetop.TopTorn", spec := "topTorn", unfollowed := true, recurses := true, apart := false, narrowed := true }
def TopTornUptoSaid : Prop := topTornUptoRow.holds Try.pinned (OpenSpec.upto topTornSpec)

/-- 'tidegatelaw.TowerSays', WHERE WHAT IT READS IS OF BULK AT MOST 1048576: true; the input reads as it did. -/
def towerSaysUptoRow : OpenClaim := { program := "ytpldeejagomfjaa", sum := "f109e49cc999cce4c6868cdf79fc8adcbce2c0f0c3671cdd8d0ce330bef6045c", func := "tidegate/tidegatelaw.TowerSays", spec := "towerSays", apart := false, narrowed := true }
def TowerSaysUptoSaid : Prop := towerSaysUptoRow.holds Try.pinned (OpenSpec.upto towerSaysSpec)

/-- 'tidegatelaw.FilterSays', WHERE WHAT IT READS IS OF BULK AT MOST 1048576: true; the input reads as it did. -/
def filterSaysUptoRow : OpenClaim := { program := "ytpldeejagomfjaa", sum := "f109e49cc999cce4c6868cdf79fc8adcbce2c0f0c3671cdd8d0ce330bef6045c", func := "tidegate/tidegatelaw.FilterSays", spec := "filterSays", apart := false, narrowed := true }
def FilterSaysUptoSaid : Prop := filterSaysUptoRow.holds Try.pinned (OpenSpec.upto filterSaysSpec)

/-- 'tidegatelaw.MergeSays', WHERE WHAT IT READS IS OF BULK AT MOST 1048576: true; the input reads as it did. -/
def mergeSaysUptoRow : OpenClaim := { program := "ytpldeejagomfjaa", sum := "f109e49cc999cce4c6868cdf79fc8adcbce2c0f0c3671cdd8d0ce330bef6045c", func := "tidegate/tidegatelaw.MergeSays", spec := "mergeSays", recurses := true, apart := false, narrowed := true }
def MergeSaysUptoSaid : Prop := mergeSaysUptoRow.holds Try.pinned (OpenSpec.upto mergeSaysSpec)

/-- 'tidegatelaw.ManifestSays', WHERE WHAT IT READS IS OF BULK AT MOST 1048576: true; the input reads as it did. -/
def manifestSaysUptoRow : OpenClaim := { program := "ytpldeejagomfjaa", sum := "f109e49cc999cce4c6868cdf79fc8adcbce2c0f0c3671cdd8d0ce330bef6045c", func := "tidegate/tidegatelaw.ManifestSays", spec := "manifestSays", unfollowed := true, recurses := true, apart := false, narrowed := true }
def ManifestSaysUptoSaid : Prop := manifestSaysUptoRow.holds Try.pinned (OpenSpec.upto manifestSaysSpec)

/-- 'tidegatetop.TopTower', WHERE WHAT IT READS IS OF BULK AT MOST 1048576: true; the input reads as it did. -/
def topTowerUptoRow : OpenClaim := { program := "ytpldeejagomfjaa", sum := "f109e49cc999cce4c6868cdf79fc8adcbce2c0f0c3671cdd8d0ce330bef6045c", func := "tidegate/tidegatetop.TopTower", spec := "topTower", apart := false, narrowed := true }
def TopTowerUptoSaid : Prop := topTowerUptoRow.holds Try.pinned (OpenSpec.upto topTowerSpec)

/-- 'tidegatetop.TopFilter', WHERE WHAT IT READS IS OF BULK AT MOST 1048576: true; the input reads as it did. -/
def topFilterUptoRow : OpenClaim := { program := "ytpldeejagomfjaa", sum := "f109e49cc999cce4c6868cdf79fc8adcbce2c0f0c3671cdd8d0ce330bef6045c", func := "tidegate/tidegatetop.TopFilter", spec := "topFilter", apart := false, narrowed := true }
def TopFilterUptoSaid : Prop := topFilterUptoRow.holds Try.pinned (OpenSpec.upto topFilterSpec)

/-- 'tidegatetop.TopMerge', WHERE WHAT IT READS IS OF BULK AT MOST 1048576: true; the input reads as it did. -/
def topMergeUptoRow : OpenClaim := { program := "ytpldeejagomfjaa", sum := "f109e49cc999cce4c6868cdf79fc8adcbce2c0f0c3671cdd8d0ce330bef6045c", func := "tidegate/tidegatetop.TopMerge", spec := "topMerge", recurses := true, apart := false, narrowed := true }
def TopMergeUptoSaid : Prop := topMergeUptoRow.holds Try.pinned (OpenSpec.upto topMergeSpec)

/-- 'tidegatetop.TopManifest', WHERE WHAT IT READS IS OF BULK AT MOST 1048576: true; the input reads as it did. -/
def topManifestUptoRow : OpenClaim := { program := "ytpldeejagomfjaa", sum := "f109e49cc999cce4c6868cdf79fc8adcbce2c0f0c3671cdd8d0ce330bef6045c", func := "tidegate/tidegatetop.TopManifest", spec := "topManifest", apart := false, narrowed := true }
def TopManifestUptoSaid : Prop := topManifestUptoRow.holds Try.pinned (OpenSpec.upto topManifestSpec)

/-- 'tidegatetop.TopNewest', WHERE WHAT IT READS IS OF BULK AT MOST 1048576: true; the input reads as it did. -/
def topNewestUptoRow : OpenClaim := { program := "ytpldeejagomfjaa", sum := "f109e49cc999cce4c6868cdf79fc8adcbce2c0f0c3671cdd8d0ce330bef6045c", func := "tidegate/tidegatetop.TopNewest", spec := "topNewest", unfollowed := true, recurses := true, apart := false, narrowed := true }
def TopNewestUptoSaid : Prop := topNewestUptoRow.holds Try.pinned (OpenSpec.upto topNewestSpec)

end Rows
end Go.Proofs.Ytpldeejagomfjaa
