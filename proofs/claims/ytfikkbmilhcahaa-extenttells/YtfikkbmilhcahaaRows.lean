/-
  No cell of these rows narrows 'for every input' (looked for: loops, veiled, ifaces, maps, wideKeys, modest, calm, conditions, laid).
  DERIVED. THE GIVEN ROWS OF THIS SEAT. 5 by the template 'for every input the law returns true; each argument reads behind the call as it read before'; 0 by the template 'total and deterministic' (their statements: YtfikkbmilhcahaaTotals.lean).
  GIVEN WITH THE SEED: the statements are not yours to turn. If you find one false, say at which input.
  Laid BY PROGRAM, IN A SANDBOX (cutbox-rows.mjs): the forced cells as the released guide's own fill.sh prints them over the translation ce07b4691904a13a… (all of the seat's roots in one cut). By AI agents, Wed Nov 11 2026. No macro, syntax, notation, axiom, sorry.
-/
import Derived.Test.YtfikkbmilhcahaaChecked
import GoSem.Claim
import GoSem.ClaimJoined
import GoSem.ClaimMapViews
import Derived.JoinedTies
import Derived.KernelRfl
namespace Go.Proofs.Ytfikkbmilhcahaa
/- THE CELL 'sum', in the pinned program and in every row, IS THE sha256 OF THE DUMP (.gsa) THAT YtfikkbmilhcahaaProg.lean LOADS. Nothing in Lean hashes anything: it is a label: what it is worth is what the hold of that sum in a sandbox is worth. -/
noncomputable def Try.pinned : Pinned := { name := "ytfikkbmilhcahaa", sum := "ce07b4691904a13ab64dac2a503ddc405e4992a96468f120c1fdf15779dd62a2", checked := Try.checked }
namespace Rows
def none {H : Type} : Left H := { results := [], args := [] }

/-- 'emulsionlaw10.ExtentTells': WHATEVER THE INPUT: true; the input reads as it did. -/
def extentTellsSpec : ChangeSpec := { name := "extentTells", fn := fun _ => fun
  | [d1, d2, d3, d4, d5] => { results := [.lit (.bool true)], args := [d1, d2, d3, d4, d5] }
  | _ => none }
def extentTellsRow : OpenClaim := { program := "ytfikkbmilhcahaa", sum := "ce07b4691904a13ab64dac2a503ddc405e4992a96468f120c1fdf15779dd62a2", func := "emulsion/emulsionlaw10.ExtentTells", spec := "extentTells", apart := false }
def ExtentTellsSaid : Prop := extentTellsRow.holds Try.pinned (OpenSpec.ofChange extentTellsSpec)

/-- ITS FALSE NEIGHBOUR: 'it returns false'. Refute it at one input. -/
def extentTellsWrong : ChangeSpec := { name := "extentTells", fn := fun _ => fun
  | [d1, d2, d3, d4, d5] => { results := [.lit (.bool false)], args := [d1, d2, d3, d4, d5] }
  | _ => none }
def ExtentTellsWrongFalsely : Prop := extentTellsRow.holds Try.pinned (OpenSpec.ofChange extentTellsWrong)

/-- 'emulsionlaw10.ExtentOvers': WHATEVER THE INPUT: true; the input reads as it did. -/
def extentOversSpec : ChangeSpec := { name := "extentOvers", fn := fun _ => fun
  | [d1, d2, d3] => { results := [.lit (.bool true)], args := [d1, d2, d3] }
  | _ => none }
def extentOversRow : OpenClaim := { program := "ytfikkbmilhcahaa", sum := "ce07b4691904a13ab64dac2a503ddc405e4992a96468f120c1fdf15779dd62a2", func := "emulsion/emulsionlaw10.ExtentOvers", spec := "extentOvers", apart := false }
def ExtentOversSaid : Prop := extentOversRow.holds Try.pinned (OpenSpec.ofChange extentOversSpec)

/-- ITS FALSE NEIGHBOUR: 'it returns false'. Refute it at one input. -/
def extentOversWrong : ChangeSpec := { name := "extentOvers", fn := fun _ => fun
  | [d1, d2, d3] => { results := [.lit (.bool false)], args := [d1, d2, d3] }
  | _ => none }
def ExtentOversWrongFalsely : Prop := extentOversRow.holds Try.pinned (OpenSpec.ofChange extentOversWrong)

/-- 'emulsionlaw10.ExtentSets': WHATEVER THE INPUT: true; the input reads as it did. -/
def extentSetsSpec : ChangeSpec := { name := "extentSets", fn := fun _ => fun
  | [d1, d2] => { results := [.lit (.bool true)], args := [d1, d2] }
  | _ => none }
def extentSetsRow : OpenClaim := { program := "ytfikkbmilhcahaa", sum := "ce07b4691904a13ab64dac2a503ddc405e4992a96468f120c1fdf15779dd62a2", func := "emulsion/emulsionlaw10.ExtentSets", spec := "extentSets", apart := false }
def ExtentSetsSaid : Prop := extentSetsRow.holds Try.pinned (OpenSpec.ofChange extentSetsSpec)

/-- ITS FALSE NEIGHBOUR: 'it returns false'. Refute it at one input. -/
def extentSetsWrong : ChangeSpec := { name := "extentSets", fn := fun _ => fun
  | [d1, d2] => { results := [.lit (.bool false)], args := [d1, d2] }
  | _ => none }
def ExtentSetsWrongFalsely : Prop := extentSetsRow.holds Try.pinned (OpenSpec.ofChange extentSetsWrong)

/-- 'emulsionlaw10.ExtentCuts': WHATEVER THE INPUT: true; the input reads as it did. -/
def extentCutsSpec : ChangeSpec := { name := "extentCuts", fn := fun _ => fun
  | [d1, d2] => { results := [.lit (.bool true)], args := [d1, d2] }
  | _ => none }
def extentCutsRow : OpenClaim := { program := "ytfikkbmilhcahaa", sum := "ce07b4691904a13ab64dac2a503ddc405e4992a96468f120c1fdf15779dd62a2", func := "emulsion/emulsionlaw10.ExtentCuts", spec := "extentCuts", apart := false }
def ExtentCutsSaid : Prop := extentCutsRow.holds Try.pinned (OpenSpec.ofChange extentCutsSpec)

/-- ITS FALSE NEIGHBOUR: 'it returns false'. Refute it at one input. -/
def extentCutsWrong : ChangeSpec := { name := "extentCuts", fn := fun _ => fun
  | [d1, d2] => { results := [.lit (.bool false)], args := [d1, d2] }
  | _ => none }
def ExtentCutsWrongFalsely : Prop := extentCutsRow.holds Try.pinned (OpenSpec.ofChange extentCutsWrong)

/-- 'emulsionlaw10.ExtentCounts': WHATEVER THE INPUT: true; the input reads as it did. -/
def extentCountsSpec : ChangeSpec := { name := "extentCounts", fn := fun _ => fun
  | [d] => { results := [.lit (.bool true)], args := [d] }
  | _ => none }
def extentCountsRow : OpenClaim := { program := "ytfikkbmilhcahaa", sum := "ce07b4691904a13ab64dac2a503ddc405e4992a96468f120c1fdf15779dd62a2", func := "emulsion/emulsionlaw10.ExtentCounts", spec := "extentCounts", apart := false }
def ExtentCountsSaid : Prop := extentCountsRow.holds Try.pinned (OpenSpec.ofChange extentCountsSpec)

/-- ITS FALSE NEIGHBOUR: 'it returns false'. Refute it at one input. -/
def extentCountsWrong : ChangeSpec := { name := "extentCounts", fn := fun _ => fun
  | [d] => { results := [.lit (.bool false)], args := [d] }
  | _ => none }
def ExtentCountsWrongFalsely : Prop := extentCountsRow.holds Try.pinned (OpenSpec.ofChange extentCountsWrong)

/- THE SECOND FORM. 'bulk': how many values and letters a reading holds, each counted each time it is reached (what is shared counts as often as it is met; a slice's spare places count too). A statement '..UptoSaid' is the law's where the arguments, and the package variables that the reading takes, are together of bulk at most 1048576: NARROWER than '..Said'. Prove '..Said' where nothing that the law and all that it calls make is longer than what came in: it says more and counts as full. Else prove '..UptoSaid'. A law counts once. -/
mutual
def uptoBulk {H : Type} : DataW H → Nat
  | .lit (.string bytes) => bytes.length + 1
  | .lit _ => 1
  | .nil => 1
  | .ptr d => uptoBulk d + 1
  | .slice elems spare => uptoBulkAll elems + uptoBulkAll spare + 1
  | .agg parts => uptoBulkAll parts + 1
  | .iface _ d => uptoBulk d + 1
  | .map entries => uptoBulkEntries entries + 1
  | .held _ => 1
def uptoBulkAll {H : Type} : List (DataW H) → Nat
  | [] => 0
  | d :: r => uptoBulk d + uptoBulkAll r
def uptoBulkEntries {H : Type} : List (Lit × DataW H) → Nat
  | [] => 0
  | x :: r => uptoBulkEntry x + uptoBulkEntries r
def uptoBulkEntry {H : Type} : Lit × DataW H → Nat
  | (.string bytes, d) => bytes.length + uptoBulk d + 1
  | (_, d) => uptoBulk d + 1
 end
def uptoSmall : (H : Type) → List (DataW H) → Bool := fun _ ds => decide (uptoBulkAll ds ≤ 1048576)
def OpenSpec.upto (s : _root_.Go.ChangeSpec) : _root_.Go.OpenSpec := { _root_.Go.OpenSpec.ofChange s with cond := some uptoSmall }

/-- 'emulsionlaw10.ExtentTells', WHERE WHAT IT READS IS OF BULK AT MOST 1048576: true; the input reads as it did. -/
def extentTellsUptoRow : OpenClaim := { program := "ytfikkbmilhcahaa", sum := "ce07b4691904a13ab64dac2a503ddc405e4992a96468f120c1fdf15779dd62a2", func := "emulsion/emulsionlaw10.ExtentTells", spec := "extentTells", apart := false, narrowed := true }
def ExtentTellsUptoSaid : Prop := extentTellsUptoRow.holds Try.pinned (OpenSpec.upto extentTellsSpec)

/-- 'emulsionlaw10.ExtentOvers', WHERE WHAT IT READS IS OF BULK AT MOST 1048576: true; the input reads as it did. -/
def extentOversUptoRow : OpenClaim := { program := "ytfikkbmilhcahaa", sum := "ce07b4691904a13ab64dac2a503ddc405e4992a96468f120c1fdf15779dd62a2", func := "emulsion/emulsionlaw10.ExtentOvers", spec := "extentOvers", apart := false, narrowed := true }
def ExtentOversUptoSaid : Prop := extentOversUptoRow.holds Try.pinned (OpenSpec.upto extentOversSpec)

/-- 'emulsionlaw10.ExtentSets', WHERE WHAT IT READS IS OF BULK AT MOST 1048576: true; the input reads as it did. -/
def extentSetsUptoRow : OpenClaim := { program := "ytfikkbmilhcahaa", sum := "ce07b4691904a13ab64dac2a503ddc405e4992a96468f120c1fdf15779dd62a2", func := "emulsion/emulsionlaw10.ExtentSets", spec := "extentSets", apart := false, narrowed := true }
def ExtentSetsUptoSaid : Prop := extentSetsUptoRow.holds Try.pinned (OpenSpec.upto extentSetsSpec)

/-- 'emulsionlaw10.ExtentCuts', WHERE WHAT IT READS IS OF BULK AT MOST 1048576: true; the input reads as it did. -/
def extentCutsUptoRow : OpenClaim := { program := "ytfikkbmilhcahaa", sum := "ce07b4691904a13ab64dac2a503ddc405e4992a96468f120c1fdf15779dd62a2", func := "emulsion/emulsionlaw10.ExtentCuts", spec := "extentCuts", apart := false, narrowed := true }
def ExtentCutsUptoSaid : Prop := extentCutsUptoRow.holds Try.pinned (OpenSpec.upto extentCutsSpec)

/-- 'emulsionlaw10.ExtentCounts', WHERE WHAT IT READS IS OF BULK AT MOST 1048576: true; the input reads as it did. -/
def extentCountsUptoRow : OpenClaim := { program := "ytfikkbmilhcahaa", sum := "ce07b4691904a13ab64dac2a503ddc405e4992a96468f120c1fdf15779dd62a2", func := "emulsion/emulsionlaw10.ExtentCounts", spec := "extentCounts", apart := false, narrowed := true }
def ExtentCountsUptoSaid : Prop := extentCountsUptoRow.holds Try.pinned (OpenSpec.upto extentCountsSpec)

end Rows
end Go.Proofs.Ytfikkbmilhcahaa
