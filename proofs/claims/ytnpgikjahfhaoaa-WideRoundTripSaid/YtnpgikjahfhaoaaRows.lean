/-
  No cell of these rows narrows 'for every input' (looked for: loops, veiled, ifaces, maps, wideKeys, modest, calm, conditions, laid).
  DERIVED. THE GIVEN ROWS OF THIS SEAT. 10 by the template 'for every input the law returns true; each argument reads behind the call as it read before'; 0 by the template 'total and deterministic' (their statements: YtnpgikjahfhaoaaTotals.lean).
  GIVEN WITH THE SEED: the statements are not yours to turn. If you find one false, say at which input.
  Laid BY PROGRAM, IN A SANDBOX (cutbox-rows.mjs): the forced cells as the released guide's own fill.sh prints them over the translation 7f2aa9436fc7281f… (all of the seat's roots in one cut). By AI agents, Wed Nov 11 2026. No macro, syntax, notation, axiom, sorry.
-/
import Derived.Test.YtnpgikjahfhaoaaChecked
import GoSem.Claim
import GoSem.ClaimJoined
import GoSem.ClaimMapViews
import Derived.JoinedTies
import Derived.KernelRfl
namespace Go.Proofs.Ytnpgikjahfhaoaa
/- THE CELL 'sum', in the pinned program and in every row, IS THE sha256 OF THE DUMP (.gsa) THAT YtnpgikjahfhaoaaProg.lean LOADS. Nothing in Lean hashes anything: it is a label: what it is worth is what the hold of that sum in a sandbox is worth. -/
noncomputable def Try.pinned : Pinned := { name := "ytnpgikjahfhaoaa", sum := "7f2aa9436fc7281f596b8a9e0f51ee67f00213cbd17dd0744295ec541cf87054", checked := Try.checked }
namespace Rows
def none {H : Type} : Left H := { results := [], args := [] }

/-- 'shipyardlaw02.WideInts': WHATEVER THE INPUT: true; the input reads as it did. -/
def wideIntsSpec : ChangeSpec := { name := "wideInts", fn := fun _ => fun
  | [d1, d2] => { results := [.lit (.bool true)], args := [d1, d2] }
  | _ => none }
def wideIntsRow : OpenClaim := { program := "ytnpgikjahfhaoaa", sum := "7f2aa9436fc7281f596b8a9e0f51ee67f00213cbd17dd0744295ec541cf87054", func := "shipyard/shipyardlaw02.WideInts", spec := "wideInts", apart := false }
def WideIntsSaid : Prop := wideIntsRow.holds Try.pinned (OpenSpec.ofChange wideIntsSpec)

/-- ITS FALSE NEIGHBOUR: 'it returns false'. Refute it at one input. -/
def wideIntsWrong : ChangeSpec := { name := "wideInts", fn := fun _ => fun
  | [d1, d2] => { results := [.lit (.bool false)], args := [d1, d2] }
  | _ => none }
def WideIntsWrongFalsely : Prop := wideIntsRow.holds Try.pinned (OpenSpec.ofChange wideIntsWrong)

/-- 'shipyardlaw02.WideCompares': WHATEVER THE INPUT: true; the input reads as it did. -/
def wideComparesSpec : ChangeSpec := { name := "wideCompares", fn := fun _ => fun
  | [d1, d2] => { results := [.lit (.bool true)], args := [d1, d2] }
  | _ => none }
def wideComparesRow : OpenClaim := { program := "ytnpgikjahfhaoaa", sum := "7f2aa9436fc7281f596b8a9e0f51ee67f00213cbd17dd0744295ec541cf87054", func := "shipyard/shipyardlaw02.WideCompares", spec := "wideCompares", apart := false }
def WideComparesSaid : Prop := wideComparesRow.holds Try.pinned (OpenSpec.ofChange wideComparesSpec)

/-- ITS FALSE NEIGHBOUR: 'it returns false'. Refute it at one input. -/
def wideComparesWrong : ChangeSpec := { name := "wideCompares", fn := fun _ => fun
  | [d1, d2] => { results := [.lit (.bool false)], args := [d1, d2] }
  | _ => none }
def WideComparesWrongFalsely : Prop := wideComparesRow.holds Try.pinned (OpenSpec.ofChange wideComparesWrong)

/-- 'shipyardlaw02.WideSums': WHATEVER THE INPUT: true; the input reads as it did. -/
def wideSumsSpec : ChangeSpec := { name := "wideSums", fn := fun _ => fun
  | [d1, d2] => { results := [.lit (.bool true)], args := [d1, d2] }
  | _ => none }
def wideSumsRow : OpenClaim := { program := "ytnpgikjahfhaoaa", sum := "7f2aa9436fc7281f596b8a9e0f51ee67f00213cbd17dd0744295ec541cf87054", func := "shipyard/shipyardlaw02.WideSums", spec := "wideSums", apart := false }
def WideSumsSaid : Prop := wideSumsRow.holds Try.pinned (OpenSpec.ofChange wideSumsSpec)

/-- ITS FALSE NEIGHBOUR: 'it returns false'. Refute it at one input. -/
def wideSumsWrong : ChangeSpec := { name := "wideSums", fn := fun _ => fun
  | [d1, d2] => { results := [.lit (.bool false)], args := [d1, d2] }
  | _ => none }
def WideSumsWrongFalsely : Prop := wideSumsRow.holds Try.pinned (OpenSpec.ofChange wideSumsWrong)

/-- 'shipyardlaw02.WideProducts': WHATEVER THE INPUT: true; the input reads as it did. -/
def wideProductsSpec : ChangeSpec := { name := "wideProducts", fn := fun _ => fun
  | [d1, d2] => { results := [.lit (.bool true)], args := [d1, d2] }
  | _ => none }
def wideProductsRow : OpenClaim := { program := "ytnpgikjahfhaoaa", sum := "7f2aa9436fc7281f596b8a9e0f51ee67f00213cbd17dd0744295ec541cf87054", func := "shipyard/shipyardlaw02.WideProducts", spec := "wideProducts", apart := false }
def WideProductsSaid : Prop := wideProductsRow.holds Try.pinned (OpenSpec.ofChange wideProductsSpec)

/-- ITS FALSE NEIGHBOUR: 'it returns false'. Refute it at one input. -/
def wideProductsWrong : ChangeSpec := { name := "wideProducts", fn := fun _ => fun
  | [d1, d2] => { results := [.lit (.bool false)], args := [d1, d2] }
  | _ => none }
def WideProductsWrongFalsely : Prop := wideProductsRow.holds Try.pinned (OpenSpec.ofChange wideProductsWrong)

/-- 'shipyardlaw02.WideQuotients': WHATEVER THE INPUT: true; the input reads as it did. -/
def wideQuotientsSpec : ChangeSpec := { name := "wideQuotients", fn := fun _ => fun
  | [d1, d2] => { results := [.lit (.bool true)], args := [d1, d2] }
  | _ => none }
def wideQuotientsRow : OpenClaim := { program := "ytnpgikjahfhaoaa", sum := "7f2aa9436fc7281f596b8a9e0f51ee67f00213cbd17dd0744295ec541cf87054", func := "shipyard/shipyardlaw02.WideQuotients", spec := "wideQuotients", apart := false }
def WideQuotientsSaid : Prop := wideQuotientsRow.holds Try.pinned (OpenSpec.ofChange wideQuotientsSpec)

/-- ITS FALSE NEIGHBOUR: 'it returns false'. Refute it at one input. -/
def wideQuotientsWrong : ChangeSpec := { name := "wideQuotients", fn := fun _ => fun
  | [d1, d2] => { results := [.lit (.bool false)], args := [d1, d2] }
  | _ => none }
def WideQuotientsWrongFalsely : Prop := wideQuotientsRow.holds Try.pinned (OpenSpec.ofChange wideQuotientsWrong)

/-- 'shipyardlaw02.WideTexts': WHATEVER THE INPUT: true; the input reads as it did. -/
def wideTextsSpec : ChangeSpec := { name := "wideTexts", fn := fun _ => fun
  | [d1, d2] => { results := [.lit (.bool true)], args := [d1, d2] }
  | _ => none }
def wideTextsRow : OpenClaim := { program := "ytnpgikjahfhaoaa", sum := "7f2aa9436fc7281f596b8a9e0f51ee67f00213cbd17dd0744295ec541cf87054", func := "shipyard/shipyardlaw02.WideTexts", spec := "wideTexts", apart := false }
def WideTextsSaid : Prop := wideTextsRow.holds Try.pinned (OpenSpec.ofChange wideTextsSpec)

/-- ITS FALSE NEIGHBOUR: 'it returns false'. Refute it at one input. -/
def wideTextsWrong : ChangeSpec := { name := "wideTexts", fn := fun _ => fun
  | [d1, d2] => { results := [.lit (.bool false)], args := [d1, d2] }
  | _ => none }
def WideTextsWrongFalsely : Prop := wideTextsRow.holds Try.pinned (OpenSpec.ofChange wideTextsWrong)

/-- 'shipyardlaw02.WideDivision': WHATEVER THE INPUT: true; the input reads as it did. -/
def wideDivisionSpec : ChangeSpec := { name := "wideDivision", fn := fun _ => fun
  | [d1, d2] => { results := [.lit (.bool true)], args := [d1, d2] }
  | _ => none }
def wideDivisionRow : OpenClaim := { program := "ytnpgikjahfhaoaa", sum := "7f2aa9436fc7281f596b8a9e0f51ee67f00213cbd17dd0744295ec541cf87054", func := "shipyard/shipyardlaw02.WideDivision", spec := "wideDivision", apart := false }
def WideDivisionSaid : Prop := wideDivisionRow.holds Try.pinned (OpenSpec.ofChange wideDivisionSpec)

/-- ITS FALSE NEIGHBOUR: 'it returns false'. Refute it at one input. -/
def wideDivisionWrong : ChangeSpec := { name := "wideDivision", fn := fun _ => fun
  | [d1, d2] => { results := [.lit (.bool false)], args := [d1, d2] }
  | _ => none }
def WideDivisionWrongFalsely : Prop := wideDivisionRow.holds Try.pinned (OpenSpec.ofChange wideDivisionWrong)

/-- 'shipyardlaw02.WideRing': WHATEVER THE INPUT: true; the input reads as it did. -/
def wideRingSpec : ChangeSpec := { name := "wideRing", fn := fun _ => fun
  | [d1, d2, d3] => { results := [.lit (.bool true)], args := [d1, d2, d3] }
  | _ => none }
def wideRingRow : OpenClaim := { program := "ytnpgikjahfhaoaa", sum := "7f2aa9436fc7281f596b8a9e0f51ee67f00213cbd17dd0744295ec541cf87054", func := "shipyard/shipyardlaw02.WideRing", spec := "wideRing", apart := false }
def WideRingSaid : Prop := wideRingRow.holds Try.pinned (OpenSpec.ofChange wideRingSpec)

/-- ITS FALSE NEIGHBOUR: 'it returns false'. Refute it at one input. -/
def wideRingWrong : ChangeSpec := { name := "wideRing", fn := fun _ => fun
  | [d1, d2, d3] => { results := [.lit (.bool false)], args := [d1, d2, d3] }
  | _ => none }
def WideRingWrongFalsely : Prop := wideRingRow.holds Try.pinned (OpenSpec.ofChange wideRingWrong)

/-- 'shipyardlaw02.WideDivisors': WHATEVER THE INPUT: true; the input reads as it did. -/
def wideDivisorsSpec : ChangeSpec := { name := "wideDivisors", fn := fun _ => fun
  | [d1, d2, d3] => { results := [.lit (.bool true)], args := [d1, d2, d3] }
  | _ => none }
def wideDivisorsRow : OpenClaim := { program := "ytnpgikjahfhaoaa", sum := "7f2aa9436fc7281f596b8a9e0f51ee67f00213cbd17dd0744295ec541cf87054", func := "shipyard/shipyardlaw02.WideDivisors", spec := "wideDivisors", apart := false }
def WideDivisorsSaid : Prop := wideDivisorsRow.holds Try.pinned (OpenSpec.ofChange wideDivisorsSpec)

/-- ITS FALSE NEIGHBOUR: 'it returns false'. Refute it at one input. -/
def wideDivisorsWrong : ChangeSpec := { name := "wideDivisors", fn := fun _ => fun
  | [d1, d2, d3] => { results := [.lit (.bool false)], args := [d1, d2, d3] }
  | _ => none }
def WideDivisorsWrongFalsely : Prop := wideDivisorsRow.holds Try.pinned (OpenSpec.ofChange wideDivisorsWrong)

/-- 'shipyardlaw02.WideRoundTrip': WHATEVER THE INPUT: true; the input reads as it did. -/
def wideRoundTripSpec : ChangeSpec := { name := "wideRoundTrip", fn := fun _ => fun
  | [d1, d2] => { results := [.lit (.bool true)], args := [d1, d2] }
  | _ => none }
def wideRoundTripRow : OpenClaim := { program := "ytnpgikjahfhaoaa", sum := "7f2aa9436fc7281f596b8a9e0f51ee67f00213cbd17dd0744295ec541cf87054", func := "shipyard/shipyardlaw02.WideRoundTrip", spec := "wideRoundTrip", apart := false }
def WideRoundTripSaid : Prop := wideRoundTripRow.holds Try.pinned (OpenSpec.ofChange wideRoundTripSpec)

/-- ITS FALSE NEIGHBOUR: 'it returns false'. Refute it at one input. -/
def wideRoundTripWrong : ChangeSpec := { name := "wideRoundTrip", fn := fun _ => fun
  | [d1, d2] => { results := [.lit (.bool false)], args := [d1, d2] }
  | _ => none }
def WideRoundTripWrongFalsely : Prop := wideRoundTripRow.holds Try.pinned (OpenSpec.ofChange wideRoundTripWrong)

/- THE SECOND FORM. 'bulk': how many values and letters a reading holds, each counted each time it is reached (what is shared counts as often as it is met; a slice's spare places count too). A statement '..UptoSaid' is the law's where the arguments, and the package variables that the reading takes, are together of bulk at most 1048576: NARROWER than '..Said'. Prove '..Said' where nothing that the law and all that it calls make is longer than what came in: it says more and counts as full. Else prove '..UptoSaid'. A law counts once. -/
mutual
def uptoBulk {H : Type} : DataW H → Nat
  | .lit (.string bytes) => bytes.length + 1
  | .lit _ => 1
  | .nil => 1
  | .ptr d => uptoBulk d + 1
  | .slice elems spare => uptoBulkAll elems + uptoBulkAll spare + 1
  | .agg parts => uptoBulkAll parts + 1
  | .iface _ d => uptoBulk d + 1
  | .map entries => uptoBulkEntries entries + 1
  | .held _ => 1
def uptoBulkAll {H : Type} : List (DataW H) → Nat
  | [] => 0
  | d :: r => uptoBulk d + uptoBulkAll r
def uptoBulkEntries {H : Type} : List (Lit × DataW H) → Nat
  | [] => 0
  | x :: r => uptoBulkEntry x + uptoBulkEntries r
def uptoBulkEntry {H : Type} : Lit × DataW H → Nat
  | (.string bytes, d) => bytes.length + uptoBulk d + 1
  | (_, d) => uptoBulk d + 1
 end
def uptoSmall : (H : Type) → List (DataW H) → Bool := fun _ ds => decide (uptoBulkAll ds ≤ 1048576)
def OpenSpec.upto (s : _root_.Go.ChangeSpec) : _root_.Go.OpenSpec := { _root_.Go.OpenSpec.ofChange s with cond := some uptoSmall }

/-- 'shipyardlaw02.WideInts', WHERE WHAT IT READS IS OF BULK AT MOST 1048576: true; the input reads as it did. -/
def wideIntsUptoRow : OpenClaim := { program := "ytnpgikjahfhaoaa", sum := "7f2aa9436fc7281f596b8a9e0f51ee67f00213cbd17dd0744295ec541cf87054", func := "shipyard/shipyardlaw02.WideInts", spec := "wideInts", apart := false, narrowed := true }
def WideIntsUptoSaid : Prop := wideIntsUptoRow.holds Try.pinned (OpenSpec.upto wideIntsSpec)

/-- 'shipyardlaw02.WideCompares', WHERE WHAT IT READS IS OF BULK AT MOST 1048576: true; the input reads as it did. -/
def wideComparesUptoRow : OpenClaim := { program := "ytnpgikjahfhaoaa", sum := "7f2aa9436fc7281f596b8a9e0f51ee67f00213cbd17dd0744295ec541cf87054", func := "shipyard/shipyardlaw02.WideCompares", spec := "wideCompares", apart := false, narrowed := true }
def WideComparesUptoSaid : Prop := wideComparesUptoRow.holds Try.pinned (OpenSpec.upto wideComparesSpec)

/-- 'shipyardlaw02.WideSums', WHERE WHAT IT READS IS OF BULK AT MOST 1048576: true; the input reads as it did. -/
def wideSumsUptoRow : OpenClaim := { program := "ytnpgikjahfhaoaa", sum := "7f2aa9436fc7281f596b8a9e0f51ee67f00213cbd17dd0744295ec541cf87054", func := "shipyard/shipyardlaw02.WideSums", spec := "wideSums", apart := false, narrowed := true }
def WideSumsUptoSaid : Prop := wideSumsUptoRow.holds Try.pinned (OpenSpec.upto wideSumsSpec)

/-- 'shipyardlaw02.WideProducts', WHERE WHAT IT READS IS OF BULK AT MOST 1048576: true; the input reads as it did. -/
def wideProductsUptoRow : OpenClaim := { program := "ytnpgikjahfhaoaa", sum := "7f2aa9436fc7281f596b8a9e0f51ee67f00213cbd17dd0744295ec541cf87054", func := "shipyard/shipyardlaw02.WideProducts", spec := "wideProducts", apart := false, narrowed := true }
def WideProductsUptoSaid : Prop := wideProductsUptoRow.holds Try.pinned (OpenSpec.upto wideProductsSpec)

/-- 'shipyardlaw02.WideQuotients', WHERE WHAT IT READS IS OF BULK AT MOST 1048576: true; the input reads as it did. -/
def wideQuotientsUptoRow : OpenClaim := { program := "ytnpgikjahfhaoaa", sum := "7f2aa9436fc7281f596b8a9e0f51ee67f00213cbd17dd0744295ec541cf87054", func := "shipyard/shipyardlaw02.WideQuotients", spec := "wideQuotients", apart := false, narrowed := true }
def WideQuotientsUptoSaid : Prop := wideQuotientsUptoRow.holds Try.pinned (OpenSpec.upto wideQuotientsSpec)

/-- 'shipyardlaw02.WideTexts', WHERE WHAT IT READS IS OF BULK AT MOST 1048576: true; the input reads as it did. -/
def wideTextsUptoRow : OpenClaim := { program := "ytnpgikjahfhaoaa", sum := "7f2aa9436fc7281f596b8a9e0f51ee67f00213cbd17dd0744295ec541cf87054", func := "shipyard/shipyardlaw02.WideTexts", spec := "wideTexts", apart := false, narrowed := true }
def WideTextsUptoSaid : Prop := wideTextsUptoRow.holds Try.pinned (OpenSpec.upto wideTextsSpec)

/-- 'shipyardlaw02.WideDivision', WHERE WHAT IT READS IS OF BULK AT MOST 1048576: true; the input reads as it did. -/
def wideDivisionUptoRow : OpenClaim := { program := "ytnpgikjahfhaoaa", sum := "7f2aa9436fc7281f596b8a9e0f51ee67f00213cbd17dd0744295ec541cf87054", func := "shipyard/shipyardlaw02.WideDivision", spec := "wideDivision", apart := false, narrowed := true }
def WideDivisionUptoSaid : Prop := wideDivisionUptoRow.holds Try.pinned (OpenSpec.upto wideDivisionSpec)

/-- 'shipyardlaw02.WideRing', WHERE WHAT IT READS IS OF BULK AT MOST 1048576: true; the input reads as it did. -/
def wideRingUptoRow : OpenClaim := { program := "ytnpgikjahfhaoaa", sum := "7f2aa9436fc7281f596b8a9e0f51ee67f00213cbd17dd0744295ec541cf87054", func := "shipyard/shipyardlaw02.WideRing", spec := "wideRing", apart := false, narrowed := true }
def WideRingUptoSaid : Prop := wideRingUptoRow.holds Try.pinned (OpenSpec.upto wideRingSpec)

/-- 'shipyardlaw02.WideDivisors', WHERE WHAT IT READS IS OF BULK AT MOST 1048576: true; the input reads as it did. -/
def wideDivisorsUptoRow : OpenClaim := { program := "ytnpgikjahfhaoaa", sum := "7f2aa9436fc7281f596b8a9e0f51ee67f00213cbd17dd0744295ec541cf87054", func := "shipyard/shipyardlaw02.WideDivisors", spec := "wideDivisors", apart := false, narrowed := true }
def WideDivisorsUptoSaid : Prop := wideDivisorsUptoRow.holds Try.pinned (OpenSpec.upto wideDivisorsSpec)

/-- 'shipyardlaw02.WideRoundTrip', WHERE WHAT IT READS IS OF BULK AT MOST 1048576: true; the input reads as it did. -/
def wideRoundTripUptoRow : OpenClaim := { program := "ytnpgikjahfhaoaa", sum := "7f2aa9436fc7281f596b8a9e0f51ee67f00213cbd17dd0744295ec541cf87054", func := "shipyard/shipyardlaw02.WideRoundTrip", spec := "wideRoundTrip", apart := false, narrowed := true }
def WideRoundTripUptoSaid : Prop := wideRoundTripUptoRow.holds Try.pinned (OpenSpec.upto wideRoundTripSpec)

end Rows
end Go.Proofs.Ytnpgikjahfhaoaa
