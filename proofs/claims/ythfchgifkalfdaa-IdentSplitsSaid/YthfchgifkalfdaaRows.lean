/-
  No cell of these rows narrows 'for every input' (looked for: loops, veiled, ifaces, maps, wideKeys, modest, calm, conditions, laid).
  DERIVED. THE GIVEN ROWS OF THIS SEAT. 8 by the template 'for every input the law returns true; each argument reads behind the call as it read before'; 0 by the template 'total and deterministic' (their statements: YthfchgifkalfdaaTotals.lean).
  GIVEN WITH THE SEED: the statements are not yours to turn. If you find one false, say at which input.
  Laid BY PROGRAM, IN A SANDBOX (cutbox-rows.mjs): the forced cells as the released guide's own fill.sh prints them over the translation 3904425c480a8cd1… (all of the seat's roots in one cut). By AI agents, Wed Nov 11 2026. No macro, syntax, notation, axiom, sorry.
-/
import Derived.Test.YthfchgifkalfdaaChecked
import GoSem.Claim
import GoSem.ClaimJoined
import GoSem.ClaimMapViews
import Derived.JoinedTies
import Derived.KernelRfl
namespace Go.Proofs.Ythfchgifkalfdaa
/- THE CELL 'sum', in the pinned program and in every row, IS THE sha256 OF THE DUMP (.gsa) THAT YthfchgifkalfdaaProg.lean LOADS. Nothing in Lean hashes anything: it is a label: what it is worth is what the hold of that sum in a sandbox is worth. -/
noncomputable def Try.pinned : Pinned := { name := "ythfchgifkalfdaa", sum := "3904425c480a8cd173de73eb5a0f4e83ca2ec69ea152b50a733c6736b392c457", checked := Try.checked }
namespace Rows
def none {H : Type} : Left H := { results := [], args := [] }

/-- 'shipyardlaw04.IdentNames': WHATEVER THE INPUT: true; the input reads as it did. -/
def identNamesSpec : ChangeSpec := { name := "identNames", fn := fun _ => fun
  | [d] => { results := [.lit (.bool true)], args := [d] }
  | _ => none }
def identNamesRow : OpenClaim := { program := "ythfchgifkalfdaa", sum := "3904425c480a8cd173de73eb5a0f4e83ca2ec69ea152b50a733c6736b392c457", func := "shipyard/shipyardlaw04.IdentNames", spec := "identNames", apart := false }
def IdentNamesSaid : Prop := identNamesRow.holds Try.pinned (OpenSpec.ofChange identNamesSpec)

/-- ITS FALSE NEIGHBOUR: 'it returns false'. Refute it at one input. -/
def identNamesWrong : ChangeSpec := { name := "identNames", fn := fun _ => fun
  | [d] => { results := [.lit (.bool false)], args := [d] }
  | _ => none }
def IdentNamesWrongFalsely : Prop := identNamesRow.holds Try.pinned (OpenSpec.ofChange identNamesWrong)

/-- 'shipyardlaw04.IdentSplits': WHATEVER THE INPUT: true; the input reads as it did. -/
def identSplitsSpec : ChangeSpec := { name := "identSplits", fn := fun _ => fun
  | [d] => { results := [.lit (.bool true)], args := [d] }
  | _ => none }
def identSplitsRow : OpenClaim := { program := "ythfchgifkalfdaa", sum := "3904425c480a8cd173de73eb5a0f4e83ca2ec69ea152b50a733c6736b392c457", func := "shipyard/shipyardlaw04.IdentSplits", spec := "identSplits", apart := false }
def IdentSplitsSaid : Prop := identSplitsRow.holds Try.pinned (OpenSpec.ofChange identSplitsSpec)

/-- ITS FALSE NEIGHBOUR: 'it returns false'. Refute it at one input. -/
def identSplitsWrong : ChangeSpec := { name := "identSplits", fn := fun _ => fun
  | [d] => { results := [.lit (.bool false)], args := [d] }
  | _ => none }
def IdentSplitsWrongFalsely : Prop := identSplitsRow.holds Try.pinned (OpenSpec.ofChange identSplitsWrong)

/-- 'shipyardlaw04.IdentJoins': WHATEVER THE INPUT: true; the input reads as it did. -/
def identJoinsSpec : ChangeSpec := { name := "identJoins", fn := fun _ => fun
  | [d] => { results := [.lit (.bool true)], args := [d] }
  | _ => none }
def identJoinsRow : OpenClaim := { program := "ythfchgifkalfdaa", sum := "3904425c480a8cd173de73eb5a0f4e83ca2ec69ea152b50a733c6736b392c457", func := "shipyard/shipyardlaw04.IdentJoins", spec := "identJoins", apart := false }
def IdentJoinsSaid : Prop := identJoinsRow.holds Try.pinned (OpenSpec.ofChange identJoinsSpec)

/-- ITS FALSE NEIGHBOUR: 'it returns false'. Refute it at one input. -/
def identJoinsWrong : ChangeSpec := { name := "identJoins", fn := fun _ => fun
  | [d] => { results := [.lit (.bool false)], args := [d] }
  | _ => none }
def IdentJoinsWrongFalsely : Prop := identJoinsRow.holds Try.pinned (OpenSpec.ofChange identJoinsWrong)

/-- 'shipyardlaw04.IdentCompares': WHATEVER THE INPUT: true; the input reads as it did. -/
def identComparesSpec : ChangeSpec := { name := "identCompares", fn := fun _ => fun
  | [d1, d2] => { results := [.lit (.bool true)], args := [d1, d2] }
  | _ => none }
def identComparesRow : OpenClaim := { program := "ythfchgifkalfdaa", sum := "3904425c480a8cd173de73eb5a0f4e83ca2ec69ea152b50a733c6736b392c457", func := "shipyard/shipyardlaw04.IdentCompares", spec := "identCompares", apart := false }
def IdentComparesSaid : Prop := identComparesRow.holds Try.pinned (OpenSpec.ofChange identComparesSpec)

/-- ITS FALSE NEIGHBOUR: 'it returns false'. Refute it at one input. -/
def identComparesWrong : ChangeSpec := { name := "identCompares", fn := fun _ => fun
  | [d1, d2] => { results := [.lit (.bool false)], args := [d1, d2] }
  | _ => none }
def IdentComparesWrongFalsely : Prop := identComparesRow.holds Try.pinned (OpenSpec.ofChange identComparesWrong)

/-- 'shipyardlaw04.IdentOrders': WHATEVER THE INPUT: true; the input reads as it did. -/
def identOrdersSpec : ChangeSpec := { name := "identOrders", fn := fun _ => fun
  | [d1, d2, d3] => { results := [.lit (.bool true)], args := [d1, d2, d3] }
  | _ => none }
def identOrdersRow : OpenClaim := { program := "ythfchgifkalfdaa", sum := "3904425c480a8cd173de73eb5a0f4e83ca2ec69ea152b50a733c6736b392c457", func := "shipyard/shipyardlaw04.IdentOrders", spec := "identOrders", apart := false }
def IdentOrdersSaid : Prop := identOrdersRow.holds Try.pinned (OpenSpec.ofChange identOrdersSpec)

/-- ITS FALSE NEIGHBOUR: 'it returns false'. Refute it at one input. -/
def identOrdersWrong : ChangeSpec := { name := "identOrders", fn := fun _ => fun
  | [d1, d2, d3] => { results := [.lit (.bool false)], args := [d1, d2, d3] }
  | _ => none }
def IdentOrdersWrongFalsely : Prop := identOrdersRow.holds Try.pinned (OpenSpec.ofChange identOrdersWrong)

/-- 'shipyardlaw04.IdentSeals': WHATEVER THE INPUT: true; the input reads as it did. -/
def identSealsSpec : ChangeSpec := { name := "identSeals", fn := fun _ => fun
  | [d] => { results := [.lit (.bool true)], args := [d] }
  | _ => none }
def identSealsRow : OpenClaim := { program := "ythfchgifkalfdaa", sum := "3904425c480a8cd173de73eb5a0f4e83ca2ec69ea152b50a733c6736b392c457", func := "shipyard/shipyardlaw04.IdentSeals", spec := "identSeals", apart := false }
def IdentSealsSaid : Prop := identSealsRow.holds Try.pinned (OpenSpec.ofChange identSealsSpec)

/-- ITS FALSE NEIGHBOUR: 'it returns false'. Refute it at one input. -/
def identSealsWrong : ChangeSpec := { name := "identSeals", fn := fun _ => fun
  | [d] => { results := [.lit (.bool false)], args := [d] }
  | _ => none }
def IdentSealsWrongFalsely : Prop := identSealsRow.holds Try.pinned (OpenSpec.ofChange identSealsWrong)

/-- 'shipyardlaw04.IdentOpens': WHATEVER THE INPUT: true; the input reads as it did. -/
def identOpensSpec : ChangeSpec := { name := "identOpens", fn := fun _ => fun
  | [d] => { results := [.lit (.bool true)], args := [d] }
  | _ => none }
def identOpensRow : OpenClaim := { program := "ythfchgifkalfdaa", sum := "3904425c480a8cd173de73eb5a0f4e83ca2ec69ea152b50a733c6736b392c457", func := "shipyard/shipyardlaw04.IdentOpens", spec := "identOpens", apart := false }
def IdentOpensSaid : Prop := identOpensRow.holds Try.pinned (OpenSpec.ofChange identOpensSpec)

/-- ITS FALSE NEIGHBOUR: 'it returns false'. Refute it at one input. -/
def identOpensWrong : ChangeSpec := { name := "identOpens", fn := fun _ => fun
  | [d] => { results := [.lit (.bool false)], args := [d] }
  | _ => none }
def IdentOpensWrongFalsely : Prop := identOpensRow.holds Try.pinned (OpenSpec.ofChange identOpensWrong)

/-- 'shipyardlaw04.IdentDetects': WHATEVER THE INPUT: true; the input reads as it did. -/
def identDetectsSpec : ChangeSpec := { name := "identDetects", fn := fun _ => fun
  | [d1, d2, d3] => { results := [.lit (.bool true)], args := [d1, d2, d3] }
  | _ => none }
def identDetectsRow : OpenClaim := { program := "ythfchgifkalfdaa", sum := "3904425c480a8cd173de73eb5a0f4e83ca2ec69ea152b50a733c6736b392c457", func := "shipyard/shipyardlaw04.IdentDetects", spec := "identDetects", apart := false }
def IdentDetectsSaid : Prop := identDetectsRow.holds Try.pinned (OpenSpec.ofChange identDetectsSpec)

/-- ITS FALSE NEIGHBOUR: 'it returns false'. Refute it at one input. -/
def identDetectsWrong : ChangeSpec := { name := "identDetects", fn := fun _ => fun
  | [d1, d2, d3] => { results := [.lit (.bool false)], args := [d1, d2, d3] }
  | _ => none }
def IdentDetectsWrongFalsely : Prop := identDetectsRow.holds Try.pinned (OpenSpec.ofChange identDetectsWrong)

/- THE SECOND FORM. 'bulk': how many values and letters a reading holds, each counted each time it is reached (what is shared counts as often as it is met; a slice's spare places count too). A statement '..UptoSaid' is the law's where the arguments, and the package variables that the reading takes, are together of bulk at most 1048576: NARROWER than '..Said'. Prove '..Said' where nothing that the law and all that it calls make is longer than what came in: it says more and counts as full. Else prove '..UptoSaid'. A law counts once. -/
mutual
def uptoBulk {H : Type} : DataW H → Nat
  | .lit (.string bytes) => bytes.length + 1
  | .lit _ => 1
  | .nil => 1
  | .ptr d => uptoBulk d + 1
  | .slice elems spare => uptoBulkAll elems + uptoBulkAll spare + 1
  | .agg parts => uptoBulkAll parts + 1
  | .iface _ d => uptoBulk d + 1
  | .map entries => uptoBulkEntries entries + 1
  | .held _ => 1
def uptoBulkAll {H : Type} : List (DataW H) → Nat
  | [] => 0
  | d :: r => uptoBulk d + uptoBulkAll r
def uptoBulkEntries {H : Type} : List (Lit × DataW H) → Nat
  | [] => 0
  | x :: r => uptoBulkEntry x + uptoBulkEntries r
def uptoBulkEntry {H : Type} : Lit × DataW H → Nat
  | (.string bytes, d) => bytes.length + uptoBulk d + 1
  | (_, d) => uptoBulk d + 1
 end
def uptoSmall : (H : Type) → List (DataW H) → Bool := fun _ ds => decide (uptoBulkAll ds ≤ 1048576)
def OpenSpec.upto (s : _root_.Go.ChangeSpec) : _root_.Go.OpenSpec := { _root_.Go.OpenSpec.ofChange s with cond := some uptoSmall }

/-- 'shipyardlaw04.IdentNames', WHERE WHAT IT READS IS OF BULK AT MOST 1048576: true; the input reads as it did. -/
def identNamesUptoRow : OpenClaim := { program := "ythfchgifkalfdaa", sum := "3904425c480a8cd173de73eb5a0f4e83ca2ec69ea152b50a733c6736b392c457", func := "shipyard/shipyardlaw04.IdentNames", spec := "identNames", apart := false, narrowed := true }
def IdentNamesUptoSaid : Prop := identNamesUptoRow.holds Try.pinned (OpenSpec.upto identNamesSpec)

/-- 'shipyardlaw04.IdentSplits', WHERE WHAT IT READS IS OF BULK AT MOST 1048576: true; the input reads as it did. -/
def identSplitsUptoRow : OpenClaim := { program := "ythfchgifkalfdaa", sum := "3904425c480a8cd173de73eb5a0f4e83ca2ec69ea152b50a733c6736b392c457", func := "shipyard/shipyardlaw04.IdentSplits", spec := "identSplits", apart := false, narrowed := true }
def IdentSplitsUptoSaid : Prop := identSplitsUptoRow.holds Try.pinned (OpenSpec.upto identSplitsSpec)

/-- 'shipyardlaw04.IdentJoins', WHERE WHAT IT READS IS OF BULK AT MOST 1048576: true; the input reads as it did. -/
def identJoinsUptoRow : OpenClaim := { program := "ythfchgifkalfdaa", sum := "3904425c480a8cd173de73eb5a0f4e83ca2ec69ea152b50a733c6736b392c457", func := "shipyard/shipyardlaw04.IdentJoins", spec := "identJoins", apart := false, narrowed := true }
def IdentJoinsUptoSaid : Prop := identJoinsUptoRow.holds Try.pinned (OpenSpec.upto identJoinsSpec)

/-- 'shipyardlaw04.IdentCompares', WHERE WHAT IT READS IS OF BULK AT MOST 1048576: true; the input reads as it did. -/
def identComparesUptoRow : OpenClaim := { program := "ythfchgifkalfdaa", sum := "3904425c480a8cd173de73eb5a0f4e83ca2ec69ea152b50a733c6736b392c457", func := "shipyard/shipyardlaw04.IdentCompares", spec := "identCompares", apart := false, narrowed := true }
def IdentComparesUptoSaid : Prop := identComparesUptoRow.holds Try.pinned (OpenSpec.upto identComparesSpec)

/-- 'shipyardlaw04.IdentOrders', WHERE WHAT IT READS IS OF BULK AT MOST 1048576: true; the input reads as it did. -/
def identOrdersUptoRow : OpenClaim := { program := "ythfchgifkalfdaa", sum := "3904425c480a8cd173de73eb5a0f4e83ca2ec69ea152b50a733c6736b392c457", func := "shipyard/shipyardlaw04.IdentOrders", spec := "identOrders", apart := false, narrowed := true }
def IdentOrdersUptoSaid : Prop := identOrdersUptoRow.holds Try.pinned (OpenSpec.upto identOrdersSpec)

/-- 'shipyardlaw04.IdentSeals', WHERE WHAT IT READS IS OF BULK AT MOST 1048576: true; the input reads as it did. -/
def identSealsUptoRow : OpenClaim := { program := "ythfchgifkalfdaa", sum := "3904425c480a8cd173de73eb5a0f4e83ca2ec69ea152b50a733c6736b392c457", func := "shipyard/shipyardlaw04.IdentSeals", spec := "identSeals", apart := false, narrowed := true }
def IdentSealsUptoSaid : Prop := identSealsUptoRow.holds Try.pinned (OpenSpec.upto identSealsSpec)

/-- 'shipyardlaw04.IdentOpens', WHERE WHAT IT READS IS OF BULK AT MOST 1048576: true; the input reads as it did. -/
def identOpensUptoRow : OpenClaim := { program := "ythfchgifkalfdaa", sum := "3904425c480a8cd173de73eb5a0f4e83ca2ec69ea152b50a733c6736b392c457", func := "shipyard/shipyardlaw04.IdentOpens", spec := "identOpens", apart := false, narrowed := true }
def IdentOpensUptoSaid : Prop := identOpensUptoRow.holds Try.pinned (OpenSpec.upto identOpensSpec)

/-- 'shipyardlaw04.IdentDetects', WHERE WHAT IT READS IS OF BULK AT MOST 1048576: true; the input reads as it did. -/
def identDetectsUptoRow : OpenClaim := { program := "ythfchgifkalfdaa", sum := "3904425c480a8cd173de73eb5a0f4e83ca2ec69ea152b50a733c6736b392c457", func := "shipyard/shipyardlaw04.IdentDetects", spec := "identDetects", apart := false, narrowed := true }
def IdentDetectsUptoSaid : Prop := identDetectsUptoRow.holds Try.pinned (OpenSpec.upto identDetectsSpec)

end Rows
end Go.Proofs.Ythfchgifkalfdaa
