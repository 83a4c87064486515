/-
  The listed variable of layer 6's rows: from the condition on it to what the walks ask, and a start that meets it.
-/
import Derived.Test.YtandcacobahmbaaDoorDgTab
import Derived.Test.YtandcacobahmbaaDoorRows
import Derived.ProofKit
import Derived.LaidMore
import Derived.Lib.LaidTab
import Derived.Stop.Joined
namespace Go.Proofs.YtandcacobahmbaaDoor.Dg
open Go.ChangeShapes Go.WideShapes Go.ChangeAt Go.RowKit

theorem gHalves : Tryd.prog.globalNamed "shipyard/digest.halves" = some 0 := by kernel_rfl
theorem tHalves : (Tryd.prog.globals[0]?).map (·.type) = some 58 := by kernel_rfl
theorem cellsT : Tryd.prog.cellsOf 58 = 16 := by kernel_rfl
theorem cellsE : Tryd.prog.cellsOf 22 = 1 := by kernel_rfl
abbrev laidL : List (String × DataW Unit) := [("shipyard/digest.halves", Rows.laid_shipyard_digest_halves)]
theorem laid_is : (Rows.laid_shipyard_digest_halves : DataW Unit) = Lib.tabData .u32 (halfT.map fun (n : Nat) => (n : Int)) := rfl
theorem halves_of_laid {W : World} (h : laidMetH Tryd.prog laidL W) : Halves W := by
  rw [MakeChecks.laidMetH_plain _ _ _ (by kernel_rfl)] at h
  unfold laidL at h
  rw [laid_is] at h
  have hT := Lib.tabIs_of_head gHalves tHalves Tryd.underlying58 Tryd.underlying22 cellsE cellsT h
  have hc : ∀ m, m < 16 → W.cell? ⟨0, m, none⟩ = some (.int .u32 (halfT.getD m 0 : Int)) := fun m hm => by
    rw [hT.cell gHalves m (by simpa [halfT] using hm)]
    congr 2
    simp only [List.getD, List.getElem?_map]
    cases halfT[m]? <;> rfl
  exact ⟨World.block_lt_of_cell? W _ (hc 0 (by decide)), hc⟩
/-- The door's own heap meets the condition. -/
theorem door_met (os : Os) (args : Array Value) : laidMetH Tryd.prog laidL ((World.doorLaid Tryd.prog 400 os).forCall (fun _ _ => 0) ⟨#[], args, []⟩).memory :=
  laidMetH_of_parts3 (fuel := 8) (laidMet_of_run' 8 (by kernel_rfl) (by kernel_rfl)) (by kernel_rfl) (by kernel_rfl)
end Go.Proofs.YtandcacobahmbaaDoor.Dg
