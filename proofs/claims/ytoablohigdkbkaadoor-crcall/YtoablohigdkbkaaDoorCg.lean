/-
  From the row's condition on the table to what the walks ask; the witness's world.
-/
import Derived.Test.YtoablohigdkbkaaDoorCb
import Derived.Test.YtoablohigdkbkaaDoorTie
import Derived.Test.YtoablohigdkbkaaDoorCards
import Derived.ProofKit
import Derived.LaidMore
import Derived.OpenShut
import Derived.Stop.Joined
import Derived.Lib.LaidTab
import Derived.SevenTiedAt
namespace Go.Proofs.YtoablohigdkbkaaDoor
open Go.ChangeShapes Go.WideShapes Go.ChangeAt Go.WideMaps Go.WideElems Go.RowKit

theorem own : ownKnob Tryd.prog.godebug = none := by kernel_rfl
theorem gSteps : Tryd.prog.globalNamed "glacis/crc.steps" = some 0 := by kernel_rfl
theorem tSteps : (Tryd.prog.globals[0]?).map (·.type) = some 37 := by kernel_rfl
theorem c24 : Tryd.prog.cellsOf 24 = 1 := by kernel_rfl
theorem c37 : Tryd.prog.cellsOf 37 = 16 := by kernel_rfl

def laid1 : List (String × DataW Unit) := [("glacis/crc.steps", Rows.laid_glacis_crc_steps)]

/-- The door's own heap meets the condition. -/
theorem door_met (os : Os) (args : Array Value) : laidMetH Tryd.prog laid1 ((World.doorLaid Tryd.prog 14 os).forCall (fun _ _ => 0) ⟨#[], args, []⟩).memory :=
  laidMetH_of_parts3 (fuel := 8) (laidMet_of_run' 8 (by kernel_rfl) (by kernel_rfl)) (by kernel_rfl) (by kernel_rfl)

theorem of_laid {W : World} (h : laidMetH Tryd.prog laid1 W) : Tab W := by
  rw [MakeChecks.laidMetH_plain _ _ _ (by kernel_rfl)] at h
  have hT := Lib.tabIs_of_head (zs := PlainCrc.tab.map fun (n : Nat) => (n : Int)) (k := .u32) (rest := []) gSteps tSteps Tryd.underlying37 Tryd.underlying24 c24 c37 h
  refine ⟨?_, fun i hi => ?_⟩
  · have := hT.cell gSteps 0 (by decide)
    rcases Nat.lt_or_ge 0 W.heap.size with h | h
    · exact h
    · simp [World.cell?, Array.getElem?_eq_none h] at this
  · rw [hT.cell gSteps i (by simpa [PlainCrc.tab] using hi)]
    have all : ∀ j : Fin 16, (PlainCrc.tab.map fun (n : Nat) => (n : Int)).getD j.val 0 = ((PlainCrc.tabAt j.val : Nat) : Int) := by decide
    rw [all ⟨i, hi⟩]

end Go.Proofs.YtoablohigdkbkaaDoor
