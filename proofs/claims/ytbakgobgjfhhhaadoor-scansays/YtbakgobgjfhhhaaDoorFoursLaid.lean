import Derived.Test.YtbakgobgjfhhhaaDoorPsaa
import Derived.Lib.LaidTab
import Derived.LaidMore

/- The listed table holds what four steps make of each half byte. -/
namespace Go.Proofs.YtbakgobgjfhhhaaDoor

theorem gFours : Tryd.prog.globalNamed "linenpress/sum.fours" = some 0 := by kernel_rfl
theorem tFours : (Tryd.prog.globals[0]?).map (·.type) = some 116 := by kernel_rfl
theorem cellsWord : Tryd.prog.cellsOf 89 = 1 := by kernel_rfl
theorem cellsFours : Tryd.prog.cellsOf 116 = 16 := by kernel_rfl
def foursZ : List Int := [0, 274646895, 549293790, 820201905, 1098587580, 1361435347, 1640403810, 1905808397, 2197175160, 2460548119, 2722870694, 2987750089, 3280807620, 3553878443, 3811616794, 4084100981]
theorem foursZ_at : ∀ i, i < 16 → foursZ.getD i 0 = B (fours i) := by decide
def laidL : List (String × DataW Unit) := [("linenpress/sum.fours", Rows.laid_linenpress_sum_fours)]

theorem tab_of_laid {W : World} (h : laidMetH Tryd.prog laidL W) : Tab W := by
  rw [MakeChecks.laidMetH_plain _ _ _ (by kernel_rfl)] at h
  have hT := Lib.tabIs_of_head (k := .u32) (zs := foursZ) (rest := []) gFours tFours Tryd.underlying116 Tryd.underlying89 cellsWord cellsFours h
  intro i hi
  rw [hT.cell gFours i hi, foursZ_at i hi]

/-- The door's own heap meets the condition. -/
theorem door_met (os : Os) (args : Array Value) : laidMetH Tryd.prog laidL ((World.doorLaid Tryd.prog 400 os).forCall (fun _ _ => 0) ⟨#[], args, []⟩).memory :=
  laidMetH_of_parts3 (fuel := 8) (laidMet_of_run' 8 (by kernel_rfl) (by kernel_rfl)) (by kernel_rfl) (by kernel_rfl)
end Go.Proofs.YtbakgobgjfhhhaaDoor
