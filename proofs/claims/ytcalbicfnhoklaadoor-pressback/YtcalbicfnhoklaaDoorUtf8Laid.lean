/- The listed tables, as the program's text lays them. -/
import Derived.Test.YtcalbicfnhoklaaDoorRows
import Derived.LaidMore
import Derived.Lay
namespace Go.Proofs.YtcalbicfnhoklaaDoor

def laidL : List (String × DataW Unit) := [("unicode/utf8.acceptRanges", Rows.laid_unicode_utf8_acceptRanges), ("unicode/utf8.first", Rows.laid_unicode_utf8_first)]
/-- nothing is asked of them -/
theorem none_of_laid {W : World} (_h : laidMetH Tryd.prog laidL W) : True := trivial
/-- A world in which they lie meets the condition. -/
theorem door_met (os : Os) (args : Array Value) : laidMetH Tryd.prog laidL ((World.laidAll Tryd.prog os laidL).forCall (fun _ _ => 0) ⟨#[], args, []⟩).memory := by
  rw [MakeChecks.laidMetH_plain _ _ _ (by kernel_rfl)]
  exact laidMet_laidAll _ (by kernel_rfl) (by kernel_rfl)
end Go.Proofs.YtcalbicfnhoklaaDoor
