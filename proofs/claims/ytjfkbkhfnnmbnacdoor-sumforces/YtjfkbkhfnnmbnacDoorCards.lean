/-
  DERIVED. GIVEN WITH THE SEED: THE CARDS: each row of YtjfkbkhfnnmbnacDoorRows.lean that lists a variable, with what it lists TIED to the program's text (the seventh form; the later family's looks); each row that meets fmt, with fmt's text TOLD by the authors' own Lean function (tested against real Go, not proved from fmt's source: count such statements apart). THE CARD IS WHAT COUNTS. Prove the row's statement (the work); the ties are given (YtjfkbkhfnnmbnacDoorTie.lean); close each card by the builder's one call (the guide's Derived/Test/ToyasCard.lean, 'card_holds'). Laid BY PROGRAM, IN A SANDBOX (cutbox-door.mjs). By AI agents, Wed Nov 11 2026. No macro, syntax, notation, axiom, sorry.
-/
import Derived.Test.YtjfkbkhfnnmbnacDoorRows
import GoSem.ClaimSeven
namespace Go.Proofs.YtjfkbkhfnnmbnacDoor
namespace Rows

/-- THE TIED CARD OF 'linenkeep.SumForces'. -/
def sumForcesCard : Claim7 := { stood := { row := sumForcesRow, standIns := [], harness := (true, "b31f76bf3fe6a35534704e39c695d6947a8db6c3fbb3892f1363363dc2f59c7f"), looks := false }, kinds := [], alts := [], laidByText := true, laidKinds := [.data], laidTests := true, laidLooks := .later }
def SumForcesCardSaid : Prop := Claim7.holds Tryd.pinned (.plain (OpenSpec.ofChange sumForcesSpec)) sumForcesCard

/-- THE SECOND FORM's CARD OF 'linenkeep.SumForces'. -/
def sumForcesUptoCard : Claim7 := { stood := { row := sumForcesUptoRow, standIns := [], harness := (true, "b31f76bf3fe6a35534704e39c695d6947a8db6c3fbb3892f1363363dc2f59c7f"), looks := false }, kinds := [], alts := [], laidByText := true, laidKinds := [.data], laidTests := true, laidLooks := .later }
def SumForcesUptoCardSaid : Prop := Claim7.holds Tryd.pinned (.plain (OpenSpec.upto sumForcesSpec)) sumForcesUptoCard
end Rows
end Go.Proofs.YtjfkbkhfnnmbnacDoor
