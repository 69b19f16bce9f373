/-
  DERIVED. GIVEN WITH THE SEED: THE CARDS: each row of YtcalbicfnhoklaaDoorRows.lean that lists a variable, with what it lists TIED to the program's text (the seventh form; the later family's looks); each row that meets fmt, with fmt's text TOLD by the authors' own Lean function (tested against real Go, not proved from fmt's source: count such statements apart). THE CARD IS WHAT COUNTS. Prove the row's statement (the work); the ties are given (YtcalbicfnhoklaaDoorTie.lean); close each card by the builder's one call (the guide's Derived/Test/ToyasCard.lean, 'card_holds'). Laid BY PROGRAM, IN A SANDBOX (cutbox-door.mjs). By AI agents, Wed Nov 11 2026. No macro, syntax, notation, axiom, sorry.
-/
import Derived.Test.YtcalbicfnhoklaaDoorRows
import GoSem.ClaimSeven
namespace Go.Proofs.YtcalbicfnhoklaaDoor
namespace Rows

/-- THE TIED CARD OF 'linenkeep.PressBack'. -/
def pressBackCard : Claim7 := { stood := { row := pressBackRow, standIns := [], harness := (true, "517f7ac9dd374dcebd7a7c695c4f1c21f977fa41fc1447656820f1041a3f4f70"), looks := false }, kinds := [], alts := [], laidByText := true, laidKinds := [.data, .pinned], laidTests := true, laidLooks := .later }
def PressBackCardSaid : Prop := Claim7.holds Tryd.pinned (.plain (OpenSpec.ofChange pressBackSpec)) pressBackCard

/-- THE TIED CARD OF 'linenkeep.PressShort'. -/
def pressShortCard : Claim7 := { stood := { row := pressShortRow, standIns := [], harness := (true, "517f7ac9dd374dcebd7a7c695c4f1c21f977fa41fc1447656820f1041a3f4f70"), looks := false }, kinds := [], alts := [], laidByText := true, laidKinds := [.data, .pinned], laidTests := true, laidLooks := .later }
def PressShortCardSaid : Prop := Claim7.holds Tryd.pinned (.plain (OpenSpec.ofChange pressShortSpec)) pressShortCard

/-- THE TIED CARD OF 'linenkeep.PressAlike'. -/
def pressAlikeCard : Claim7 := { stood := { row := pressAlikeRow, standIns := [], harness := (true, "517f7ac9dd374dcebd7a7c695c4f1c21f977fa41fc1447656820f1041a3f4f70"), looks := false }, kinds := [], alts := [], laidByText := true, laidKinds := [.data, .pinned], laidTests := true, laidLooks := .later }
def PressAlikeCardSaid : Prop := Claim7.holds Tryd.pinned (.plain (OpenSpec.ofChange pressAlikeSpec)) pressAlikeCard

/-- THE SECOND FORM's CARD OF 'linenkeep.PressBack'. -/
def pressBackUptoCard : Claim7 := { stood := { row := pressBackUptoRow, standIns := [], harness := (true, "517f7ac9dd374dcebd7a7c695c4f1c21f977fa41fc1447656820f1041a3f4f70"), looks := false }, kinds := [], alts := [], laidByText := true, laidKinds := [.data, .pinned], laidTests := true, laidLooks := .later }
def PressBackUptoCardSaid : Prop := Claim7.holds Tryd.pinned (.plain (OpenSpec.upto pressBackSpec)) pressBackUptoCard

/-- THE SECOND FORM's CARD OF 'linenkeep.PressShort'. -/
def pressShortUptoCard : Claim7 := { stood := { row := pressShortUptoRow, standIns := [], harness := (true, "517f7ac9dd374dcebd7a7c695c4f1c21f977fa41fc1447656820f1041a3f4f70"), looks := false }, kinds := [], alts := [], laidByText := true, laidKinds := [.data, .pinned], laidTests := true, laidLooks := .later }
def PressShortUptoCardSaid : Prop := Claim7.holds Tryd.pinned (.plain (OpenSpec.upto pressShortSpec)) pressShortUptoCard

/-- THE SECOND FORM's CARD OF 'linenkeep.PressAlike'. -/
def pressAlikeUptoCard : Claim7 := { stood := { row := pressAlikeUptoRow, standIns := [], harness := (true, "517f7ac9dd374dcebd7a7c695c4f1c21f977fa41fc1447656820f1041a3f4f70"), looks := false }, kinds := [], alts := [], laidByText := true, laidKinds := [.data, .pinned], laidTests := true, laidLooks := .later }
def PressAlikeUptoCardSaid : Prop := Claim7.holds Tryd.pinned (.plain (OpenSpec.upto pressAlikeSpec)) pressAlikeUptoCard
end Rows
end Go.Proofs.YtcalbicfnhoklaaDoor
