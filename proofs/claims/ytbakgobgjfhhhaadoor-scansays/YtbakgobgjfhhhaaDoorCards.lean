/-
  DERIVED. GIVEN WITH THE SEED: THE CARDS: each row of YtbakgobgjfhhhaaDoorRows.lean that lists a variable, with what it lists TIED to the program's text (the seventh form; the later family's looks); each row that meets fmt, with fmt's text TOLD by the authors' own Lean function (tested against real Go, not proved from fmt's source: count such statements apart). THE CARD IS WHAT COUNTS. Prove the row's statement (the work); the ties are given (YtbakgobgjfhhhaaDoorTie.lean); close each card by the builder's one call (the guide's Derived/Test/ToyasCard.lean, 'card_holds'). Laid BY PROGRAM, IN A SANDBOX (cutbox-door.mjs). By AI agents, Wed Nov 11 2026. No macro, syntax, notation, axiom, sorry.
-/
import Derived.Test.YtbakgobgjfhhhaaDoorRows
import GoSem.ClaimSeven
namespace Go.Proofs.YtbakgobgjfhhhaaDoor
namespace Rows

/-- THE TIED CARD OF 'linenlaw.PointWrites'. -/
def pointWritesCard : Claim7 := { stood := { row := pointWritesRow, standIns := [], harness := (true, "95254644c736985ac9e0efd87ba322f96b624194363482bd5938a6e679eafe1b"), looks := false }, kinds := [], alts := [], laidByText := true, laidKinds := [.data], laidTests := true, laidLooks := .later }
def PointWritesCardSaid : Prop := Claim7.holds Tryd.pinned (.plain (OpenSpec.ofChange pointWritesSpec)) pointWritesCard

/-- THE TIED CARD OF 'linenlaw.PointReads'. -/
def pointReadsCard : Claim7 := { stood := { row := pointReadsRow, standIns := [], harness := (true, "95254644c736985ac9e0efd87ba322f96b624194363482bd5938a6e679eafe1b"), looks := false }, kinds := [], alts := [], laidByText := true, laidKinds := [.data], laidTests := true, laidLooks := .later }
def PointReadsCardSaid : Prop := Claim7.holds Tryd.pinned (.plain (OpenSpec.ofChange pointReadsSpec)) pointReadsCard

/-- THE TIED CARD OF 'linenlaw.PointNewest'. -/
def pointNewestCard : Claim7 := { stood := { row := pointNewestRow, standIns := [], harness := (true, "95254644c736985ac9e0efd87ba322f96b624194363482bd5938a6e679eafe1b"), looks := false }, kinds := [], alts := [], laidByText := true, laidKinds := [.data], laidTests := true, laidLooks := .later }
def PointNewestCardSaid : Prop := Claim7.holds Tryd.pinned (.plain (OpenSpec.ofChange pointNewestSpec)) pointNewestCard

/-- THE TIED CARD OF 'linenlaw.ScanSays'. -/
def scanSaysCard : Claim7 := { stood := { row := scanSaysRow, standIns := [], harness := (true, "95254644c736985ac9e0efd87ba322f96b624194363482bd5938a6e679eafe1b"), looks := false }, kinds := [], alts := [], laidByText := true, laidKinds := [.data], laidTests := true, laidLooks := .later }
def ScanSaysCardSaid : Prop := Claim7.holds Tryd.pinned (.plain (OpenSpec.ofChange scanSaysSpec)) scanSaysCard

/-- THE TIED CARD OF 'linenkeep.PointBack'. -/
def pointBackCard : Claim7 := { stood := { row := pointBackRow, standIns := [], harness := (true, "95254644c736985ac9e0efd87ba322f96b624194363482bd5938a6e679eafe1b"), looks := false }, kinds := [], alts := [], laidByText := true, laidKinds := [.data], laidTests := true, laidLooks := .later }
def PointBackCardSaid : Prop := Claim7.holds Tryd.pinned (.plain (OpenSpec.ofChange pointBackSpec)) pointBackCard

/-- THE TIED CARD OF 'linenkeep.PointTwins'. -/
def pointTwinsCard : Claim7 := { stood := { row := pointTwinsRow, standIns := [], harness := (true, "95254644c736985ac9e0efd87ba322f96b624194363482bd5938a6e679eafe1b"), looks := false }, kinds := [], alts := [], laidByText := true, laidKinds := [.data], laidTests := true, laidLooks := .later }
def PointTwinsCardSaid : Prop := Claim7.holds Tryd.pinned (.plain (OpenSpec.ofChange pointTwinsSpec)) pointTwinsCard

/-- THE SECOND FORM's CARD OF 'linenlaw.PointWrites'. -/
def pointWritesUptoCard : Claim7 := { stood := { row := pointWritesUptoRow, standIns := [], harness := (true, "95254644c736985ac9e0efd87ba322f96b624194363482bd5938a6e679eafe1b"), looks := false }, kinds := [], alts := [], laidByText := true, laidKinds := [.data], laidTests := true, laidLooks := .later }
def PointWritesUptoCardSaid : Prop := Claim7.holds Tryd.pinned (.plain (OpenSpec.upto pointWritesSpec)) pointWritesUptoCard

/-- THE SECOND FORM's CARD OF 'linenlaw.PointReads'. -/
def pointReadsUptoCard : Claim7 := { stood := { row := pointReadsUptoRow, standIns := [], harness := (true, "95254644c736985ac9e0efd87ba322f96b624194363482bd5938a6e679eafe1b"), looks := false }, kinds := [], alts := [], laidByText := true, laidKinds := [.data], laidTests := true, laidLooks := .later }
def PointReadsUptoCardSaid : Prop := Claim7.holds Tryd.pinned (.plain (OpenSpec.upto pointReadsSpec)) pointReadsUptoCard

/-- THE SECOND FORM's CARD OF 'linenlaw.PointNewest'. -/
def pointNewestUptoCard : Claim7 := { stood := { row := pointNewestUptoRow, standIns := [], harness := (true, "95254644c736985ac9e0efd87ba322f96b624194363482bd5938a6e679eafe1b"), looks := false }, kinds := [], alts := [], laidByText := true, laidKinds := [.data], laidTests := true, laidLooks := .later }
def PointNewestUptoCardSaid : Prop := Claim7.holds Tryd.pinned (.plain (OpenSpec.upto pointNewestSpec)) pointNewestUptoCard

/-- THE SECOND FORM's CARD OF 'linenlaw.ScanSays'. -/
def scanSaysUptoCard : Claim7 := { stood := { row := scanSaysUptoRow, standIns := [], harness := (true, "95254644c736985ac9e0efd87ba322f96b624194363482bd5938a6e679eafe1b"), looks := false }, kinds := [], alts := [], laidByText := true, laidKinds := [.data], laidTests := true, laidLooks := .later }
def ScanSaysUptoCardSaid : Prop := Claim7.holds Tryd.pinned (.plain (OpenSpec.upto scanSaysSpec)) scanSaysUptoCard

/-- THE SECOND FORM's CARD OF 'linenkeep.PointBack'. -/
def pointBackUptoCard : Claim7 := { stood := { row := pointBackUptoRow, standIns := [], harness := (true, "95254644c736985ac9e0efd87ba322f96b624194363482bd5938a6e679eafe1b"), looks := false }, kinds := [], alts := [], laidByText := true, laidKinds := [.data], laidTests := true, laidLooks := .later }
def PointBackUptoCardSaid : Prop := Claim7.holds Tryd.pinned (.plain (OpenSpec.upto pointBackSpec)) pointBackUptoCard

/-- THE SECOND FORM's CARD OF 'linenkeep.PointTwins'. -/
def pointTwinsUptoCard : Claim7 := { stood := { row := pointTwinsUptoRow, standIns := [], harness := (true, "95254644c736985ac9e0efd87ba322f96b624194363482bd5938a6e679eafe1b"), looks := false }, kinds := [], alts := [], laidByText := true, laidKinds := [.data], laidTests := true, laidLooks := .later }
def PointTwinsUptoCardSaid : Prop := Claim7.holds Tryd.pinned (.plain (OpenSpec.upto pointTwinsSpec)) pointTwinsUptoCard
end Rows
end Go.Proofs.YtbakgobgjfhhhaaDoor
