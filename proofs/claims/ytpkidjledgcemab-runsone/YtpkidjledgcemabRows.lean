/-
  No cell of these rows narrows 'for every input' (looked for: loops, veiled, ifaces, maps, wideKeys, modest, calm, conditions, laid).
  DERIVED. THE GIVEN ROWS OF THIS SEAT. 6 by the template 'for every input the law returns true; each argument reads behind the call as it read before'; 0 by the template 'total and deterministic' (their statements: YtpkidjledgcemabTotals.lean).
  GIVEN WITH THE SEED: the statements are not yours to turn. If you find one false, say at which input.
  Laid BY PROGRAM, IN A SANDBOX (cutbox-rows.mjs): the forced cells as the released guide's own fill.sh prints them over the translation 77759bbd268fa3a3… (all of the seat's roots in one cut). By AI agents, Wed Nov 11 2026. No macro, syntax, notation, axiom, sorry.
-/
import Derived.Test.YtpkidjledgcemabChecked
import GoSem.Claim
import GoSem.ClaimJoined
import GoSem.ClaimMapViews
import Derived.JoinedTies
import Derived.KernelRfl
namespace Go.Proofs.Ytpkidjledgcemab
/- THE CELL 'sum', in the pinned program and in every row, IS THE sha256 OF THE DUMP (.gsa) THAT YtpkidjledgcemabProg.lean LOADS. Nothing in Lean hashes anything: it is a label: what it is worth is what the hold of that sum in a sandbox is worth. -/
noncomputable def Try.pinned : Pinned := { name := "ytpkidjledgcemab", sum := "77759bbd268fa3a3b4c19e95366f46bd5bd764bd2b7b6aa60f6b5df2c0a1540b", checked := Try.checked }
namespace Rows
def none {H : Type} : Left H := { results := [], args := [] }

/-- 'linenkeep.HuffOrders': WHATEVER THE INPUT: true; the input reads as it did. -/
def huffOrdersSpec : ChangeSpec := { name := "huffOrders", fn := fun _ => fun
  | [d1, d2] => { results := [.lit (.bool true)], args := [d1, d2] }
  | _ => none }
def huffOrdersRow : OpenClaim := { program := "ytpkidjledgcemab", sum := "77759bbd268fa3a3b4c19e95366f46bd5bd764bd2b7b6aa60f6b5df2c0a1540b", func := "linenpress/linenkeep.HuffOrders", spec := "huffOrders", unfollowed := true, recurses := true, apart := false }
def HuffOrdersSaid : Prop := huffOrdersRow.holds Try.pinned (OpenSpec.ofChange huffOrdersSpec)

/-- ITS FALSE NEIGHBOUR: 'it returns false'. Refute it at one input. -/
def huffOrdersWrong : ChangeSpec := { name := "huffOrders", fn := fun _ => fun
  | [d1, d2] => { results := [.lit (.bool false)], args := [d1, d2] }
  | _ => none }
def HuffOrdersWrongFalsely : Prop := huffOrdersRow.holds Try.pinned (OpenSpec.ofChange huffOrdersWrong)

/-- 'linenkeep.HuffMerges': WHATEVER THE INPUT: true; the input reads as it did. -/
def huffMergesSpec : ChangeSpec := { name := "huffMerges", fn := fun _ => fun
  | [d] => { results := [.lit (.bool true)], args := [d] }
  | _ => none }
def huffMergesRow : OpenClaim := { program := "ytpkidjledgcemab", sum := "77759bbd268fa3a3b4c19e95366f46bd5bd764bd2b7b6aa60f6b5df2c0a1540b", func := "linenpress/linenkeep.HuffMerges", spec := "huffMerges", unfollowed := true, recurses := true, apart := false }
def HuffMergesSaid : Prop := huffMergesRow.holds Try.pinned (OpenSpec.ofChange huffMergesSpec)

/-- ITS FALSE NEIGHBOUR: 'it returns false'. Refute it at one input. -/
def huffMergesWrong : ChangeSpec := { name := "huffMerges", fn := fun _ => fun
  | [d] => { results := [.lit (.bool false)], args := [d] }
  | _ => none }
def HuffMergesWrongFalsely : Prop := huffMergesRow.holds Try.pinned (OpenSpec.ofChange huffMergesWrong)

/-- 'linenkeep.HuffFlat': WHATEVER THE INPUT: true; the input reads as it did. -/
def huffFlatSpec : ChangeSpec := { name := "huffFlat", fn := fun _ => fun
  | [d1, d2, d3, d4] => { results := [.lit (.bool true)], args := [d1, d2, d3, d4] }
  | _ => none }
def huffFlatRow : OpenClaim := { program := "ytpkidjledgcemab", sum := "77759bbd268fa3a3b4c19e95366f46bd5bd764bd2b7b6aa60f6b5df2c0a1540b", func := "linenpress/linenkeep.HuffFlat", spec := "huffFlat", unfollowed := true, recurses := true, apart := false }
def HuffFlatSaid : Prop := huffFlatRow.holds Try.pinned (OpenSpec.ofChange huffFlatSpec)

/-- ITS FALSE NEIGHBOUR: 'it returns false'. Refute it at one input. -/
def huffFlatWrong : ChangeSpec := { name := "huffFlat", fn := fun _ => fun
  | [d1, d2, d3, d4] => { results := [.lit (.bool false)], args := [d1, d2, d3, d4] }
  | _ => none }
def HuffFlatWrongFalsely : Prop := huffFlatRow.holds Try.pinned (OpenSpec.ofChange huffFlatWrong)

/-- 'linenkeep.RunsBack': WHATEVER THE INPUT: true; the input reads as it did. -/
def runsBackSpec : ChangeSpec := { name := "runsBack", fn := fun _ => fun
  | [d1, d2] => { results := [.lit (.bool true)], args := [d1, d2] }
  | _ => none }
def runsBackRow : OpenClaim := { program := "ytpkidjledgcemab", sum := "77759bbd268fa3a3b4c19e95366f46bd5bd764bd2b7b6aa60f6b5df2c0a1540b", func := "linenpress/linenkeep.RunsBack", spec := "runsBack", apart := false }
def RunsBackSaid : Prop := runsBackRow.holds Try.pinned (OpenSpec.ofChange runsBackSpec)

/-- ITS FALSE NEIGHBOUR: 'it returns false'. Refute it at one input. -/
def runsBackWrong : ChangeSpec := { name := "runsBack", fn := fun _ => fun
  | [d1, d2] => { results := [.lit (.bool false)], args := [d1, d2] }
  | _ => none }
def RunsBackWrongFalsely : Prop := runsBackRow.holds Try.pinned (OpenSpec.ofChange runsBackWrong)

/-- 'linenkeep.RunsOne': WHATEVER THE INPUT: true; the input reads as it did. -/
def runsOneSpec : ChangeSpec := { name := "runsOne", fn := fun _ => fun
  | [d] => { results := [.lit (.bool true)], args := [d] }
  | _ => none }
def runsOneRow : OpenClaim := { program := "ytpkidjledgcemab", sum := "77759bbd268fa3a3b4c19e95366f46bd5bd764bd2b7b6aa60f6b5df2c0a1540b", func := "linenpress/linenkeep.RunsOne", spec := "runsOne", apart := false }
def RunsOneSaid : Prop := runsOneRow.holds Try.pinned (OpenSpec.ofChange runsOneSpec)

/-- ITS FALSE NEIGHBOUR: 'it returns false'. Refute it at one input. -/
def runsOneWrong : ChangeSpec := { name := "runsOne", fn := fun _ => fun
  | [d] => { results := [.lit (.bool false)], args := [d] }
  | _ => none }
def RunsOneWrongFalsely : Prop := runsOneRow.holds Try.pinned (OpenSpec.ofChange runsOneWrong)

/-- 'linenkeep.RunsShort': WHATEVER THE INPUT: true; the input reads as it did. -/
def runsShortSpec : ChangeSpec := { name := "runsShort", fn := fun _ => fun
  | [d] => { results := [.lit (.bool true)], args := [d] }
  | _ => none }
def runsShortRow : OpenClaim := { program := "ytpkidjledgcemab", sum := "77759bbd268fa3a3b4c19e95366f46bd5bd764bd2b7b6aa60f6b5df2c0a1540b", func := "linenpress/linenkeep.RunsShort", spec := "runsShort", apart := false }
def RunsShortSaid : Prop := runsShortRow.holds Try.pinned (OpenSpec.ofChange runsShortSpec)

/-- ITS FALSE NEIGHBOUR: 'it returns false'. Refute it at one input. -/
def runsShortWrong : ChangeSpec := { name := "runsShort", fn := fun _ => fun
  | [d] => { results := [.lit (.bool false)], args := [d] }
  | _ => none }
def RunsShortWrongFalsely : Prop := runsShortRow.holds Try.pinned (OpenSpec.ofChange runsShortWrong)

/- THE SECOND FORM. 'bulk': how many values and letters a reading holds, each counted each time it is reached (what is shared counts as often as it is met; a slice's spare places count too). A statement '..UptoSaid' is the law's where the arguments, and the package variables that the reading takes, are together of bulk at most 1048576: NARROWER than '..Said'. Prove '..Said' where nothing that the law and all that it calls make is longer than what came in: it says more and counts as full. Else prove '..UptoSaid'. A law counts once. -/
mutual
def uptoBulk {H : Type} : DataW H → Nat
  | .lit (.string bytes) => bytes.length + 1
  | .lit _ => 1
  | .nil => 1
  | .ptr d => uptoBulk d + 1
  | .slice elems spare => uptoBulkAll elems + uptoBulkAll spare + 1
  | .agg parts => uptoBulkAll parts + 1
  | .iface _ d => uptoBulk d + 1
  | .map entries => uptoBulkEntries entries + 1
  | .held _ => 1
def uptoBulkAll {H : Type} : List (DataW H) → Nat
  | [] => 0
  | d :: r => uptoBulk d + uptoBulkAll r
def uptoBulkEntries {H : Type} : List (Lit × DataW H) → Nat
  | [] => 0
  | x :: r => uptoBulkEntry x + uptoBulkEntries r
def uptoBulkEntry {H : Type} : Lit × DataW H → Nat
  | (.string bytes, d) => bytes.length + uptoBulk d + 1
  | (_, d) => uptoBulk d + 1
 end
def uptoSmall : (H : Type) → List (DataW H) → Bool := fun _ ds => decide (uptoBulkAll ds ≤ 1048576)
def OpenSpec.upto (s : _root_.Go.ChangeSpec) : _root_.Go.OpenSpec := { _root_.Go.OpenSpec.ofChange s with cond := some uptoSmall }

/-- 'linenkeep.HuffOrders', WHERE WHAT IT READS IS OF BULK AT MOST 1048576: true; the input reads as it did. -/
def huffOrdersUptoRow : OpenClaim := { program := "ytpkidjledgcemab", sum := "77759bbd268fa3a3b4c19e95366f46bd5bd764bd2b7b6aa60f6b5df2c0a1540b", func := "linenpress/linenkeep.HuffOrders", spec := "huffOrders", unfollowed := true, recurses := true, apart := false, narrowed := true }
def HuffOrdersUptoSaid : Prop := huffOrdersUptoRow.holds Try.pinned (OpenSpec.upto huffOrdersSpec)

/-- 'linenkeep.HuffMerges', WHERE WHAT IT READS IS OF BULK AT MOST 1048576: true; the input reads as it did. -/
def huffMergesUptoRow : OpenClaim := { program := "ytpkidjledgcemab", sum := "77759bbd268fa3a3b4c19e95366f46bd5bd764bd2b7b6aa60f6b5df2c0a1540b", func := "linenpress/linenkeep.HuffMerges", spec := "huffMerges", unfollowed := true, recurses := true, apart := false, narrowed := true }
def HuffMergesUptoSaid : Prop := huffMergesUptoRow.holds Try.pinned (OpenSpec.upto huffMergesSpec)

/-- 'linenkeep.HuffFlat', WHERE WHAT IT READS IS OF BULK AT MOST 1048576: true; the input reads as it did. -/
def huffFlatUptoRow : OpenClaim := { program := "ytpkidjledgcemab", sum := "77759bbd268fa3a3b4c19e95366f46bd5bd764bd2b7b6aa60f6b5df2c0a1540b", func := "linenpress/linenkeep.HuffFlat", spec := "huffFlat", unfollowed := true, recurses := true, apart := false, narrowed := true }
def HuffFlatUptoSaid : Prop := huffFlatUptoRow.holds Try.pinned (OpenSpec.upto huffFlatSpec)

/-- 'linenkeep.RunsBack', WHERE WHAT IT READS IS OF BULK AT MOST 1048576: true; the input reads as it did. -/
def runsBackUptoRow : OpenClaim := { program := "ytpkidjledgcemab", sum := "77759bbd268fa3a3b4c19e95366f46bd5bd764bd2b7b6aa60f6b5df2c0a1540b", func := "linenpress/linenkeep.RunsBack", spec := "runsBack", apart := false, narrowed := true }
def RunsBackUptoSaid : Prop := runsBackUptoRow.holds Try.pinned (OpenSpec.upto runsBackSpec)

/-- 'linenkeep.RunsOne', WHERE WHAT IT READS IS OF BULK AT MOST 1048576: true; the input reads as it did. -/
def runsOneUptoRow : OpenClaim := { program := "ytpkidjledgcemab", sum := "77759bbd268fa3a3b4c19e95366f46bd5bd764bd2b7b6aa60f6b5df2c0a1540b", func := "linenpress/linenkeep.RunsOne", spec := "runsOne", apart := false, narrowed := true }
def RunsOneUptoSaid : Prop := runsOneUptoRow.holds Try.pinned (OpenSpec.upto runsOneSpec)

/-- 'linenkeep.RunsShort', WHERE WHAT IT READS IS OF BULK AT MOST 1048576: true; the input reads as it did. -/
def runsShortUptoRow : OpenClaim := { program := "ytpkidjledgcemab", sum := "77759bbd268fa3a3b4c19e95366f46bd5bd764bd2b7b6aa60f6b5df2c0a1540b", func := "linenpress/linenkeep.RunsShort", spec := "runsShort", apart := false, narrowed := true }
def RunsShortUptoSaid : Prop := runsShortUptoRow.holds Try.pinned (OpenSpec.upto runsShortSpec)

end Rows
end Go.Proofs.Ytpkidjledgcemab
