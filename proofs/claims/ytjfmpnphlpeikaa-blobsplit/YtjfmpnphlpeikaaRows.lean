/-
  No cell of these rows narrows 'for every input' (looked for: loops, veiled, ifaces, maps, wideKeys, modest, calm, conditions, laid).
  DERIVED. THE GIVEN ROWS OF THIS SEAT. 6 by the template 'for every input the law returns true; each argument reads behind the call as it read before'; 0 by the template 'total and deterministic' (their statements: YtjfmpnphlpeikaaTotals.lean).
  GIVEN WITH THE SEED: the statements are not yours to turn. If you find one false, say at which input.
  Laid BY PROGRAM, IN A SANDBOX (cutbox-rows.mjs): the forced cells as the released guide's own fill.sh prints them over the translation 649822f5fb62894f… (all of the seat's roots in one cut). By AI agents, Wed Nov 11 2026. No macro, syntax, notation, axiom, sorry.
-/
import Derived.Test.YtjfmpnphlpeikaaChecked
import GoSem.Claim
import GoSem.ClaimJoined
import GoSem.ClaimMapViews
import Derived.JoinedTies
import Derived.KernelRfl
namespace Go.Proofs.Ytjfmpnphlpeikaa
/- THE CELL 'sum', in the pinned program and in every row, IS THE sha256 OF THE DUMP (.gsa) THAT YtjfmpnphlpeikaaProg.lean LOADS. Nothing in Lean hashes anything: it is a label: what it is worth is what the hold of that sum in a sandbox is worth. -/
noncomputable def Try.pinned : Pinned := { name := "ytjfmpnphlpeikaa", sum := "649822f5fb62894ff2ad8b681787be0cd2959dfc6e15a66937783e9c27102a03", checked := Try.checked }
namespace Rows
def none {H : Type} : Left H := { results := [], args := [] }

/-- 'linenlaw.BlobWrites': WHATEVER THE INPUT: true; the input reads as it did. -/
def blobWritesSpec : ChangeSpec := { name := "blobWrites", fn := fun _ => fun
  | [d1, d2, d3] => { results := [.lit (.bool true)], args := [d1, d2, d3] }
  | _ => none }
def blobWritesRow : OpenClaim := { program := "ytjfmpnphlpeikaa", sum := "649822f5fb62894ff2ad8b681787be0cd2959dfc6e15a66937783e9c27102a03", func := "linenpress/linenlaw.BlobWrites", spec := "blobWrites", recurses := true, apart := false }
def BlobWritesSaid : Prop := blobWritesRow.holds Try.pinned (OpenSpec.ofChange blobWritesSpec)

/-- ITS FALSE NEIGHBOUR: 'it returns false'. Refute it at one input. -/
def blobWritesWrong : ChangeSpec := { name := "blobWrites", fn := fun _ => fun
  | [d1, d2, d3] => { results := [.lit (.bool false)], args := [d1, d2, d3] }
  | _ => none }
def BlobWritesWrongFalsely : Prop := blobWritesRow.holds Try.pinned (OpenSpec.ofChange blobWritesWrong)

/-- 'linenlaw.BlobReads': WHATEVER THE INPUT: true; the input reads as it did. -/
def blobReadsSpec : ChangeSpec := { name := "blobReads", fn := fun _ => fun
  | [d] => { results := [.lit (.bool true)], args := [d] }
  | _ => none }
def blobReadsRow : OpenClaim := { program := "ytjfmpnphlpeikaa", sum := "649822f5fb62894ff2ad8b681787be0cd2959dfc6e15a66937783e9c27102a03", func := "linenpress/linenlaw.BlobReads", spec := "blobReads", recurses := true, apart := false }
def BlobReadsSaid : Prop := blobReadsRow.holds Try.pinned (OpenSpec.ofChange blobReadsSpec)

/-- ITS FALSE NEIGHBOUR: 'it returns false'. Refute it at one input. -/
def blobReadsWrong : ChangeSpec := { name := "blobReads", fn := fun _ => fun
  | [d] => { results := [.lit (.bool false)], args := [d] }
  | _ => none }
def BlobReadsWrongFalsely : Prop := blobReadsRow.holds Try.pinned (OpenSpec.ofChange blobReadsWrong)

/-- 'linenlaw.BlobSplits': WHATEVER THE INPUT: true; the input reads as it did. -/
def blobSplitsSpec : ChangeSpec := { name := "blobSplits", fn := fun _ => fun
  | [d] => { results := [.lit (.bool true)], args := [d] }
  | _ => none }
def blobSplitsRow : OpenClaim := { program := "ytjfmpnphlpeikaa", sum := "649822f5fb62894ff2ad8b681787be0cd2959dfc6e15a66937783e9c27102a03", func := "linenpress/linenlaw.BlobSplits", spec := "blobSplits", recurses := true, apart := false }
def BlobSplitsSaid : Prop := blobSplitsRow.holds Try.pinned (OpenSpec.ofChange blobSplitsSpec)

/-- ITS FALSE NEIGHBOUR: 'it returns false'. Refute it at one input. -/
def blobSplitsWrong : ChangeSpec := { name := "blobSplits", fn := fun _ => fun
  | [d] => { results := [.lit (.bool false)], args := [d] }
  | _ => none }
def BlobSplitsWrongFalsely : Prop := blobSplitsRow.holds Try.pinned (OpenSpec.ofChange blobSplitsWrong)

/-- 'linenkeep.BlobBack': WHATEVER THE INPUT: true; the input reads as it did. -/
def blobBackSpec : ChangeSpec := { name := "blobBack", fn := fun _ => fun
  | [d1, d2] => { results := [.lit (.bool true)], args := [d1, d2] }
  | _ => none }
def blobBackRow : OpenClaim := { program := "ytjfmpnphlpeikaa", sum := "649822f5fb62894ff2ad8b681787be0cd2959dfc6e15a66937783e9c27102a03", func := "linenpress/linenkeep.BlobBack", spec := "blobBack", apart := false }
def BlobBackSaid : Prop := blobBackRow.holds Try.pinned (OpenSpec.ofChange blobBackSpec)

/-- ITS FALSE NEIGHBOUR: 'it returns false'. Refute it at one input. -/
def blobBackWrong : ChangeSpec := { name := "blobBack", fn := fun _ => fun
  | [d1, d2] => { results := [.lit (.bool false)], args := [d1, d2] }
  | _ => none }
def BlobBackWrongFalsely : Prop := blobBackRow.holds Try.pinned (OpenSpec.ofChange blobBackWrong)

/-- 'linenkeep.BlobOne': WHATEVER THE INPUT: true; the input reads as it did. -/
def blobOneSpec : ChangeSpec := { name := "blobOne", fn := fun _ => fun
  | [d1, d2] => { results := [.lit (.bool true)], args := [d1, d2] }
  | _ => none }
def blobOneRow : OpenClaim := { program := "ytjfmpnphlpeikaa", sum := "649822f5fb62894ff2ad8b681787be0cd2959dfc6e15a66937783e9c27102a03", func := "linenpress/linenkeep.BlobOne", spec := "blobOne", apart := false }
def BlobOneSaid : Prop := blobOneRow.holds Try.pinned (OpenSpec.ofChange blobOneSpec)

/-- ITS FALSE NEIGHBOUR: 'it returns false'. Refute it at one input. -/
def blobOneWrong : ChangeSpec := { name := "blobOne", fn := fun _ => fun
  | [d1, d2] => { results := [.lit (.bool false)], args := [d1, d2] }
  | _ => none }
def BlobOneWrongFalsely : Prop := blobOneRow.holds Try.pinned (OpenSpec.ofChange blobOneWrong)

/-- 'linenkeep.BlobSplit': WHATEVER THE INPUT: true; the input reads as it did. -/
def blobSplitSpec : ChangeSpec := { name := "blobSplit", fn := fun _ => fun
  | [d] => { results := [.lit (.bool true)], args := [d] }
  | _ => none }
def blobSplitRow : OpenClaim := { program := "ytjfmpnphlpeikaa", sum := "649822f5fb62894ff2ad8b681787be0cd2959dfc6e15a66937783e9c27102a03", func := "linenpress/linenkeep.BlobSplit", spec := "blobSplit", recurses := true, apart := false }
def BlobSplitSaid : Prop := blobSplitRow.holds Try.pinned (OpenSpec.ofChange blobSplitSpec)

/-- ITS FALSE NEIGHBOUR: 'it returns false'. Refute it at one input. -/
def blobSplitWrong : ChangeSpec := { name := "blobSplit", fn := fun _ => fun
  | [d] => { results := [.lit (.bool false)], args := [d] }
  | _ => none }
def BlobSplitWrongFalsely : Prop := blobSplitRow.holds Try.pinned (OpenSpec.ofChange blobSplitWrong)

/- THE SECOND FORM. 'bulk': how many values and letters a reading holds, each counted each time it is reached (what is shared counts as often as it is met; a slice's spare places count too). A statement '..UptoSaid' is the law's where the arguments, and the package variables that the reading takes, are together of bulk at most 1048576: NARROWER than '..Said'. Prove '..Said' where nothing that the law and all that it calls make is longer than what came in: it says more and counts as full. Else prove '..UptoSaid'. A law counts once. -/
mutual
def uptoBulk {H : Type} : DataW H → Nat
  | .lit (.string bytes) => bytes.length + 1
  | .lit _ => 1
  | .nil => 1
  | .ptr d => uptoBulk d + 1
  | .slice elems spare => uptoBulkAll elems + uptoBulkAll spare + 1
  | .agg parts => uptoBulkAll parts + 1
  | .iface _ d => uptoBulk d + 1
  | .map entries => uptoBulkEntries entries + 1
  | .held _ => 1
def uptoBulkAll {H : Type} : List (DataW H) → Nat
  | [] => 0
  | d :: r => uptoBulk d + uptoBulkAll r
def uptoBulkEntries {H : Type} : List (Lit × DataW H) → Nat
  | [] => 0
  | x :: r => uptoBulkEntry x + uptoBulkEntries r
def uptoBulkEntry {H : Type} : Lit × DataW H → Nat
  | (.string bytes, d) => bytes.length + uptoBulk d + 1
  | (_, d) => uptoBulk d + 1
 end
def uptoSmall : (H : Type) → List (DataW H) → Bool := fun _ ds => decide (uptoBulkAll ds ≤ 1048576)
def OpenSpec.upto (s : _root_.Go.ChangeSpec) : _root_.Go.OpenSpec := { _root_.Go.OpenSpec.ofChange s with cond := some uptoSmall }

/-- 'linenlaw.BlobWrites', WHERE WHAT IT READS IS OF BULK AT MOST 1048576: true; the input reads as it did. -/
def blobWritesUptoRow : OpenClaim := { program := "ytjfmpnphlpeikaa", sum := "649822f5fb62894ff2ad8b681787be0cd2959dfc6e15a66937783e9c27102a03", func := "linenpress/linenlaw.BlobWrites", spec := "blobWrites", recurses := true, apart := false, narrowed := true }
def BlobWritesUptoSaid : Prop := blobWritesUptoRow.holds Try.pinned (OpenSpec.upto blobWritesSpec)

/-- 'linenlaw.BlobReads', WHERE WHAT IT READS IS OF BULK AT MOST 1048576: true; the input reads as it did. -/
def blobReadsUptoRow : OpenClaim := { program := "ytjfmpnphlpeikaa", sum := "649822f5fb62894ff2ad8b681787be0cd2959dfc6e15a66937783e9c27102a03", func := "linenpress/linenlaw.BlobReads", spec := "blobReads", recurses := true, apart := false, narrowed := true }
def BlobReadsUptoSaid : Prop := blobReadsUptoRow.holds Try.pinned (OpenSpec.upto blobReadsSpec)

/-- 'linenlaw.BlobSplits', WHERE WHAT IT READS IS OF BULK AT MOST 1048576: true; the input reads as it did. -/
def blobSplitsUptoRow : OpenClaim := { program := "ytjfmpnphlpeikaa", sum := "649822f5fb62894ff2ad8b681787be0cd2959dfc6e15a66937783e9c27102a03", func := "linenpress/linenlaw.BlobSplits", spec := "blobSplits", recurses := true, apart := false, narrowed := true }
def BlobSplitsUptoSaid : Prop := blobSplitsUptoRow.holds Try.pinned (OpenSpec.upto blobSplitsSpec)

/-- 'linenkeep.BlobBack', WHERE WHAT IT READS IS OF BULK AT MOST 1048576: true; the input reads as it did. -/
def blobBackUptoRow : OpenClaim := { program := "ytjfmpnphlpeikaa", sum := "649822f5fb62894ff2ad8b681787be0cd2959dfc6e15a66937783e9c27102a03", func := "linenpress/linenkeep.BlobBack", spec := "blobBack", apart := false, narrowed := true }
def BlobBackUptoSaid : Prop := blobBackUptoRow.holds Try.pinned (OpenSpec.upto blobBackSpec)

/-- 'linenkeep.BlobOne', WHERE WHAT IT READS IS OF BULK AT MOST 1048576: true; the input reads as it did. -/
def blobOneUptoRow : OpenClaim := { program := "ytjfmpnphlpeikaa", sum := "649822f5fb62894ff2ad8b681787be0cd2959dfc6e15a66937783e9c27102a03", func := "linenpress/linenkeep.BlobOne", spec := "blobOne", apart := false, narrowed := true }
def BlobOneUptoSaid : Prop := blobOneUptoRow.holds Try.pinned (OpenSpec.upto blobOneSpec)

/-- 'linenkeep.BlobSplit', WHERE WHAT IT READS IS OF BULK AT MOST 1048576: true; the input reads as it did. -/
def blobSplitUptoRow : OpenClaim := { program := "ytjfmpnphlpeikaa", sum := "649822f5fb62894ff2ad8b681787be0cd2959dfc6e15a66937783e9c27102a03", func := "linenpress/linenkeep.BlobSplit", spec := "blobSplit", recurses := true, apart := false, narrowed := true }
def BlobSplitUptoSaid : Prop := blobSplitUptoRow.holds Try.pinned (OpenSpec.upto blobSplitSpec)

end Rows
end Go.Proofs.Ytjfmpnphlpeikaa
