/-
  No cell of these rows narrows 'for every input' (looked for: loops, veiled, ifaces, maps, wideKeys, modest, calm, conditions, laid).
  DERIVED. THE GIVEN ROWS OF THIS SEAT. 4 by the template 'for every input the law returns true; each argument reads behind the call as it read before'; 0 by the template 'total and deterministic' (their statements: YtbailfianjmflabTotals.lean).
  GIVEN WITH THE SEED: the statements are not yours to turn. If you find one false, say at which input.
  Laid BY PROGRAM, IN A SANDBOX (cutbox-rows.mjs): the forced cells as the released guide's own fill.sh prints them over the translation 9db841baea9d6820… (all of the seat's roots in one cut). By AI agents, Wed Nov 11 2026. No macro, syntax, notation, axiom, sorry.
-/
import Derived.Test.YtbailfianjmflabChecked
import GoSem.Claim
import GoSem.ClaimJoined
import GoSem.ClaimMapViews
import Derived.JoinedTies
import Derived.KernelRfl
namespace Go.Proofs.Ytbailfianjmflab
/- THE CELL 'sum', in the pinned program and in every row, IS THE sha256 OF THE DUMP (.gsa) THAT YtbailfianjmflabProg.lean LOADS. Nothing in Lean hashes anything: it is a label: what it is worth is what the hold of that sum in a sandbox is worth. -/
noncomputable def Try.pinned : Pinned := { name := "ytbailfianjmflab", sum := "9db841baea9d6820ea1cd55c6d4aa12dde8bcb51c9e114ebf94447cf3ca4d0e1", checked := Try.checked }
namespace Rows
def none {H : Type} : Left H := { results := [], args := [] }

/-- 'linenkeep.InodeBack': WHATEVER THE INPUT: true; the input reads as it did. -/
def inodeBackSpec : ChangeSpec := { name := "inodeBack", fn := fun _ => fun
  | [d1, d2] => { results := [.lit (.bool true)], args := [d1, d2] }
  | _ => none }
def inodeBackRow : OpenClaim := { program := "ytbailfianjmflab", sum := "9db841baea9d6820ea1cd55c6d4aa12dde8bcb51c9e114ebf94447cf3ca4d0e1", func := "linenpress/linenkeep.InodeBack", spec := "inodeBack", apart := false }
def InodeBackSaid : Prop := inodeBackRow.holds Try.pinned (OpenSpec.ofChange inodeBackSpec)

/-- ITS FALSE NEIGHBOUR: 'it returns false'. Refute it at one input. -/
def inodeBackWrong : ChangeSpec := { name := "inodeBack", fn := fun _ => fun
  | [d1, d2] => { results := [.lit (.bool false)], args := [d1, d2] }
  | _ => none }
def InodeBackWrongFalsely : Prop := inodeBackRow.holds Try.pinned (OpenSpec.ofChange inodeBackWrong)

/-- 'linenkeep.ImapBack': WHATEVER THE INPUT: true; the input reads as it did. -/
def imapBackSpec : ChangeSpec := { name := "imapBack", fn := fun _ => fun
  | [d1, d2] => { results := [.lit (.bool true)], args := [d1, d2] }
  | _ => none }
def imapBackRow : OpenClaim := { program := "ytbailfianjmflab", sum := "9db841baea9d6820ea1cd55c6d4aa12dde8bcb51c9e114ebf94447cf3ca4d0e1", func := "linenpress/linenkeep.ImapBack", spec := "imapBack", apart := false }
def ImapBackSaid : Prop := imapBackRow.holds Try.pinned (OpenSpec.ofChange imapBackSpec)

/-- ITS FALSE NEIGHBOUR: 'it returns false'. Refute it at one input. -/
def imapBackWrong : ChangeSpec := { name := "imapBack", fn := fun _ => fun
  | [d1, d2] => { results := [.lit (.bool false)], args := [d1, d2] }
  | _ => none }
def ImapBackWrongFalsely : Prop := imapBackRow.holds Try.pinned (OpenSpec.ofChange imapBackWrong)

/-- 'linenkeep.ImapTurns': WHATEVER THE INPUT: true; the input reads as it did. -/
def imapTurnsSpec : ChangeSpec := { name := "imapTurns", fn := fun _ => fun
  | [d1, d2] => { results := [.lit (.bool true)], args := [d1, d2] }
  | _ => none }
def imapTurnsRow : OpenClaim := { program := "ytbailfianjmflab", sum := "9db841baea9d6820ea1cd55c6d4aa12dde8bcb51c9e114ebf94447cf3ca4d0e1", func := "linenpress/linenkeep.ImapTurns", spec := "imapTurns", apart := false }
def ImapTurnsSaid : Prop := imapTurnsRow.holds Try.pinned (OpenSpec.ofChange imapTurnsSpec)

/-- ITS FALSE NEIGHBOUR: 'it returns false'. Refute it at one input. -/
def imapTurnsWrong : ChangeSpec := { name := "imapTurns", fn := fun _ => fun
  | [d1, d2] => { results := [.lit (.bool false)], args := [d1, d2] }
  | _ => none }
def ImapTurnsWrongFalsely : Prop := imapTurnsRow.holds Try.pinned (OpenSpec.ofChange imapTurnsWrong)

/-- 'linenkeep.ImapOwn': WHATEVER THE INPUT: true; the input reads as it did. -/
def imapOwnSpec : ChangeSpec := { name := "imapOwn", fn := fun _ => fun
  | [d1, d2, d3] => { results := [.lit (.bool true)], args := [d1, d2, d3] }
  | _ => none }
def imapOwnRow : OpenClaim := { program := "ytbailfianjmflab", sum := "9db841baea9d6820ea1cd55c6d4aa12dde8bcb51c9e114ebf94447cf3ca4d0e1", func := "linenpress/linenkeep.ImapOwn", spec := "imapOwn", apart := false }
def ImapOwnSaid : Prop := imapOwnRow.holds Try.pinned (OpenSpec.ofChange imapOwnSpec)

/-- ITS FALSE NEIGHBOUR: 'it returns false'. Refute it at one input. -/
def imapOwnWrong : ChangeSpec := { name := "imapOwn", fn := fun _ => fun
  | [d1, d2, d3] => { results := [.lit (.bool false)], args := [d1, d2, d3] }
  | _ => none }
def ImapOwnWrongFalsely : Prop := imapOwnRow.holds Try.pinned (OpenSpec.ofChange imapOwnWrong)

/- THE SECOND FORM. 'bulk': how many values and letters a reading holds, each counted each time it is reached (what is shared counts as often as it is met; a slice's spare places count too). A statement '..UptoSaid' is the law's where the arguments, and the package variables that the reading takes, are together of bulk at most 1048576: NARROWER than '..Said'. Prove '..Said' where nothing that the law and all that it calls make is longer than what came in: it says more and counts as full. Else prove '..UptoSaid'. A law counts once. -/
mutual
def uptoBulk {H : Type} : DataW H → Nat
  | .lit (.string bytes) => bytes.length + 1
  | .lit _ => 1
  | .nil => 1
  | .ptr d => uptoBulk d + 1
  | .slice elems spare => uptoBulkAll elems + uptoBulkAll spare + 1
  | .agg parts => uptoBulkAll parts + 1
  | .iface _ d => uptoBulk d + 1
  | .map entries => uptoBulkEntries entries + 1
  | .held _ => 1
def uptoBulkAll {H : Type} : List (DataW H) → Nat
  | [] => 0
  | d :: r => uptoBulk d + uptoBulkAll r
def uptoBulkEntries {H : Type} : List (Lit × DataW H) → Nat
  | [] => 0
  | x :: r => uptoBulkEntry x + uptoBulkEntries r
def uptoBulkEntry {H : Type} : Lit × DataW H → Nat
  | (.string bytes, d) => bytes.length + uptoBulk d + 1
  | (_, d) => uptoBulk d + 1
 end
def uptoSmall : (H : Type) → List (DataW H) → Bool := fun _ ds => decide (uptoBulkAll ds ≤ 1048576)
def OpenSpec.upto (s : _root_.Go.ChangeSpec) : _root_.Go.OpenSpec := { _root_.Go.OpenSpec.ofChange s with cond := some uptoSmall }

/-- 'linenkeep.InodeBack', WHERE WHAT IT READS IS OF BULK AT MOST 1048576: true; the input reads as it did. -/
def inodeBackUptoRow : OpenClaim := { program := "ytbailfianjmflab", sum := "9db841baea9d6820ea1cd55c6d4aa12dde8bcb51c9e114ebf94447cf3ca4d0e1", func := "linenpress/linenkeep.InodeBack", spec := "inodeBack", apart := false, narrowed := true }
def InodeBackUptoSaid : Prop := inodeBackUptoRow.holds Try.pinned (OpenSpec.upto inodeBackSpec)

/-- 'linenkeep.ImapBack', WHERE WHAT IT READS IS OF BULK AT MOST 1048576: true; the input reads as it did. -/
def imapBackUptoRow : OpenClaim := { program := "ytbailfianjmflab", sum := "9db841baea9d6820ea1cd55c6d4aa12dde8bcb51c9e114ebf94447cf3ca4d0e1", func := "linenpress/linenkeep.ImapBack", spec := "imapBack", apart := false, narrowed := true }
def ImapBackUptoSaid : Prop := imapBackUptoRow.holds Try.pinned (OpenSpec.upto imapBackSpec)

/-- 'linenkeep.ImapTurns', WHERE WHAT IT READS IS OF BULK AT MOST 1048576: true; the input reads as it did. -/
def imapTurnsUptoRow : OpenClaim := { program := "ytbailfianjmflab", sum := "9db841baea9d6820ea1cd55c6d4aa12dde8bcb51c9e114ebf94447cf3ca4d0e1", func := "linenpress/linenkeep.ImapTurns", spec := "imapTurns", apart := false, narrowed := true }
def ImapTurnsUptoSaid : Prop := imapTurnsUptoRow.holds Try.pinned (OpenSpec.upto imapTurnsSpec)

/-- 'linenkeep.ImapOwn', WHERE WHAT IT READS IS OF BULK AT MOST 1048576: true; the input reads as it did. -/
def imapOwnUptoRow : OpenClaim := { program := "ytbailfianjmflab", sum := "9db841baea9d6820ea1cd55c6d4aa12dde8bcb51c9e114ebf94447cf3ca4d0e1", func := "linenpress/linenkeep.ImapOwn", spec := "imapOwn", apart := false, narrowed := true }
def ImapOwnUptoSaid : Prop := imapOwnUptoRow.holds Try.pinned (OpenSpec.upto imapOwnSpec)

end Rows
end Go.Proofs.Ytbailfianjmflab
