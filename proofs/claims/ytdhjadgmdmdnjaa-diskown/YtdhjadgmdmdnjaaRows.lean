/-
  No cell of these rows narrows 'for every input' (looked for: loops, veiled, ifaces, maps, wideKeys, modest, calm, conditions, laid).
  DERIVED. THE GIVEN ROWS OF THIS SEAT. 4 by the template 'for every input the law returns true; each argument reads behind the call as it read before'; 0 by the template 'total and deterministic' (their statements: YtdhjadgmdmdnjaaTotals.lean).
  GIVEN WITH THE SEED: the statements are not yours to turn. If you find one false, say at which input.
  Laid BY PROGRAM, IN A SANDBOX (cutbox-rows.mjs): the forced cells as the released guide's own fill.sh prints them over the translation bfcdf8ce03561743… (all of the seat's roots in one cut). By AI agents, Wed Nov 11 2026. No macro, syntax, notation, axiom, sorry.
-/
import Derived.Test.YtdhjadgmdmdnjaaChecked
import GoSem.Claim
import GoSem.ClaimJoined
import GoSem.ClaimMapViews
import Derived.JoinedTies
import Derived.KernelRfl
namespace Go.Proofs.Ytdhjadgmdmdnjaa
/- THE CELL 'sum', in the pinned program and in every row, IS THE sha256 OF THE DUMP (.gsa) THAT YtdhjadgmdmdnjaaProg.lean LOADS. Nothing in Lean hashes anything: it is a label: what it is worth is what the hold of that sum in a sandbox is worth. -/
noncomputable def Try.pinned : Pinned := { name := "ytdhjadgmdmdnjaa", sum := "bfcdf8ce03561743014eff29866863c43f0016e1b01562ca76b44058fea0d663", checked := Try.checked }
namespace Rows
def none {H : Type} : Left H := { results := [], args := [] }

/-- 'linenkeep.OpsLean': WHATEVER THE INPUT: true; the input reads as it did. -/
def opsLeanSpec : ChangeSpec := { name := "opsLean", fn := fun _ => fun
  | [d1, d2] => { results := [.lit (.bool true)], args := [d1, d2] }
  | _ => none }
def opsLeanRow : OpenClaim := { program := "ytdhjadgmdmdnjaa", sum := "bfcdf8ce03561743014eff29866863c43f0016e1b01562ca76b44058fea0d663", func := "linenpress/linenkeep.OpsLean", spec := "opsLean", unfollowed := true, recurses := true, apart := false }
def OpsLeanSaid : Prop := opsLeanRow.holds Try.pinned (OpenSpec.ofChange opsLeanSpec)

/-- ITS FALSE NEIGHBOUR: 'it returns false'. Refute it at one input. -/
def opsLeanWrong : ChangeSpec := { name := "opsLean", fn := fun _ => fun
  | [d1, d2] => { results := [.lit (.bool false)], args := [d1, d2] }
  | _ => none }
def OpsLeanWrongFalsely : Prop := opsLeanRow.holds Try.pinned (OpenSpec.ofChange opsLeanWrong)

/-- 'linenkeep.OpsCrash': WHATEVER THE INPUT: true; the input reads as it did. -/
def opsCrashSpec : ChangeSpec := { name := "opsCrash", fn := fun _ => fun
  | [d1, d2, d3, d4] => { results := [.lit (.bool true)], args := [d1, d2, d3, d4] }
  | _ => none }
def opsCrashRow : OpenClaim := { program := "ytdhjadgmdmdnjaa", sum := "bfcdf8ce03561743014eff29866863c43f0016e1b01562ca76b44058fea0d663", func := "linenpress/linenkeep.OpsCrash", spec := "opsCrash", unfollowed := true, recurses := true, apart := false }
def OpsCrashSaid : Prop := opsCrashRow.holds Try.pinned (OpenSpec.ofChange opsCrashSpec)

/-- ITS FALSE NEIGHBOUR: 'it returns false'. Refute it at one input. -/
def opsCrashWrong : ChangeSpec := { name := "opsCrash", fn := fun _ => fun
  | [d1, d2, d3, d4] => { results := [.lit (.bool false)], args := [d1, d2, d3, d4] }
  | _ => none }
def OpsCrashWrongFalsely : Prop := opsCrashRow.holds Try.pinned (OpenSpec.ofChange opsCrashWrong)

/-- 'linenkeep.DiskOwn': WHATEVER THE INPUT: true; the input reads as it did. -/
def diskOwnSpec : ChangeSpec := { name := "diskOwn", fn := fun _ => fun
  | [d1, d2, d3, d4] => { results := [.lit (.bool true)], args := [d1, d2, d3, d4] }
  | _ => none }
def diskOwnRow : OpenClaim := { program := "ytdhjadgmdmdnjaa", sum := "bfcdf8ce03561743014eff29866863c43f0016e1b01562ca76b44058fea0d663", func := "linenpress/linenkeep.DiskOwn", spec := "diskOwn", unfollowed := true, recurses := true, apart := false }
def DiskOwnSaid : Prop := diskOwnRow.holds Try.pinned (OpenSpec.ofChange diskOwnSpec)

/-- ITS FALSE NEIGHBOUR: 'it returns false'. Refute it at one input. -/
def diskOwnWrong : ChangeSpec := { name := "diskOwn", fn := fun _ => fun
  | [d1, d2, d3, d4] => { results := [.lit (.bool false)], args := [d1, d2, d3, d4] }
  | _ => none }
def DiskOwnWrongFalsely : Prop := diskOwnRow.holds Try.pinned (OpenSpec.ofChange diskOwnWrong)

/-- 'linenkeep.OpsOwn': WHATEVER THE INPUT: true; the input reads as it did. -/
def opsOwnSpec : ChangeSpec := { name := "opsOwn", fn := fun _ => fun
  | [d1, d2] => { results := [.lit (.bool true)], args := [d1, d2] }
  | _ => none }
def opsOwnRow : OpenClaim := { program := "ytdhjadgmdmdnjaa", sum := "bfcdf8ce03561743014eff29866863c43f0016e1b01562ca76b44058fea0d663", func := "linenpress/linenkeep.OpsOwn", spec := "opsOwn", unfollowed := true, recurses := true, apart := false }
def OpsOwnSaid : Prop := opsOwnRow.holds Try.pinned (OpenSpec.ofChange opsOwnSpec)

/-- ITS FALSE NEIGHBOUR: 'it returns false'. Refute it at one input. -/
def opsOwnWrong : ChangeSpec := { name := "opsOwn", fn := fun _ => fun
  | [d1, d2] => { results := [.lit (.bool false)], args := [d1, d2] }
  | _ => none }
def OpsOwnWrongFalsely : Prop := opsOwnRow.holds Try.pinned (OpenSpec.ofChange opsOwnWrong)

/- THE SECOND FORM. 'bulk': how many values and letters a reading holds, each counted each time it is reached (what is shared counts as often as it is met; a slice's spare places count too). A statement '..UptoSaid' is the law's where the arguments, and the package variables that the reading takes, are together of bulk at most 1048576: NARROWER than '..Said'. Prove '..Said' where nothing that the law and all that it calls make is longer than what came in: it says more and counts as full. Else prove '..UptoSaid'. A law counts once. -/
mutual
def uptoBulk {H : Type} : DataW H → Nat
  | .lit (.string bytes) => bytes.length + 1
  | .lit _ => 1
  | .nil => 1
  | .ptr d => uptoBulk d + 1
  | .slice elems spare => uptoBulkAll elems + uptoBulkAll spare + 1
  | .agg parts => uptoBulkAll parts + 1
  | .iface _ d => uptoBulk d + 1
  | .map entries => uptoBulkEntries entries + 1
  | .held _ => 1
def uptoBulkAll {H : Type} : List (DataW H) → Nat
  | [] => 0
  | d :: r => uptoBulk d + uptoBulkAll r
def uptoBulkEntries {H : Type} : List (Lit × DataW H) → Nat
  | [] => 0
  | x :: r => uptoBulkEntry x + uptoBulkEntries r
def uptoBulkEntry {H : Type} : Lit × DataW H → Nat
  | (.string bytes, d) => bytes.length + uptoBulk d + 1
  | (_, d) => uptoBulk d + 1
 end
def uptoSmall : (H : Type) → List (DataW H) → Bool := fun _ ds => decide (uptoBulkAll ds ≤ 1048576)
def OpenSpec.upto (s : _root_.Go.ChangeSpec) : _root_.Go.OpenSpec := { _root_.Go.OpenSpec.ofChange s with cond := some uptoSmall }

/-- 'linenkeep.OpsLean', WHERE WHAT IT READS IS OF BULK AT MOST 1048576: true; the input reads as it did. -/
def opsLeanUptoRow : OpenClaim := { program := "ytdhjadgmdmdnjaa", sum := "bfcdf8ce03561743014eff29866863c43f0016e1b01562ca76b44058fea0d663", func := "linenpress/linenkeep.OpsLean", spec := "opsLean", unfollowed := true, recurses := true, apart := false, narrowed := true }
def OpsLeanUptoSaid : Prop := opsLeanUptoRow.holds Try.pinned (OpenSpec.upto opsLeanSpec)

/-- 'linenkeep.OpsCrash', WHERE WHAT IT READS IS OF BULK AT MOST 1048576: true; the input reads as it did. -/
def opsCrashUptoRow : OpenClaim := { program := "ytdhjadgmdmdnjaa", sum := "bfcdf8ce03561743014eff29866863c43f0016e1b01562ca76b44058fea0d663", func := "linenpress/linenkeep.OpsCrash", spec := "opsCrash", unfollowed := true, recurses := true, apart := false, narrowed := true }
def OpsCrashUptoSaid : Prop := opsCrashUptoRow.holds Try.pinned (OpenSpec.upto opsCrashSpec)

/-- 'linenkeep.DiskOwn', WHERE WHAT IT READS IS OF BULK AT MOST 1048576: true; the input reads as it did. -/
def diskOwnUptoRow : OpenClaim := { program := "ytdhjadgmdmdnjaa", sum := "bfcdf8ce03561743014eff29866863c43f0016e1b01562ca76b44058fea0d663", func := "linenpress/linenkeep.DiskOwn", spec := "diskOwn", unfollowed := true, recurses := true, apart := false, narrowed := true }
def DiskOwnUptoSaid : Prop := diskOwnUptoRow.holds Try.pinned (OpenSpec.upto diskOwnSpec)

/-- 'linenkeep.OpsOwn', WHERE WHAT IT READS IS OF BULK AT MOST 1048576: true; the input reads as it did. -/
def opsOwnUptoRow : OpenClaim := { program := "ytdhjadgmdmdnjaa", sum := "bfcdf8ce03561743014eff29866863c43f0016e1b01562ca76b44058fea0d663", func := "linenpress/linenkeep.OpsOwn", spec := "opsOwn", unfollowed := true, recurses := true, apart := false, narrowed := true }
def OpsOwnUptoSaid : Prop := opsOwnUptoRow.holds Try.pinned (OpenSpec.upto opsOwnSpec)

end Rows
end Go.Proofs.Ytdhjadgmdmdnjaa
