/-
  No cell of these rows narrows 'for every input' (looked for: loops, veiled, ifaces, maps, wideKeys, modest, calm, conditions, laid).
  DERIVED. THE GIVEN ROWS OF THIS SEAT. 6 by the template 'for every input the law returns true; each argument reads behind the call as it read before'; 0 by the template 'total and deterministic' (their statements: YtlcfccnkplmpgaaTotals.lean).
  GIVEN WITH THE SEED: the statements are not yours to turn. If you find one false, say at which input.
  Laid BY PROGRAM, IN A SANDBOX (cutbox-rows.mjs): the forced cells as the released guide's own fill.sh prints them over the translation b116df6948df8025… (all of the seat's roots in one cut). By AI agents, Wed Nov 11 2026. No macro, syntax, notation, axiom, sorry.
-/
import Derived.Test.YtlcfccnkplmpgaaChecked
import GoSem.Claim
import GoSem.ClaimJoined
import GoSem.ClaimMapViews
import Derived.JoinedTies
import Derived.KernelRfl
namespace Go.Proofs.Ytlcfccnkplmpgaa
/- THE CELL 'sum', in the pinned program and in every row, IS THE sha256 OF THE DUMP (.gsa) THAT YtlcfccnkplmpgaaProg.lean LOADS. Nothing in Lean hashes anything: it is a label: what it is worth is what the hold of that sum in a sandbox is worth. -/
noncomputable def Try.pinned : Pinned := { name := "ytlcfccnkplmpgaa", sum := "b116df6948df80257fa53d2d07a1d0f98d74968c657e3465ab9435bb33c1b11a", checked := Try.checked }
namespace Rows
def none {H : Type} : Left H := { results := [], args := [] }

/-- 'linenlaw.DiskMakes': WHATEVER THE INPUT: true; the input reads as it did. -/
def diskMakesSpec : ChangeSpec := { name := "diskMakes", fn := fun _ => fun
  | [d1, d2] => { results := [.lit (.bool true)], args := [d1, d2] }
  | _ => none }
def diskMakesRow : OpenClaim := { program := "ytlcfccnkplmpgaa", sum := "b116df6948df80257fa53d2d07a1d0f98d74968c657e3465ab9435bb33c1b11a", func := "linenpress/linenlaw.DiskMakes", spec := "diskMakes", unfollowed := true, recurses := true, apart := false }
def DiskMakesSaid : Prop := diskMakesRow.holds Try.pinned (OpenSpec.ofChange diskMakesSpec)

/-- ITS FALSE NEIGHBOUR: 'it returns false'. Refute it at one input. -/
def diskMakesWrong : ChangeSpec := { name := "diskMakes", fn := fun _ => fun
  | [d1, d2] => { results := [.lit (.bool false)], args := [d1, d2] }
  | _ => none }
def DiskMakesWrongFalsely : Prop := diskMakesRow.holds Try.pinned (OpenSpec.ofChange diskMakesWrong)

/-- 'linenlaw.DiskWrites': WHATEVER THE INPUT: true; the input reads as it did. -/
def diskWritesSpec : ChangeSpec := { name := "diskWrites", fn := fun _ => fun
  | [d1, d2, d3] => { results := [.lit (.bool true)], args := [d1, d2, d3] }
  | _ => none }
def diskWritesRow : OpenClaim := { program := "ytlcfccnkplmpgaa", sum := "b116df6948df80257fa53d2d07a1d0f98d74968c657e3465ab9435bb33c1b11a", func := "linenpress/linenlaw.DiskWrites", spec := "diskWrites", unfollowed := true, recurses := true, apart := false }
def DiskWritesSaid : Prop := diskWritesRow.holds Try.pinned (OpenSpec.ofChange diskWritesSpec)

/-- ITS FALSE NEIGHBOUR: 'it returns false'. Refute it at one input. -/
def diskWritesWrong : ChangeSpec := { name := "diskWrites", fn := fun _ => fun
  | [d1, d2, d3] => { results := [.lit (.bool false)], args := [d1, d2, d3] }
  | _ => none }
def DiskWritesWrongFalsely : Prop := diskWritesRow.holds Try.pinned (OpenSpec.ofChange diskWritesWrong)

/-- 'linenlaw.DiskLands': WHATEVER THE INPUT: true; the input reads as it did. -/
def diskLandsSpec : ChangeSpec := { name := "diskLands", fn := fun _ => fun
  | [d1, d2] => { results := [.lit (.bool true)], args := [d1, d2] }
  | _ => none }
def diskLandsRow : OpenClaim := { program := "ytlcfccnkplmpgaa", sum := "b116df6948df80257fa53d2d07a1d0f98d74968c657e3465ab9435bb33c1b11a", func := "linenpress/linenlaw.DiskLands", spec := "diskLands", unfollowed := true, recurses := true, apart := false }
def DiskLandsSaid : Prop := diskLandsRow.holds Try.pinned (OpenSpec.ofChange diskLandsSpec)

/-- ITS FALSE NEIGHBOUR: 'it returns false'. Refute it at one input. -/
def diskLandsWrong : ChangeSpec := { name := "diskLands", fn := fun _ => fun
  | [d1, d2] => { results := [.lit (.bool false)], args := [d1, d2] }
  | _ => none }
def DiskLandsWrongFalsely : Prop := diskLandsRow.holds Try.pinned (OpenSpec.ofChange diskLandsWrong)

/-- 'linenlaw.OpsPlays': WHATEVER THE INPUT: true; the input reads as it did. -/
def opsPlaysSpec : ChangeSpec := { name := "opsPlays", fn := fun _ => fun
  | [d1, d2, d3, d4] => { results := [.lit (.bool true)], args := [d1, d2, d3, d4] }
  | _ => none }
def opsPlaysRow : OpenClaim := { program := "ytlcfccnkplmpgaa", sum := "b116df6948df80257fa53d2d07a1d0f98d74968c657e3465ab9435bb33c1b11a", func := "linenpress/linenlaw.OpsPlays", spec := "opsPlays", unfollowed := true, recurses := true, apart := false }
def OpsPlaysSaid : Prop := opsPlaysRow.holds Try.pinned (OpenSpec.ofChange opsPlaysSpec)

/-- ITS FALSE NEIGHBOUR: 'it returns false'. Refute it at one input. -/
def opsPlaysWrong : ChangeSpec := { name := "opsPlays", fn := fun _ => fun
  | [d1, d2, d3, d4] => { results := [.lit (.bool false)], args := [d1, d2, d3, d4] }
  | _ => none }
def OpsPlaysWrongFalsely : Prop := opsPlaysRow.holds Try.pinned (OpenSpec.ofChange opsPlaysWrong)

/-- 'linenlaw.OpsLeans': WHATEVER THE INPUT: true; the input reads as it did. -/
def opsLeansSpec : ChangeSpec := { name := "opsLeans", fn := fun _ => fun
  | [d] => { results := [.lit (.bool true)], args := [d] }
  | _ => none }
def opsLeansRow : OpenClaim := { program := "ytlcfccnkplmpgaa", sum := "b116df6948df80257fa53d2d07a1d0f98d74968c657e3465ab9435bb33c1b11a", func := "linenpress/linenlaw.OpsLeans", spec := "opsLeans", unfollowed := true, recurses := true, apart := false }
def OpsLeansSaid : Prop := opsLeansRow.holds Try.pinned (OpenSpec.ofChange opsLeansSpec)

/-- ITS FALSE NEIGHBOUR: 'it returns false'. Refute it at one input. -/
def opsLeansWrong : ChangeSpec := { name := "opsLeans", fn := fun _ => fun
  | [d] => { results := [.lit (.bool false)], args := [d] }
  | _ => none }
def OpsLeansWrongFalsely : Prop := opsLeansRow.holds Try.pinned (OpenSpec.ofChange opsLeansWrong)

/-- 'linenkeep.DiskReads': WHATEVER THE INPUT: true; the input reads as it did. -/
def diskReadsSpec : ChangeSpec := { name := "diskReads", fn := fun _ => fun
  | [d1, d2, d3, d4] => { results := [.lit (.bool true)], args := [d1, d2, d3, d4] }
  | _ => none }
def diskReadsRow : OpenClaim := { program := "ytlcfccnkplmpgaa", sum := "b116df6948df80257fa53d2d07a1d0f98d74968c657e3465ab9435bb33c1b11a", func := "linenpress/linenkeep.DiskReads", spec := "diskReads", apart := false }
def DiskReadsSaid : Prop := diskReadsRow.holds Try.pinned (OpenSpec.ofChange diskReadsSpec)

/-- ITS FALSE NEIGHBOUR: 'it returns false'. Refute it at one input. -/
def diskReadsWrong : ChangeSpec := { name := "diskReads", fn := fun _ => fun
  | [d1, d2, d3, d4] => { results := [.lit (.bool false)], args := [d1, d2, d3, d4] }
  | _ => none }
def DiskReadsWrongFalsely : Prop := diskReadsRow.holds Try.pinned (OpenSpec.ofChange diskReadsWrong)

/- THE SECOND FORM. 'bulk': how many values and letters a reading holds, each counted each time it is reached (what is shared counts as often as it is met; a slice's spare places count too). A statement '..UptoSaid' is the law's where the arguments, and the package variables that the reading takes, are together of bulk at most 1048576: NARROWER than '..Said'. Prove '..Said' where nothing that the law and all that it calls make is longer than what came in: it says more and counts as full. Else prove '..UptoSaid'. A law counts once. -/
mutual
def uptoBulk {H : Type} : DataW H → Nat
  | .lit (.string bytes) => bytes.length + 1
  | .lit _ => 1
  | .nil => 1
  | .ptr d => uptoBulk d + 1
  | .slice elems spare => uptoBulkAll elems + uptoBulkAll spare + 1
  | .agg parts => uptoBulkAll parts + 1
  | .iface _ d => uptoBulk d + 1
  | .map entries => uptoBulkEntries entries + 1
  | .held _ => 1
def uptoBulkAll {H : Type} : List (DataW H) → Nat
  | [] => 0
  | d :: r => uptoBulk d + uptoBulkAll r
def uptoBulkEntries {H : Type} : List (Lit × DataW H) → Nat
  | [] => 0
  | x :: r => uptoBulkEntry x + uptoBulkEntries r
def uptoBulkEntry {H : Type} : Lit × DataW H → Nat
  | (.string bytes, d) => bytes.length + uptoBulk d + 1
  | (_, d) => uptoBulk d + 1
 end
def uptoSmall : (H : Type) → List (DataW H) → Bool := fun _ ds => decide (uptoBulkAll ds ≤ 1048576)
def OpenSpec.upto (s : _root_.Go.ChangeSpec) : _root_.Go.OpenSpec := { _root_.Go.OpenSpec.ofChange s with cond := some uptoSmall }

/-- 'linenlaw.DiskMakes', WHERE WHAT IT READS IS OF BULK AT MOST 1048576: true; the input reads as it did. -/
def diskMakesUptoRow : OpenClaim := { program := "ytlcfccnkplmpgaa", sum := "b116df6948df80257fa53d2d07a1d0f98d74968c657e3465ab9435bb33c1b11a", func := "linenpress/linenlaw.DiskMakes", spec := "diskMakes", unfollowed := true, recurses := true, apart := false, narrowed := true }
def DiskMakesUptoSaid : Prop := diskMakesUptoRow.holds Try.pinned (OpenSpec.upto diskMakesSpec)

/-- 'linenlaw.DiskWrites', WHERE WHAT IT READS IS OF BULK AT MOST 1048576: true; the input reads as it did. -/
def diskWritesUptoRow : OpenClaim := { program := "ytlcfccnkplmpgaa", sum := "b116df6948df80257fa53d2d07a1d0f98d74968c657e3465ab9435bb33c1b11a", func := "linenpress/linenlaw.DiskWrites", spec := "diskWrites", unfollowed := true, recurses := true, apart := false, narrowed := true }
def DiskWritesUptoSaid : Prop := diskWritesUptoRow.holds Try.pinned (OpenSpec.upto diskWritesSpec)

/-- 'linenlaw.DiskLands', WHERE WHAT IT READS IS OF BULK AT MOST 1048576: true; the input reads as it did. -/
def diskLandsUptoRow : OpenClaim := { program := "ytlcfccnkplmpgaa", sum := "b116df6948df80257fa53d2d07a1d0f98d74968c657e3465ab9435bb33c1b11a", func := "linenpress/linenlaw.DiskLands", spec := "diskLands", unfollowed := true, recurses := true, apart := false, narrowed := true }
def DiskLandsUptoSaid : Prop := diskLandsUptoRow.holds Try.pinned (OpenSpec.upto diskLandsSpec)

/-- 'linenlaw.OpsPlays', WHERE WHAT IT READS IS OF BULK AT MOST 1048576: true; the input reads as it did. -/
def opsPlaysUptoRow : OpenClaim := { program := "ytlcfccnkplmpgaa", sum := "b116df6948df80257fa53d2d07a1d0f98d74968c657e3465ab9435bb33c1b11a", func := "linenpress/linenlaw.OpsPlays", spec := "opsPlays", unfollowed := true, recurses := true, apart := false, narrowed := true }
def OpsPlaysUptoSaid : Prop := opsPlaysUptoRow.holds Try.pinned (OpenSpec.upto opsPlaysSpec)

/-- 'linenlaw.OpsLeans', WHERE WHAT IT READS IS OF BULK AT MOST 1048576: true; the input reads as it did. -/
def opsLeansUptoRow : OpenClaim := { program := "ytlcfccnkplmpgaa", sum := "b116df6948df80257fa53d2d07a1d0f98d74968c657e3465ab9435bb33c1b11a", func := "linenpress/linenlaw.OpsLeans", spec := "opsLeans", unfollowed := true, recurses := true, apart := false, narrowed := true }
def OpsLeansUptoSaid : Prop := opsLeansUptoRow.holds Try.pinned (OpenSpec.upto opsLeansSpec)

/-- 'linenkeep.DiskReads', WHERE WHAT IT READS IS OF BULK AT MOST 1048576: true; the input reads as it did. -/
def diskReadsUptoRow : OpenClaim := { program := "ytlcfccnkplmpgaa", sum := "b116df6948df80257fa53d2d07a1d0f98d74968c657e3465ab9435bb33c1b11a", func := "linenpress/linenkeep.DiskReads", spec := "diskReads", apart := false, narrowed := true }
def DiskReadsUptoSaid : Prop := diskReadsUptoRow.holds Try.pinned (OpenSpec.upto diskReadsSpec)

end Rows
end Go.Proofs.Ytlcfccnkplmpgaa
