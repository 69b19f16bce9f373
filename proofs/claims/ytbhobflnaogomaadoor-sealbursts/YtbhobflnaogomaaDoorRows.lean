/-
  NARROWER THAN 'FOR EVERY INPUT', by the rows' own cells (each row's printed sentence says how): SealSays: laid · SealOpens: laid · SealBack: laid · SealBursts: laid · SealOne: laid.
  DERIVED. THE GIVEN ROWS OF THIS SEAT. 5 by the template 'for every input the law returns true; each argument reads behind the call as it read before'; 0 by the template 'total and deterministic' (their statements: YtbhobflnaogomaaDoorTotals.lean).
  GIVEN WITH THE SEED: the statements are not yours to turn. If you find one false, say at which input.
  Laid BY PROGRAM, IN A SANDBOX (cutbox-rows.mjs): the forced cells as the released guide's own fill.sh prints them over the translation 1ccae7c1d3cac2be… (all of the seat's roots in one cut). By AI agents, Wed Nov 11 2026. No macro, syntax, notation, axiom, sorry.
-/
import Derived.Test.YtbhobflnaogomaaDoorChecked
import GoSem.Claim
import GoSem.ClaimJoined
import GoSem.ClaimMapViews
import Derived.JoinedTies
import Derived.KernelRfl
namespace Go.Proofs.YtbhobflnaogomaaDoor
/- THE CELL 'sum', in the pinned program and in every row, IS THE sha256 OF THE DUMP (.gsa) THAT YtbhobflnaogomaaDoorProg.lean LOADS. Nothing in Lean hashes anything: it is a label: what it is worth is what the hold of that sum in a sandbox is worth. -/
noncomputable def Tryd.pinned : Pinned := { name := "ytbhobflnaogomaadoor", sum := "1ccae7c1d3cac2beca231486b197eada5f54cfc66bfaf1260ecf710853fce52a", checked := Tryd.checked }
namespace Rows
def none {H : Type} : Left H := { results := [], args := [] }

/- WHAT THE LISTED PACKAGE-LEVEL VARIABLES READ AS WHEN THE CALL BEGINS. Each datum BY PROGRAM (the guide's laid-datum.mjs) off the statement by which the dump's own 'gosem.cut.vars' lays the variable. In a bare row this is a premise. The card (YtbhobflnaogomaaDoorCards.lean) ties it to the program's text. -/
def laid_linenpress_sum_fours {H : Type} : DataW H := .agg [.lit (.int .u32 0), .lit (.int .u32 274646895), .lit (.int .u32 549293790), .lit (.int .u32 820201905), .lit (.int .u32 1098587580), .lit (.int .u32 1361435347), .lit (.int .u32 1640403810), .lit (.int .u32 1905808397), .lit (.int .u32 2197175160), .lit (.int .u32 2460548119), .lit (.int .u32 2722870694), .lit (.int .u32 2987750089), .lit (.int .u32 3280807620), .lit (.int .u32 3553878443), .lit (.int .u32 3811616794), .lit (.int .u32 4084100981)]

/-- 'linenlaw.SealSays': WHATEVER THE INPUT: true; the input reads as it did. -/
def sealSaysSpec : ChangeSpec := { name := "sealSays", fn := fun _ => fun
  | [d1, d2, d3] => { results := [.lit (.bool true)], args := [d1, d2, d3] }
  | _ => none }
def sealSaysRow : OpenClaim := { program := "ytbhobflnaogomaadoor", sum := "1ccae7c1d3cac2beca231486b197eada5f54cfc66bfaf1260ecf710853fce52a", func := "linenpress/linenlaw.SealSays", spec := "sealSays", named := ["linenpress/sum.fours"], apart := false, laid := [("linenpress/sum.fours", laid_linenpress_sum_fours)] }
def SealSaysSaid : Prop := sealSaysRow.holds Tryd.pinned (OpenSpec.ofChange sealSaysSpec)

/-- ITS FALSE NEIGHBOUR: 'it returns false'. Refute it at one input. -/
def sealSaysWrong : ChangeSpec := { name := "sealSays", fn := fun _ => fun
  | [d1, d2, d3] => { results := [.lit (.bool false)], args := [d1, d2, d3] }
  | _ => none }
def SealSaysWrongFalsely : Prop := sealSaysRow.holds Tryd.pinned (OpenSpec.ofChange sealSaysWrong)

/-- 'linenlaw.SealOpens': WHATEVER THE INPUT: true; the input reads as it did. -/
def sealOpensSpec : ChangeSpec := { name := "sealOpens", fn := fun _ => fun
  | [d] => { results := [.lit (.bool true)], args := [d] }
  | _ => none }
def sealOpensRow : OpenClaim := { program := "ytbhobflnaogomaadoor", sum := "1ccae7c1d3cac2beca231486b197eada5f54cfc66bfaf1260ecf710853fce52a", func := "linenpress/linenlaw.SealOpens", spec := "sealOpens", named := ["linenpress/sum.fours"], apart := false, laid := [("linenpress/sum.fours", laid_linenpress_sum_fours)] }
def SealOpensSaid : Prop := sealOpensRow.holds Tryd.pinned (OpenSpec.ofChange sealOpensSpec)

/-- ITS FALSE NEIGHBOUR: 'it returns false'. Refute it at one input. -/
def sealOpensWrong : ChangeSpec := { name := "sealOpens", fn := fun _ => fun
  | [d] => { results := [.lit (.bool false)], args := [d] }
  | _ => none }
def SealOpensWrongFalsely : Prop := sealOpensRow.holds Tryd.pinned (OpenSpec.ofChange sealOpensWrong)

/-- 'linenkeep.SealBack': WHATEVER THE INPUT: true; the input reads as it did. -/
def sealBackSpec : ChangeSpec := { name := "sealBack", fn := fun _ => fun
  | [d1, d2, d3] => { results := [.lit (.bool true)], args := [d1, d2, d3] }
  | _ => none }
def sealBackRow : OpenClaim := { program := "ytbhobflnaogomaadoor", sum := "1ccae7c1d3cac2beca231486b197eada5f54cfc66bfaf1260ecf710853fce52a", func := "linenpress/linenkeep.SealBack", spec := "sealBack", named := ["linenpress/sum.fours"], apart := false, laid := [("linenpress/sum.fours", laid_linenpress_sum_fours)] }
def SealBackSaid : Prop := sealBackRow.holds Tryd.pinned (OpenSpec.ofChange sealBackSpec)

/-- ITS FALSE NEIGHBOUR: 'it returns false'. Refute it at one input. -/
def sealBackWrong : ChangeSpec := { name := "sealBack", fn := fun _ => fun
  | [d1, d2, d3] => { results := [.lit (.bool false)], args := [d1, d2, d3] }
  | _ => none }
def SealBackWrongFalsely : Prop := sealBackRow.holds Tryd.pinned (OpenSpec.ofChange sealBackWrong)

/-- 'linenkeep.SealBursts': WHATEVER THE INPUT: true; the input reads as it did. -/
def sealBurstsSpec : ChangeSpec := { name := "sealBursts", fn := fun _ => fun
  | [d1, d2, d3, d4, d5] => { results := [.lit (.bool true)], args := [d1, d2, d3, d4, d5] }
  | _ => none }
def sealBurstsRow : OpenClaim := { program := "ytbhobflnaogomaadoor", sum := "1ccae7c1d3cac2beca231486b197eada5f54cfc66bfaf1260ecf710853fce52a", func := "linenpress/linenkeep.SealBursts", spec := "sealBursts", named := ["linenpress/sum.fours"], apart := false, laid := [("linenpress/sum.fours", laid_linenpress_sum_fours)] }
def SealBurstsSaid : Prop := sealBurstsRow.holds Tryd.pinned (OpenSpec.ofChange sealBurstsSpec)

/-- ITS FALSE NEIGHBOUR: 'it returns false'. Refute it at one input. -/
def sealBurstsWrong : ChangeSpec := { name := "sealBursts", fn := fun _ => fun
  | [d1, d2, d3, d4, d5] => { results := [.lit (.bool false)], args := [d1, d2, d3, d4, d5] }
  | _ => none }
def SealBurstsWrongFalsely : Prop := sealBurstsRow.holds Tryd.pinned (OpenSpec.ofChange sealBurstsWrong)

/-- 'linenkeep.SealOne': WHATEVER THE INPUT: true; the input reads as it did. -/
def sealOneSpec : ChangeSpec := { name := "sealOne", fn := fun _ => fun
  | [d] => { results := [.lit (.bool true)], args := [d] }
  | _ => none }
def sealOneRow : OpenClaim := { program := "ytbhobflnaogomaadoor", sum := "1ccae7c1d3cac2beca231486b197eada5f54cfc66bfaf1260ecf710853fce52a", func := "linenpress/linenkeep.SealOne", spec := "sealOne", named := ["linenpress/sum.fours"], apart := false, laid := [("linenpress/sum.fours", laid_linenpress_sum_fours)] }
def SealOneSaid : Prop := sealOneRow.holds Tryd.pinned (OpenSpec.ofChange sealOneSpec)

/-- ITS FALSE NEIGHBOUR: 'it returns false'. Refute it at one input. -/
def sealOneWrong : ChangeSpec := { name := "sealOne", fn := fun _ => fun
  | [d] => { results := [.lit (.bool false)], args := [d] }
  | _ => none }
def SealOneWrongFalsely : Prop := sealOneRow.holds Tryd.pinned (OpenSpec.ofChange sealOneWrong)

/- THE SECOND FORM. 'bulk': how many values and letters a reading holds, each counted each time it is reached (what is shared counts as often as it is met; a slice's spare places count too). A statement '..UptoSaid' is the law's where the arguments, and the package variables that the reading takes, are together of bulk at most 1048576: NARROWER than '..Said'. Prove '..Said' where nothing that the law and all that it calls make is longer than what came in: it says more and counts as full. Else prove '..UptoSaid'. A law counts once. -/
mutual
def uptoBulk {H : Type} : DataW H → Nat
  | .lit (.string bytes) => bytes.length + 1
  | .lit _ => 1
  | .nil => 1
  | .ptr d => uptoBulk d + 1
  | .slice elems spare => uptoBulkAll elems + uptoBulkAll spare + 1
  | .agg parts => uptoBulkAll parts + 1
  | .iface _ d => uptoBulk d + 1
  | .map entries => uptoBulkEntries entries + 1
  | .held _ => 1
def uptoBulkAll {H : Type} : List (DataW H) → Nat
  | [] => 0
  | d :: r => uptoBulk d + uptoBulkAll r
def uptoBulkEntries {H : Type} : List (Lit × DataW H) → Nat
  | [] => 0
  | x :: r => uptoBulkEntry x + uptoBulkEntries r
def uptoBulkEntry {H : Type} : Lit × DataW H → Nat
  | (.string bytes, d) => bytes.length + uptoBulk d + 1
  | (_, d) => uptoBulk d + 1
 end
def uptoSmall : (H : Type) → List (DataW H) → Bool := fun _ ds => decide (uptoBulkAll ds ≤ 1048576)
def OpenSpec.upto (s : _root_.Go.ChangeSpec) : _root_.Go.OpenSpec := { _root_.Go.OpenSpec.ofChange s with cond := some uptoSmall }

/-- 'linenlaw.SealSays', WHERE WHAT IT READS IS OF BULK AT MOST 1048576: true; the input reads as it did. -/
def sealSaysUptoRow : OpenClaim := { program := "ytbhobflnaogomaadoor", sum := "1ccae7c1d3cac2beca231486b197eada5f54cfc66bfaf1260ecf710853fce52a", func := "linenpress/linenlaw.SealSays", spec := "sealSays", named := ["linenpress/sum.fours"], apart := false, laid := [("linenpress/sum.fours", laid_linenpress_sum_fours)], narrowed := true }
def SealSaysUptoSaid : Prop := sealSaysUptoRow.holds Tryd.pinned (OpenSpec.upto sealSaysSpec)

/-- 'linenlaw.SealOpens', WHERE WHAT IT READS IS OF BULK AT MOST 1048576: true; the input reads as it did. -/
def sealOpensUptoRow : OpenClaim := { program := "ytbhobflnaogomaadoor", sum := "1ccae7c1d3cac2beca231486b197eada5f54cfc66bfaf1260ecf710853fce52a", func := "linenpress/linenlaw.SealOpens", spec := "sealOpens", named := ["linenpress/sum.fours"], apart := false, laid := [("linenpress/sum.fours", laid_linenpress_sum_fours)], narrowed := true }
def SealOpensUptoSaid : Prop := sealOpensUptoRow.holds Tryd.pinned (OpenSpec.upto sealOpensSpec)

/-- 'linenkeep.SealBack', WHERE WHAT IT READS IS OF BULK AT MOST 1048576: true; the input reads as it did. -/
def sealBackUptoRow : OpenClaim := { program := "ytbhobflnaogomaadoor", sum := "1ccae7c1d3cac2beca231486b197eada5f54cfc66bfaf1260ecf710853fce52a", func := "linenpress/linenkeep.SealBack", spec := "sealBack", named := ["linenpress/sum.fours"], apart := false, laid := [("linenpress/sum.fours", laid_linenpress_sum_fours)], narrowed := true }
def SealBackUptoSaid : Prop := sealBackUptoRow.holds Tryd.pinned (OpenSpec.upto sealBackSpec)

/-- 'linenkeep.SealBursts', WHERE WHAT IT READS IS OF BULK AT MOST 1048576: true; the input reads as it did. -/
def sealBurstsUptoRow : OpenClaim := { program := "ytbhobflnaogomaadoor", sum := "1ccae7c1d3cac2beca231486b197eada5f54cfc66bfaf1260ecf710853fce52a", func := "linenpress/linenkeep.SealBursts", spec := "sealBursts", named := ["linenpress/sum.fours"], apart := false, laid := [("linenpress/sum.fours", laid_linenpress_sum_fours)], narrowed := true }
def SealBurstsUptoSaid : Prop := sealBurstsUptoRow.holds Tryd.pinned (OpenSpec.upto sealBurstsSpec)

/-- 'linenkeep.SealOne', WHERE WHAT IT READS IS OF BULK AT MOST 1048576: true; the input reads as it did. -/
def sealOneUptoRow : OpenClaim := { program := "ytbhobflnaogomaadoor", sum := "1ccae7c1d3cac2beca231486b197eada5f54cfc66bfaf1260ecf710853fce52a", func := "linenpress/linenkeep.SealOne", spec := "sealOne", named := ["linenpress/sum.fours"], apart := false, laid := [("linenpress/sum.fours", laid_linenpress_sum_fours)], narrowed := true }
def SealOneUptoSaid : Prop := sealOneUptoRow.holds Tryd.pinned (OpenSpec.upto sealOneSpec)

end Rows
end Go.Proofs.YtbhobflnaogomaaDoor
