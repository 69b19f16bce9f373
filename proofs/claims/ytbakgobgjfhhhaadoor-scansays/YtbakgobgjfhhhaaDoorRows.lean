/-
  NARROWER THAN 'FOR EVERY INPUT', by the rows' own cells (each row's printed sentence says how): PointWrites: laid · PointReads: laid · PointNewest: laid · ScanSays: laid · PointBack: laid · PointTwins: laid.
  DERIVED. THE GIVEN ROWS OF THIS SEAT. 6 by the template 'for every input the law returns true; each argument reads behind the call as it read before'; 0 by the template 'total and deterministic' (their statements: YtbakgobgjfhhhaaDoorTotals.lean).
  GIVEN WITH THE SEED: the statements are not yours to turn. If you find one false, say at which input.
  Laid BY PROGRAM, IN A SANDBOX (cutbox-rows.mjs): the forced cells as the released guide's own fill.sh prints them over the translation 1a520a086edb4a83… (all of the seat's roots in one cut). By AI agents, Wed Nov 11 2026. No macro, syntax, notation, axiom, sorry.
-/
import Derived.Test.YtbakgobgjfhhhaaDoorChecked
import GoSem.Claim
import GoSem.ClaimJoined
import GoSem.ClaimMapViews
import Derived.JoinedTies
import Derived.KernelRfl
namespace Go.Proofs.YtbakgobgjfhhhaaDoor
/- THE CELL 'sum', in the pinned program and in every row, IS THE sha256 OF THE DUMP (.gsa) THAT YtbakgobgjfhhhaaDoorProg.lean LOADS. Nothing in Lean hashes anything: it is a label: what it is worth is what the hold of that sum in a sandbox is worth. -/
noncomputable def Tryd.pinned : Pinned := { name := "ytbakgobgjfhhhaadoor", sum := "1a520a086edb4a8324845774b6042f4a6cc352c52c630c872c18935b99b69892", checked := Tryd.checked }
namespace Rows
def none {H : Type} : Left H := { results := [], args := [] }

/- WHAT THE LISTED PACKAGE-LEVEL VARIABLES READ AS WHEN THE CALL BEGINS. Each datum BY PROGRAM (the guide's laid-datum.mjs) off the statement by which the dump's own 'gosem.cut.vars' lays the variable. In a bare row this is a premise. The card (YtbakgobgjfhhhaaDoorCards.lean) ties it to the program's text. -/
def laid_linenpress_sum_fours {H : Type} : DataW H := .agg [.lit (.int .u32 0), .lit (.int .u32 274646895), .lit (.int .u32 549293790), .lit (.int .u32 820201905), .lit (.int .u32 1098587580), .lit (.int .u32 1361435347), .lit (.int .u32 1640403810), .lit (.int .u32 1905808397), .lit (.int .u32 2197175160), .lit (.int .u32 2460548119), .lit (.int .u32 2722870694), .lit (.int .u32 2987750089), .lit (.int .u32 3280807620), .lit (.int .u32 3553878443), .lit (.int .u32 3811616794), .lit (.int .u32 4084100981)]

/-- 'linenlaw.PointWrites': WHATEVER THE INPUT: true; the input reads as it did. -/
def pointWritesSpec : ChangeSpec := { name := "pointWrites", fn := fun _ => fun
  | [d1, d2] => { results := [.lit (.bool true)], args := [d1, d2] }
  | _ => none }
def pointWritesRow : OpenClaim := { program := "ytbakgobgjfhhhaadoor", sum := "1a520a086edb4a8324845774b6042f4a6cc352c52c630c872c18935b99b69892", func := "linenpress/linenlaw.PointWrites", spec := "pointWrites", recurses := true, named := ["linenpress/sum.fours"], apart := false, laid := [("linenpress/sum.fours", laid_linenpress_sum_fours)] }
def PointWritesSaid : Prop := pointWritesRow.holds Tryd.pinned (OpenSpec.ofChange pointWritesSpec)

/-- ITS FALSE NEIGHBOUR: 'it returns false'. Refute it at one input. -/
def pointWritesWrong : ChangeSpec := { name := "pointWrites", fn := fun _ => fun
  | [d1, d2] => { results := [.lit (.bool false)], args := [d1, d2] }
  | _ => none }
def PointWritesWrongFalsely : Prop := pointWritesRow.holds Tryd.pinned (OpenSpec.ofChange pointWritesWrong)

/-- 'linenlaw.PointReads': WHATEVER THE INPUT: true; the input reads as it did. -/
def pointReadsSpec : ChangeSpec := { name := "pointReads", fn := fun _ => fun
  | [d] => { results := [.lit (.bool true)], args := [d] }
  | _ => none }
def pointReadsRow : OpenClaim := { program := "ytbakgobgjfhhhaadoor", sum := "1a520a086edb4a8324845774b6042f4a6cc352c52c630c872c18935b99b69892", func := "linenpress/linenlaw.PointReads", spec := "pointReads", named := ["linenpress/sum.fours"], apart := false, laid := [("linenpress/sum.fours", laid_linenpress_sum_fours)] }
def PointReadsSaid : Prop := pointReadsRow.holds Tryd.pinned (OpenSpec.ofChange pointReadsSpec)

/-- ITS FALSE NEIGHBOUR: 'it returns false'. Refute it at one input. -/
def pointReadsWrong : ChangeSpec := { name := "pointReads", fn := fun _ => fun
  | [d] => { results := [.lit (.bool false)], args := [d] }
  | _ => none }
def PointReadsWrongFalsely : Prop := pointReadsRow.holds Tryd.pinned (OpenSpec.ofChange pointReadsWrong)

/-- 'linenlaw.PointNewest': WHATEVER THE INPUT: true; the input reads as it did. -/
def pointNewestSpec : ChangeSpec := { name := "pointNewest", fn := fun _ => fun
  | [d] => { results := [.lit (.bool true)], args := [d] }
  | _ => none }
def pointNewestRow : OpenClaim := { program := "ytbakgobgjfhhhaadoor", sum := "1a520a086edb4a8324845774b6042f4a6cc352c52c630c872c18935b99b69892", func := "linenpress/linenlaw.PointNewest", spec := "pointNewest", unfollowed := true, recurses := true, named := ["linenpress/sum.fours"], apart := false, laid := [("linenpress/sum.fours", laid_linenpress_sum_fours)] }
def PointNewestSaid : Prop := pointNewestRow.holds Tryd.pinned (OpenSpec.ofChange pointNewestSpec)

/-- ITS FALSE NEIGHBOUR: 'it returns false'. Refute it at one input. -/
def pointNewestWrong : ChangeSpec := { name := "pointNewest", fn := fun _ => fun
  | [d] => { results := [.lit (.bool false)], args := [d] }
  | _ => none }
def PointNewestWrongFalsely : Prop := pointNewestRow.holds Tryd.pinned (OpenSpec.ofChange pointNewestWrong)

/-- 'linenlaw.ScanSays': WHATEVER THE INPUT: true; the input reads as it did. -/
def scanSaysSpec : ChangeSpec := { name := "scanSays", fn := fun _ => fun
  | [d1, d2] => { results := [.lit (.bool true)], args := [d1, d2] }
  | _ => none }
def scanSaysRow : OpenClaim := { program := "ytbakgobgjfhhhaadoor", sum := "1a520a086edb4a8324845774b6042f4a6cc352c52c630c872c18935b99b69892", func := "linenpress/linenlaw.ScanSays", spec := "scanSays", unfollowed := true, recurses := true, named := ["linenpress/sum.fours"], apart := false, laid := [("linenpress/sum.fours", laid_linenpress_sum_fours)] }
def ScanSaysSaid : Prop := scanSaysRow.holds Tryd.pinned (OpenSpec.ofChange scanSaysSpec)

/-- ITS FALSE NEIGHBOUR: 'it returns false'. Refute it at one input. -/
def scanSaysWrong : ChangeSpec := { name := "scanSays", fn := fun _ => fun
  | [d1, d2] => { results := [.lit (.bool false)], args := [d1, d2] }
  | _ => none }
def ScanSaysWrongFalsely : Prop := scanSaysRow.holds Tryd.pinned (OpenSpec.ofChange scanSaysWrong)

/-- 'linenkeep.PointBack': WHATEVER THE INPUT: true; the input reads as it did. -/
def pointBackSpec : ChangeSpec := { name := "pointBack", fn := fun _ => fun
  | [d1, d2, d3] => { results := [.lit (.bool true)], args := [d1, d2, d3] }
  | _ => none }
def pointBackRow : OpenClaim := { program := "ytbakgobgjfhhhaadoor", sum := "1a520a086edb4a8324845774b6042f4a6cc352c52c630c872c18935b99b69892", func := "linenpress/linenkeep.PointBack", spec := "pointBack", named := ["linenpress/sum.fours"], apart := false, laid := [("linenpress/sum.fours", laid_linenpress_sum_fours)] }
def PointBackSaid : Prop := pointBackRow.holds Tryd.pinned (OpenSpec.ofChange pointBackSpec)

/-- ITS FALSE NEIGHBOUR: 'it returns false'. Refute it at one input. -/
def pointBackWrong : ChangeSpec := { name := "pointBack", fn := fun _ => fun
  | [d1, d2, d3] => { results := [.lit (.bool false)], args := [d1, d2, d3] }
  | _ => none }
def PointBackWrongFalsely : Prop := pointBackRow.holds Tryd.pinned (OpenSpec.ofChange pointBackWrong)

/-- 'linenkeep.PointTwins': WHATEVER THE INPUT: true; the input reads as it did. -/
def pointTwinsSpec : ChangeSpec := { name := "pointTwins", fn := fun _ => fun
  | [d1, d2, d3, d4] => { results := [.lit (.bool true)], args := [d1, d2, d3, d4] }
  | _ => none }
def pointTwinsRow : OpenClaim := { program := "ytbakgobgjfhhhaadoor", sum := "1a520a086edb4a8324845774b6042f4a6cc352c52c630c872c18935b99b69892", func := "linenpress/linenkeep.PointTwins", spec := "pointTwins", named := ["linenpress/sum.fours"], apart := false, laid := [("linenpress/sum.fours", laid_linenpress_sum_fours)] }
def PointTwinsSaid : Prop := pointTwinsRow.holds Tryd.pinned (OpenSpec.ofChange pointTwinsSpec)

/-- ITS FALSE NEIGHBOUR: 'it returns false'. Refute it at one input. -/
def pointTwinsWrong : ChangeSpec := { name := "pointTwins", fn := fun _ => fun
  | [d1, d2, d3, d4] => { results := [.lit (.bool false)], args := [d1, d2, d3, d4] }
  | _ => none }
def PointTwinsWrongFalsely : Prop := pointTwinsRow.holds Tryd.pinned (OpenSpec.ofChange pointTwinsWrong)

/- THE SECOND FORM. 'bulk': how many values and letters a reading holds, each counted each time it is reached (what is shared counts as often as it is met; a slice's spare places count too). A statement '..UptoSaid' is the law's where the arguments, and the package variables that the reading takes, are together of bulk at most 1048576: NARROWER than '..Said'. Prove '..Said' where nothing that the law and all that it calls make is longer than what came in: it says more and counts as full. Else prove '..UptoSaid'. A law counts once. -/
mutual
def uptoBulk {H : Type} : DataW H → Nat
  | .lit (.string bytes) => bytes.length + 1
  | .lit _ => 1
  | .nil => 1
  | .ptr d => uptoBulk d + 1
  | .slice elems spare => uptoBulkAll elems + uptoBulkAll spare + 1
  | .agg parts => uptoBulkAll parts + 1
  | .iface _ d => uptoBulk d + 1
  | .map entries => uptoBulkEntries entries + 1
  | .held _ => 1
def uptoBulkAll {H : Type} : List (DataW H) → Nat
  | [] => 0
  | d :: r => uptoBulk d + uptoBulkAll r
def uptoBulkEntries {H : Type} : List (Lit × DataW H) → Nat
  | [] => 0
  | x :: r => uptoBulkEntry x + uptoBulkEntries r
def uptoBulkEntry {H : Type} : Lit × DataW H → Nat
  | (.string bytes, d) => bytes.length + uptoBulk d + 1
  | (_, d) => uptoBulk d + 1
 end
def uptoSmall : (H : Type) → List (DataW H) → Bool := fun _ ds => decide (uptoBulkAll ds ≤ 1048576)
def OpenSpec.upto (s : _root_.Go.ChangeSpec) : _root_.Go.OpenSpec := { _root_.Go.OpenSpec.ofChange s with cond := some uptoSmall }

/-- 'linenlaw.PointWrites', WHERE WHAT IT READS IS OF BULK AT MOST 1048576: true; the input reads as it did. -/
def pointWritesUptoRow : OpenClaim := { program := "ytbakgobgjfhhhaadoor", sum := "1a520a086edb4a8324845774b6042f4a6cc352c52c630c872c18935b99b69892", func := "linenpress/linenlaw.PointWrites", spec := "pointWrites", recurses := true, named := ["linenpress/sum.fours"], apart := false, laid := [("linenpress/sum.fours", laid_linenpress_sum_fours)], narrowed := true }
def PointWritesUptoSaid : Prop := pointWritesUptoRow.holds Tryd.pinned (OpenSpec.upto pointWritesSpec)

/-- 'linenlaw.PointReads', WHERE WHAT IT READS IS OF BULK AT MOST 1048576: true; the input reads as it did. -/
def pointReadsUptoRow : OpenClaim := { program := "ytbakgobgjfhhhaadoor", sum := "1a520a086edb4a8324845774b6042f4a6cc352c52c630c872c18935b99b69892", func := "linenpress/linenlaw.PointReads", spec := "pointReads", named := ["linenpress/sum.fours"], apart := false, laid := [("linenpress/sum.fours", laid_linenpress_sum_fours)], narrowed := true }
def PointReadsUptoSaid : Prop := pointReadsUptoRow.holds Tryd.pinned (OpenSpec.upto pointReadsSpec)

/-- 'linenlaw.PointNewest', WHERE WHAT IT READS IS OF BULK AT MOST 1048576: true; the input reads as it did. -/
def pointNewestUptoRow : OpenClaim := { program := "ytbakgobgjfhhhaadoor", sum := "1a520a086edb4a8324845774b6042f4a6cc352c52c630c872c18935b99b69892", func := "linenpress/linenlaw.PointNewest", spec := "pointNewest", unfollowed := true, recurses := true, named := ["linenpress/sum.fours"], apart := false, laid := [("linenpress/sum.fours", laid_linenpress_sum_fours)], narrowed := true }
def PointNewestUptoSaid : Prop := pointNewestUptoRow.holds Tryd.pinned (OpenSpec.upto pointNewestSpec)

/-- 'linenlaw.ScanSays', WHERE WHAT IT READS IS OF BULK AT MOST 1048576: true; the input reads as it did. -/
def scanSaysUptoRow : OpenClaim := { program := "ytbakgobgjfhhhaadoor", sum := "1a520a086edb4a8324845774b6042f4a6cc352c52c630c872c18935b99b69892", func := "linenpress/linenlaw.ScanSays", spec := "scanSays", unfollowed := true, recurses := true, named := ["linenpress/sum.fours"], apart := false, laid := [("linenpress/sum.fours", laid_linenpress_sum_fours)], narrowed := true }
def ScanSaysUptoSaid : Prop := scanSaysUptoRow.holds Tryd.pinned (OpenSpec.upto scanSaysSpec)

/-- 'linenkeep.PointBack', WHERE WHAT IT READS IS OF BULK AT MOST 1048576: true; the input reads as it did. -/
def pointBackUptoRow : OpenClaim := { program := "ytbakgobgjfhhhaadoor", sum := "1a520a086edb4a8324845774b6042f4a6cc352c52c630c872c18935b99b69892", func := "linenpress/linenkeep.PointBack", spec := "pointBack", named := ["linenpress/sum.fours"], apart := false, laid := [("linenpress/sum.fours", laid_linenpress_sum_fours)], narrowed := true }
def PointBackUptoSaid : Prop := pointBackUptoRow.holds Tryd.pinned (OpenSpec.upto pointBackSpec)

/-- 'linenkeep.PointTwins', WHERE WHAT IT READS IS OF BULK AT MOST 1048576: true; the input reads as it did. -/
def pointTwinsUptoRow : OpenClaim := { program := "ytbakgobgjfhhhaadoor", sum := "1a520a086edb4a8324845774b6042f4a6cc352c52c630c872c18935b99b69892", func := "linenpress/linenkeep.PointTwins", spec := "pointTwins", named := ["linenpress/sum.fours"], apart := false, laid := [("linenpress/sum.fours", laid_linenpress_sum_fours)], narrowed := true }
def PointTwinsUptoSaid : Prop := pointTwinsUptoRow.holds Tryd.pinned (OpenSpec.upto pointTwinsSpec)

end Rows
end Go.Proofs.YtbakgobgjfhhhaaDoor
