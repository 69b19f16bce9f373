/-
  No cell of these rows narrows 'for every input' (looked for: loops, veiled, ifaces, maps, wideKeys, modest, calm, conditions, laid).
  DERIVED. THE GIVEN ROWS OF THIS SEAT. 6 by the template 'for every input the law returns true; each argument reads behind the call as it read before'; 0 by the template 'total and deterministic' (their statements: YtgecdldahgfncabTotals.lean).
  GIVEN WITH THE SEED: the statements are not yours to turn. If you find one false, say at which input.
  Laid BY PROGRAM, IN A SANDBOX (cutbox-rows.mjs): the forced cells as the released guide's own fill.sh prints them over the translation 89a0f5d51935d9bf… (all of the seat's roots in one cut). By AI agents, Wed Nov 11 2026. No macro, syntax, notation, axiom, sorry.
-/
import Derived.Test.YtgecdldahgfncabChecked
import GoSem.Claim
import GoSem.ClaimJoined
import GoSem.ClaimMapViews
import Derived.JoinedTies
import Derived.KernelRfl
namespace Go.Proofs.Ytgecdldahgfncab
/- THE CELL 'sum', in the pinned program and in every row, IS THE sha256 OF THE DUMP (.gsa) THAT YtgecdldahgfncabProg.lean LOADS. Nothing in Lean hashes anything: it is a label: what it is worth is what the hold of that sum in a sandbox is worth. -/
noncomputable def Try.pinned : Pinned := { name := "ytgecdldahgfncab", sum := "89a0f5d51935d9bfbe2ec288db3250c77acae9a89810510b137a62fc322033ee", checked := Try.checked }
namespace Rows
def none {H : Type} : Left H := { results := [], args := [] }

/-- 'linenkeep.NumOne': WHATEVER THE INPUT: true; the input reads as it did. -/
def numOneSpec : ChangeSpec := { name := "numOne", fn := fun _ => fun
  | [d] => { results := [.lit (.bool true)], args := [d] }
  | _ => none }
def numOneRow : OpenClaim := { program := "ytgecdldahgfncab", sum := "89a0f5d51935d9bfbe2ec288db3250c77acae9a89810510b137a62fc322033ee", func := "linenpress/linenkeep.NumOne", spec := "numOne", apart := false }
def NumOneSaid : Prop := numOneRow.holds Try.pinned (OpenSpec.ofChange numOneSpec)

/-- ITS FALSE NEIGHBOUR: 'it returns false'. Refute it at one input. -/
def numOneWrong : ChangeSpec := { name := "numOne", fn := fun _ => fun
  | [d] => { results := [.lit (.bool false)], args := [d] }
  | _ => none }
def NumOneWrongFalsely : Prop := numOneRow.holds Try.pinned (OpenSpec.ofChange numOneWrong)

/-- 'linenkeep.NumCuts': WHATEVER THE INPUT: true; the input reads as it did. -/
def numCutsSpec : ChangeSpec := { name := "numCuts", fn := fun _ => fun
  | [d1, d2] => { results := [.lit (.bool true)], args := [d1, d2] }
  | _ => none }
def numCutsRow : OpenClaim := { program := "ytgecdldahgfncab", sum := "89a0f5d51935d9bfbe2ec288db3250c77acae9a89810510b137a62fc322033ee", func := "linenpress/linenkeep.NumCuts", spec := "numCuts", apart := false }
def NumCutsSaid : Prop := numCutsRow.holds Try.pinned (OpenSpec.ofChange numCutsSpec)

/-- ITS FALSE NEIGHBOUR: 'it returns false'. Refute it at one input. -/
def numCutsWrong : ChangeSpec := { name := "numCuts", fn := fun _ => fun
  | [d1, d2] => { results := [.lit (.bool false)], args := [d1, d2] }
  | _ => none }
def NumCutsWrongFalsely : Prop := numCutsRow.holds Try.pinned (OpenSpec.ofChange numCutsWrong)

/-- 'linenkeep.NumOrders': WHATEVER THE INPUT: true; the input reads as it did. -/
def numOrdersSpec : ChangeSpec := { name := "numOrders", fn := fun _ => fun
  | [d1, d2] => { results := [.lit (.bool true)], args := [d1, d2] }
  | _ => none }
def numOrdersRow : OpenClaim := { program := "ytgecdldahgfncab", sum := "89a0f5d51935d9bfbe2ec288db3250c77acae9a89810510b137a62fc322033ee", func := "linenpress/linenkeep.NumOrders", spec := "numOrders", unfollowed := true, recurses := true, apart := false }
def NumOrdersSaid : Prop := numOrdersRow.holds Try.pinned (OpenSpec.ofChange numOrdersSpec)

/-- ITS FALSE NEIGHBOUR: 'it returns false'. Refute it at one input. -/
def numOrdersWrong : ChangeSpec := { name := "numOrders", fn := fun _ => fun
  | [d1, d2] => { results := [.lit (.bool false)], args := [d1, d2] }
  | _ => none }
def NumOrdersWrongFalsely : Prop := numOrdersRow.holds Try.pinned (OpenSpec.ofChange numOrdersWrong)

/-- 'linenkeep.LensFree': WHATEVER THE INPUT: true; the input reads as it did. -/
def lensFreeSpec : ChangeSpec := { name := "lensFree", fn := fun _ => fun
  | [d] => { results := [.lit (.bool true)], args := [d] }
  | _ => none }
def lensFreeRow : OpenClaim := { program := "ytgecdldahgfncab", sum := "89a0f5d51935d9bfbe2ec288db3250c77acae9a89810510b137a62fc322033ee", func := "linenpress/linenkeep.LensFree", spec := "lensFree", apart := false }
def LensFreeSaid : Prop := lensFreeRow.holds Try.pinned (OpenSpec.ofChange lensFreeSpec)

/-- ITS FALSE NEIGHBOUR: 'it returns false'. Refute it at one input. -/
def lensFreeWrong : ChangeSpec := { name := "lensFree", fn := fun _ => fun
  | [d] => { results := [.lit (.bool false)], args := [d] }
  | _ => none }
def LensFreeWrongFalsely : Prop := lensFreeRow.holds Try.pinned (OpenSpec.ofChange lensFreeWrong)

/-- 'linenkeep.LensTiles': WHATEVER THE INPUT: true; the input reads as it did. -/
def lensTilesSpec : ChangeSpec := { name := "lensTiles", fn := fun _ => fun
  | [d] => { results := [.lit (.bool true)], args := [d] }
  | _ => none }
def lensTilesRow : OpenClaim := { program := "ytgecdldahgfncab", sum := "89a0f5d51935d9bfbe2ec288db3250c77acae9a89810510b137a62fc322033ee", func := "linenpress/linenkeep.LensTiles", spec := "lensTiles", apart := false }
def LensTilesSaid : Prop := lensTilesRow.holds Try.pinned (OpenSpec.ofChange lensTilesSpec)

/-- ITS FALSE NEIGHBOUR: 'it returns false'. Refute it at one input. -/
def lensTilesWrong : ChangeSpec := { name := "lensTiles", fn := fun _ => fun
  | [d] => { results := [.lit (.bool false)], args := [d] }
  | _ => none }
def LensTilesWrongFalsely : Prop := lensTilesRow.holds Try.pinned (OpenSpec.ofChange lensTilesWrong)

/-- 'linenkeep.LensMore': WHATEVER THE INPUT: true; the input reads as it did. -/
def lensMoreSpec : ChangeSpec := { name := "lensMore", fn := fun _ => fun
  | [d1, d2] => { results := [.lit (.bool true)], args := [d1, d2] }
  | _ => none }
def lensMoreRow : OpenClaim := { program := "ytgecdldahgfncab", sum := "89a0f5d51935d9bfbe2ec288db3250c77acae9a89810510b137a62fc322033ee", func := "linenpress/linenkeep.LensMore", spec := "lensMore", apart := false }
def LensMoreSaid : Prop := lensMoreRow.holds Try.pinned (OpenSpec.ofChange lensMoreSpec)

/-- ITS FALSE NEIGHBOUR: 'it returns false'. Refute it at one input. -/
def lensMoreWrong : ChangeSpec := { name := "lensMore", fn := fun _ => fun
  | [d1, d2] => { results := [.lit (.bool false)], args := [d1, d2] }
  | _ => none }
def LensMoreWrongFalsely : Prop := lensMoreRow.holds Try.pinned (OpenSpec.ofChange lensMoreWrong)

/- THE SECOND FORM. 'bulk': how many values and letters a reading holds, each counted each time it is reached (what is shared counts as often as it is met; a slice's spare places count too). A statement '..UptoSaid' is the law's where the arguments, and the package variables that the reading takes, are together of bulk at most 1048576: NARROWER than '..Said'. Prove '..Said' where nothing that the law and all that it calls make is longer than what came in: it says more and counts as full. Else prove '..UptoSaid'. A law counts once. -/
mutual
def uptoBulk {H : Type} : DataW H → Nat
  | .lit (.string bytes) => bytes.length + 1
  | .lit _ => 1
  | .nil => 1
  | .ptr d => uptoBulk d + 1
  | .slice elems spare => uptoBulkAll elems + uptoBulkAll spare + 1
  | .agg parts => uptoBulkAll parts + 1
  | .iface _ d => uptoBulk d + 1
  | .map entries => uptoBulkEntries entries + 1
  | .held _ => 1
def uptoBulkAll {H : Type} : List (DataW H) → Nat
  | [] => 0
  | d :: r => uptoBulk d + uptoBulkAll r
def uptoBulkEntries {H : Type} : List (Lit × DataW H) → Nat
  | [] => 0
  | x :: r => uptoBulkEntry x + uptoBulkEntries r
def uptoBulkEntry {H : Type} : Lit × DataW H → Nat
  | (.string bytes, d) => bytes.length + uptoBulk d + 1
  | (_, d) => uptoBulk d + 1
 end
def uptoSmall : (H : Type) → List (DataW H) → Bool := fun _ ds => decide (uptoBulkAll ds ≤ 1048576)
def OpenSpec.upto (s : _root_.Go.ChangeSpec) : _root_.Go.OpenSpec := { _root_.Go.OpenSpec.ofChange s with cond := some uptoSmall }

/-- 'linenkeep.NumOne', WHERE WHAT IT READS IS OF BULK AT MOST 1048576: true; the input reads as it did. -/
def numOneUptoRow : OpenClaim := { program := "ytgecdldahgfncab", sum := "89a0f5d51935d9bfbe2ec288db3250c77acae9a89810510b137a62fc322033ee", func := "linenpress/linenkeep.NumOne", spec := "numOne", apart := false, narrowed := true }
def NumOneUptoSaid : Prop := numOneUptoRow.holds Try.pinned (OpenSpec.upto numOneSpec)

/-- 'linenkeep.NumCuts', WHERE WHAT IT READS IS OF BULK AT MOST 1048576: true; the input reads as it did. -/
def numCutsUptoRow : OpenClaim := { program := "ytgecdldahgfncab", sum := "89a0f5d51935d9bfbe2ec288db3250c77acae9a89810510b137a62fc322033ee", func := "linenpress/linenkeep.NumCuts", spec := "numCuts", apart := false, narrowed := true }
def NumCutsUptoSaid : Prop := numCutsUptoRow.holds Try.pinned (OpenSpec.upto numCutsSpec)

/-- 'linenkeep.NumOrders', WHERE WHAT IT READS IS OF BULK AT MOST 1048576: true; the input reads as it did. -/
def numOrdersUptoRow : OpenClaim := { program := "ytgecdldahgfncab", sum := "89a0f5d51935d9bfbe2ec288db3250c77acae9a89810510b137a62fc322033ee", func := "linenpress/linenkeep.NumOrders", spec := "numOrders", unfollowed := true, recurses := true, apart := false, narrowed := true }
def NumOrdersUptoSaid : Prop := numOrdersUptoRow.holds Try.pinned (OpenSpec.upto numOrdersSpec)

/-- 'linenkeep.LensFree', WHERE WHAT IT READS IS OF BULK AT MOST 1048576: true; the input reads as it did. -/
def lensFreeUptoRow : OpenClaim := { program := "ytgecdldahgfncab", sum := "89a0f5d51935d9bfbe2ec288db3250c77acae9a89810510b137a62fc322033ee", func := "linenpress/linenkeep.LensFree", spec := "lensFree", apart := false, narrowed := true }
def LensFreeUptoSaid : Prop := lensFreeUptoRow.holds Try.pinned (OpenSpec.upto lensFreeSpec)

/-- 'linenkeep.LensTiles', WHERE WHAT IT READS IS OF BULK AT MOST 1048576: true; the input reads as it did. -/
def lensTilesUptoRow : OpenClaim := { program := "ytgecdldahgfncab", sum := "89a0f5d51935d9bfbe2ec288db3250c77acae9a89810510b137a62fc322033ee", func := "linenpress/linenkeep.LensTiles", spec := "lensTiles", apart := false, narrowed := true }
def LensTilesUptoSaid : Prop := lensTilesUptoRow.holds Try.pinned (OpenSpec.upto lensTilesSpec)

/-- 'linenkeep.LensMore', WHERE WHAT IT READS IS OF BULK AT MOST 1048576: true; the input reads as it did. -/
def lensMoreUptoRow : OpenClaim := { program := "ytgecdldahgfncab", sum := "89a0f5d51935d9bfbe2ec288db3250c77acae9a89810510b137a62fc322033ee", func := "linenpress/linenkeep.LensMore", spec := "lensMore", apart := false, narrowed := true }
def LensMoreUptoSaid : Prop := lensMoreUptoRow.holds Try.pinned (OpenSpec.upto lensMoreSpec)

end Rows
end Go.Proofs.Ytgecdldahgfncab
