/- Small laws: an element of an array that is held by value; whole arrays read and written. -/
import Derived.Test.YtjfkbkhfnnmbnabDoorBase
import Derived.Laws.Rows
namespace Go.Proofs.YtjfkbkhfnnmbnabDoor
open Go.RowKit

theorem run_index_array {P : Program} (w : World) (t e : TypeId) (n : Nat) (d : TypeDesc) (cs : Array Value) (i : Nat) (v : Value) (h : P.underlying t = some (.array n e)) (hi : i < n)
    (he : P.underlying e = some d) (hd : (match d with | .struct _ | .array _ _ => true | _ => false) = false) (h1 : (P.info? e).map (·.size) = some 1) (hv : cs[i]? = some v) :
    (Instr.index t (.agg cs) (.int .i64 (i : Int))).run P w = .ok v w := by
  have hin : 0 ≤ (i : Int) ∧ (i : Int) < (n : Int) := by omega
  have hagg : (isAgg e).run P w = .ok false w := by
    unfold isAgg
    rw [Sem.run_bind, run_underlying he w]
    cases d <;> simp_all
  cases hq : P.info? e with
  | none => simp [hq] at h1
  | some q =>
    have hs : q.size = 1 := by simpa [hq] using h1
    simp [Instr.index, run_underlying h, asIntOf, hin, go_sem, part, sizeOf, typeInfo, hq, hs, hagg, Sem.run_bind, hv]
    intro hb; omega
end Go.Proofs.YtjfkbkhfnnmbnabDoor
