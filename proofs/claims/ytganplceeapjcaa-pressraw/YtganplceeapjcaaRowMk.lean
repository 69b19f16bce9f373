/- A row of marks of the call's own. -/
import Derived.Test.YtganplceeapjcaaMks
import Derived.Test.YtganplceeapjcaaGrow
import Derived.Deep.OwnRows
import Derived.OwnWalk
namespace Go.Proofs.Ytganplceeapjcaa
open Go.RowKit

theorem infoMk : (Try.prog.info? 53).map (fun i => (i.zero, i.size, i.bytes)) = some (some (.agg #[.int .i64 0, .int .i64 0, .int .u8 0]), 3, 24) := by kernel_rfl
def mk3 (m : Mk) : List Value := [.int .i64 m.ln, .int .i64 m.ds, .int .u8 (m.by' : Int)]
def mkC (l : List Mk) : List Value := l.flatMap mk3
theorem mkC_snoc (l : List Mk) (m : Mk) : mkC (l ++ [m]) = mkC l ++ mk3 m := by simp [mkC]
theorem mkC_length (l : List Mk) : (mkC l).length = l.length * 3 := by
  induction l with
  | nil => rfl
  | cons m t ih => rw [mkC, List.flatMap_cons, List.length_append, ← mkC, ih]; simp [mk3]; omega
theorem mkC_at (l : List Mk) : ∀ i (h : i < l.length), (mkC l)[i * 3]? = some (.int .i64 l[i].ln) ∧ (mkC l)[i * 3 + 1]? = some (.int .i64 l[i].ds) ∧ (mkC l)[i * 3 + 2]? = some (.int .u8 (l[i].by' : Int)) := by
  induction l with
  | nil => intro i h; simp at h
  | cons m t ih =>
    intro i h
    have e : mkC (m :: t) = .int .i64 m.ln :: .int .i64 m.ds :: .int .u8 (m.by' : Int) :: mkC t := by simp [mkC, mk3]
    rw [e]
    cases i with
    | zero => exact ⟨rfl, rfl, rfl⟩
    | succ i =>
      have := ih i (by simpa using h)
      rw [show (i + 1) * 3 = i * 3 + 1 + 1 + 1 by omega]
      simp only [List.getElem?_cons_succ, List.getElem_cons_succ]
      exact this
theorem mk3_one (m : Mk) : ∀ u ∈ mk3 m, u.oneCell' = true := by
  intro u hu
  simp only [mk3, List.mem_cons, List.not_mem_nil, or_false] at hu
  rcases hu with rfl | rfl | rfl <;> rfl
theorem cells_mk3 (w : World) (m : Mk) (t : TypeId) : ∀ j u, (mk3 m)[j]? = some u → (w.alloc (.cells #[.int .i64 m.ln, .int .i64 m.ds, .int .u8 (m.by' : Int)] t)).cell? ((⟨w.heap.size, 0, none⟩ : Addr).add j) = some u := by
  intro j u hj
  rw [show (⟨w.heap.size, 0, none⟩ : Addr).add j = ⟨w.heap.size, j, none⟩ by unfold Addr.add; split <;> simp_all, World.cell?_alloc_new]
  match j with
  | 0 => exact hj
  | 1 => exact hj
  | 2 => exact hj
  | j + 3 => simp [mk3] at hj
/-- a list as a row -/
def rowM (l : List Mk) (i : Nat) : Mk := l.getD i ⟨0, 0, 0⟩
theorem mkL_row (l : List Mk) : mkL (rowM l) 0 l.length = l := by
  apply List.ext_getElem
  · rw [mkL_length]; omega
  · intro i h1 h2
    simp only [mkL, List.getElem_map, List.getElem_range, Nat.zero_add, rowM]
    rw [List.getD_eq_getElem?_getD, List.getElem?_eq_getElem h2]; rfl
theorem mks_of_own {w : World} {N n : Nat} {v : Value} {l : List Mk} (h : w.ownsRow N 53 3 v n (mkC l)) (hn : n = l.length) (hl : l.length ≤ 5864062014805)
    (hB : ∀ m ∈ l, (-9223372036854775808 ≤ m.ln ∧ m.ln ≤ 9223372036854775807) ∧ (-9223372036854775808 ≤ m.ds ∧ m.ds ≤ 9223372036854775807) ∧ m.by' < 256) : ∃ ao cap, v = .slice ao n cap ∧ n ≤ cap ∧ cap ≤ maxLen ∧ Mks w ao n (rowM l) := by
  have hg : ∀ i (hi : i < l.length), rowM l i = l[i] := fun i hi => by unfold rowM; rw [List.getD_eq_getElem?_getD, List.getElem?_eq_getElem hi]; rfl
  have hb : ∀ i, i < l.length → (-9223372036854775808 ≤ (rowM l i).ln ∧ (rowM l i).ln ≤ 9223372036854775807) ∧ (-9223372036854775808 ≤ (rowM l i).ds ∧ (rowM l i).ds ≤ 9223372036854775807) ∧ (rowM l i).by' < 256 := fun i hi => by rw [hg i hi]; exact hB _ (List.getElem_mem hi)
  subst hn
  rcases h.2 with ⟨rfl, h0⟩ | ⟨g, cap, cur, rfl, _, hgg, hc1, hc2, _, _⟩
  · exact ⟨none, 0, by rw [h0], by omega, Nat.zero_le _, hl, fun hp => by omega, fun i hi => (hb i hi).1, fun i hi => (hb i hi).2.1, fun i hi => (hb i hi).2.2⟩
  · refine ⟨some ⟨g, 0, none⟩, cap, rfl, hc1, hc2, hl, fun _ => ⟨g, 0, rfl, (Array.getElem?_eq_some_iff.1 hgg).1, fun i hi => ?_⟩, fun i hi => (hb i hi).1, fun i hi => (hb i hi).2.1, fun i hi => (hb i hi).2.2⟩
    obtain ⟨m1, m2, m3⟩ := mkC_at l i hi
    rw [hg i hi, Nat.zero_add, h.cellAt (i * 3) (by omega), h.cellAt (i * 3 + 1) (by omega), h.cellAt (i * 3 + 2) (by omega)]
    exact ⟨m1, m2, m3⟩
end Go.Proofs.Ytganplceeapjcaa
