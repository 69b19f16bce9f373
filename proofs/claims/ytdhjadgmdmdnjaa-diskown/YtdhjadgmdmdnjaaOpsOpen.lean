/- Ops that came in, as the walks want them. -/
import Derived.Test.YtdhjadgmdmdnjaaRdOpen
import Derived.Test.YtdhjadgmdmdnjaaOps
import Derived.Test.YtdhjadgmdmdnjaaDkOpen
namespace Go.Proofs.Ytdhjadgmdmdnjaa
open Go.RowKit Go.Deep Go.ChangeShapes

theorem cellsOp : Try.prog.cellsOf 29 = 3 := by kernel_rfl
theorem bytesOp : Try.prog.bytesOf 29 = 32 := by kernel_rfl
theorem op_cells {H : Type} {enc : TypeId × Value → H} {W : World} {n : Nat} {cs : List Value} {y : DataW H × List MemPlace} (h : DataW.trod enc Try.prog W 0 (fun _ => true) true n 29 cs = some y) (hl : cs.length = 3) (hz : ∀ k ∈ y.1.weights Try.prog 29, k ≤ reachBytes) :
    ∃ o : Opp, cs = op3 o ∧ (((-9223372036854775808 ≤ o.kd ∧ o.kd ≤ 9223372036854775807) ∧ (-9223372036854775808 ≤ o.pl ∧ o.pl ≤ 9223372036854775807)) ∧ o.tx.size ≤ 140737488355328) := by
  obtain ⟨y0, y1, y2, n', hy, _, g0, g1, g2⟩ := trod_struct3 Try.underlying29 h
  match cs, hl with
  | [x0, x1, x2], _ =>
    have e0 : DataW.trod enc Try.prog W 0 (fun _ => true) true n' 3 [x0] = some y0 := by simpa [cellsIntK, cellsStr] using g0
    have e1 : DataW.trod enc Try.prog W 0 (fun _ => true) true n' 3 [x1] = some y1 := by simpa [cellsIntK, cellsStr] using g1
    have e2 : DataW.trod enc Try.prog W 0 (fun _ => true) true n' 9 [x2] = some y2 := by simpa [cellsIntK, cellsStr] using g2
    obtain ⟨v, ev, _, wv⟩ := DataW.trod_int Try.underlying3 e0
    obtain ⟨u, eu, _, wu⟩ := DataW.trod_int Try.underlying3 e1
    obtain ⟨s, es, hs⟩ := str_cells e2 (fun k hk => hz k (by
      rw [hy, DataW.weights, Try.underlying29]
      simp only [List.map_cons, List.map_nil, DataW.weightsEach, List.mem_append]
      exact .inr (.inr (.inl hk))))
    simp at ev eu es
    subst ev eu es
    exact ⟨⟨v, u, s⟩, rfl, ⟨bounds_i64 wv, bounds_i64 wu⟩, hs⟩
theorem open_ops {H : Type} {enc : TypeId × Value → H} {W : World} {a0 : Option Addr} {len cap : Nat} {d : DataW H} {p : List MemPlace} (h : DataW.Trod enc Try.prog W 0 (fun _ => true) true 26 (.slice a0 len cap) d p) (hz : ∀ n ∈ d.weights Try.prog 26, n ≤ reachBytes) :
    ∃ l, OpsIn W a0 len cap l := by
  have : Inhabited Opp := ⟨noOp⟩
  obtain ⟨fuel, hf⟩ := h
  obtain ⟨a1, len1, cap1, h1, l, h2, h3, h4, h5, h6, h7, h8⟩ := open_rd (α := Opp) (cells := op3) (good := fun o => ((-9223372036854775808 ≤ o.kd ∧ o.kd ≤ 9223372036854775807) ∧ (-9223372036854775808 ≤ o.pl ∧ o.pl ≤ 9223372036854775807)) ∧ o.tx.size ≤ 140737488355328) Try.underlying26 cellsOp (by decide) (fun _ => rfl) (fun n cs' y hy hl hz' => op_cells hy hl hz') hf hz
  rw [bytesOp] at h5
  have hr : reachBytes = 140737488351232 := by decide
  simp only [Value.cells] at h1
  simp at h1
  obtain ⟨rfl, rfl, rfl⟩ := h1
  exact ⟨l, ⟨h2, by omega, h3, fun o ho => (h4 o ho).1, fun o ho => (h4 o ho).2, h6, h7, h8⟩, by omega⟩
end Go.Proofs.Ytdhjadgmdmdnjaa
