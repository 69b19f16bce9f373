/- Blobs that came in, as the walks want them. -/
import Derived.Test.YtjfmpnphlpeikaaStrCells
import Derived.Test.YtjfmpnphlpeikaaBl
import Derived.Lib.SmallJoins
namespace Go.Proofs.Ytjfmpnphlpeikaa
open Go.RowKit Go.Deep Go.ChangeShapes

theorem cellsBlob : Try.prog.cellsOf 24 = 4 := by kernel_rfl
theorem bytesBlob : Try.prog.bytesOf 24 = 40 := by kernel_rfl
theorem blob_cells {H : Type} {enc : TypeId × Value → H} {W : World} {n : Nat} {cs : List Value} {y : DataW H × List MemPlace} (h : DataW.trod enc Try.prog W 0 (fun _ => true) true n 24 cs = some y) (hl : cs.length = 4) (hz : ∀ k ∈ y.1.weights Try.prog 24, k ≤ reachBytes) :
    ∃ o : Blb, cs = bl4 o ∧ BlB o := by
  obtain ⟨y0, y1, y2, y3, n', hy, _, g0, g1, g2, g3⟩ := Go.Joins.trod_struct4 Try.underlying24 h
  match cs, hl with
  | [x0, x1, x2, x3], _ =>
    have e0 : DataW.trod enc Try.prog W 0 (fun _ => true) true n' 3 [x0] = some y0 := by simpa [cellsIntK, cellsStr] using g0
    have e1 : DataW.trod enc Try.prog W 0 (fun _ => true) true n' 3 [x1] = some y1 := by simpa [cellsIntK, cellsStr] using g1
    have e2 : DataW.trod enc Try.prog W 0 (fun _ => true) true n' 3 [x2] = some y2 := by simpa [cellsIntK, cellsStr] using g2
    have e3 : DataW.trod enc Try.prog W 0 (fun _ => true) true n' 9 [x3] = some y3 := by simpa [cellsIntK, cellsStr] using g3
    obtain ⟨v, ev, _, wv⟩ := DataW.trod_int Try.underlying3 e0
    obtain ⟨u, eu, _, wu⟩ := DataW.trod_int Try.underlying3 e1
    obtain ⟨t, et, _, wt⟩ := DataW.trod_int Try.underlying3 e2
    obtain ⟨s, es, hs⟩ := str_cells e3 (fun k hk => hz k (by
      rw [hy, DataW.weights, Try.underlying24]
      simp only [List.map_cons, List.map_nil, DataW.weightsEach, List.mem_append]
      exact .inr (.inr (.inr (.inl hk)))))
    simp at ev eu et es
    subst ev eu et es
    exact ⟨⟨v, u, t, s⟩, rfl, ⟨bounds_i64 wv, bounds_i64 wu, bounds_i64 wt, hs⟩⟩
theorem open_bls {H : Type} {enc : TypeId × Value → H} {W : World} {a0 : Option Addr} {len cap : Nat} {d : DataW H} {p : List MemPlace} (h : DataW.Trod enc Try.prog W 0 (fun _ => true) true 22 (.slice a0 len cap) d p) (hz : ∀ n ∈ d.weights Try.prog 22, n ≤ reachBytes) :
    ∃ l, Bls W a0 len cap l := by
  have : Inhabited Blb := ⟨noBl⟩
  obtain ⟨fuel, hf⟩ := h
  obtain ⟨a1, len1, cap1, h1, l, h2, h3, h4, h5, h6, h7, h8⟩ := open_rd (α := Blb) (cells := bl4) (good := BlB) Try.underlying22 cellsBlob (by decide) (fun _ => rfl) (fun n cs' y hy hl hz' => blob_cells hy hl hz') hf hz
  rw [bytesBlob] at h5
  have hr : reachBytes = 140737488351232 := by decide
  simp only [Value.cells] at h1
  simp at h1
  obtain ⟨rfl, rfl, rfl⟩ := h1
  exact ⟨l, h2, by omega, h3, h4, h6, h7, h8⟩
/-- a blob that came in -/
theorem open_bl {H : Type} {enc : TypeId × Value → H} {W : World} {r : Reach} {base : Nat} {v : Value} {d : DataW H} {p : List MemPlace} (hv : Value.okWide Try.prog W r base 24 v)
    (h : DataW.Trod enc Try.prog W 0 (fun _ => true) true 24 v d p) (hz : ∀ n ∈ d.weights Try.prog 24, n ≤ reachBytes) : ∃ o : Blb, v = .agg #[.int .i64 o.kd, .int .i64 o.io, .int .i64 o.nt, .string o.tx] ∧ BlB o := by
  obtain ⟨cs, rfl, hcs⟩ := Go.WideShapes.okWide_struct Try.underlying24 hv
  rw [cellsBlob] at hcs
  obtain ⟨fuel, hf⟩ := h
  obtain ⟨o, e, ho⟩ := blob_cells (cs := cs.toList) hf (by simpa using hcs) hz
  refine ⟨o, ?_, ho⟩
  have : cs = (bl4 o).toArray := by rw [← e]
  rw [this]; rfl
end Go.Proofs.Ytjfmpnphlpeikaa
