/- Places, inodes and maps that came in, as the walks want them. -/
import Derived.Test.YtbakgobgjfhhhaaDoorRdOpen
import Derived.Test.YtbakgobgjfhhhaaDoorPl
import Derived.Lib.SmallJoins
namespace Go.Proofs.YtbakgobgjfhhhaaDoor
open Go.RowKit Go.Deep Go.ChangeShapes

theorem cellsPla : Tryd.prog.cellsOf 67 = 2 := by kernel_rfl
theorem cellsIntL : Tryd.prog.cellsOf 3 = 1 := by kernel_rfl
theorem cellsPlas : Tryd.prog.cellsOf 22 = 1 := by kernel_rfl
theorem bytesPla : Tryd.prog.bytesOf 67 = 16 := by kernel_rfl
set_option maxRecDepth 20000 in
theorem pla_cells {H : Type} {enc : TypeId × Value → H} {W : World} {n : Nat} {cs : List Value} {y : DataW H × List MemPlace} (h : DataW.trod enc Tryd.prog W 0 (fun _ => true) true n 67 cs = some y) (hl : cs.length = 2) :
    ∃ p : Pla, cs = pl2 p ∧ PlaB p := by
  obtain ⟨y0, y1, n', hy, _, g0, g1⟩ := trod_struct2 Tryd.underlying67 h
  match cs, hl with
  | [x0, x1], _ =>
    have e0 : DataW.trod enc Tryd.prog W 0 (fun _ => true) true n' 3 [x0] = some y0 := by simpa [cellsIntL] using g0
    have e1 : DataW.trod enc Tryd.prog W 0 (fun _ => true) true n' 3 [x1] = some y1 := by simpa [cellsIntL] using g1
    obtain ⟨v, ev, _, wv⟩ := DataW.trod_int Tryd.underlying3 e0
    obtain ⟨u, eu, _, wu⟩ := DataW.trod_int Tryd.underlying3 e1
    simp at ev eu
    subst ev eu
    exact ⟨⟨v, u⟩, rfl, bounds_i64 wv, bounds_i64 wu⟩
set_option maxRecDepth 20000 in
theorem open_plsK {H : Type} {enc : TypeId × Value → H} {W : World} {fuel : Nat} {cs : List Value} {x : DataW H × List MemPlace} (hf : DataW.trod enc Tryd.prog W 0 (fun _ => true) true fuel 22 cs = some x) (hz : ∀ n ∈ x.1.weights Tryd.prog 22, n ≤ reachBytes) :
    ∃ a0 len cap, cs = [.slice a0 len cap] ∧ ∃ l, Pls W a0 len cap l := by
  have : Inhabited Pla := ⟨noPl⟩
  obtain ⟨a0, len, cap, h1, l, h2, h3, h4, h5, h6, h7, h8⟩ := open_rd (α := Pla) (cells := pl2) (good := PlaB) Tryd.underlying22 cellsPla (by decide) (fun _ => rfl) (fun n cs' y hy hl _ => pla_cells hy hl) hf hz
  rw [bytesPla] at h5
  have hr : reachBytes = 140737488351232 := by decide
  exact ⟨a0, len, cap, h1, l, h2, by omega, h3, h4, h6, h7, h8⟩
set_option maxRecDepth 20000 in
/-- a place that came in -/
theorem open_pl {H : Type} {enc : TypeId × Value → H} {W : World} {r : Reach} {base : Nat} {v : Value} {d : DataW H} {p : List MemPlace} (hv : Value.okWide Tryd.prog W r base 67 v)
    (h : DataW.Trod enc Tryd.prog W 0 (fun _ => true) true 67 v d p) : ∃ o : Pla, v = .agg #[.int .i64 o.cl, .int .i64 o.nh] ∧ PlaB o := by
  obtain ⟨cs, rfl, hcs⟩ := Go.WideShapes.okWide_struct Tryd.underlying67 hv
  rw [cellsPla] at hcs
  obtain ⟨fuel, hf⟩ := h
  obtain ⟨o, e, ho⟩ := pla_cells (cs := cs.toList) hf (by simpa using hcs)
  refine ⟨o, ?_, ho⟩
  have : cs = (pl2 o).toArray := by rw [← e]
  rw [this]; rfl
end Go.Proofs.YtbakgobgjfhhhaaDoor
