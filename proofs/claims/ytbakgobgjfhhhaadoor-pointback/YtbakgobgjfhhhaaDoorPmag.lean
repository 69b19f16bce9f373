/- Texts of ours, one behind the other: PlOpen ImOpen PtOpen -/
import Derived.Test.YtbakgobgjfhhhaaDoorPmae
import Derived.Test.YtbakgobgjfhhhaaDoorPmaf
import Derived.Lib.SmallJoins

/- Places, inodes and maps that came in, as the walks want them. -/
namespace Go.Proofs.YtbakgobgjfhhhaaDoor
open Go.RowKit Go.Deep Go.ChangeShapes

theorem cellsPla : Tryd.prog.cellsOf 67 = 2 := by kernel_rfl
theorem cellsIntL : Tryd.prog.cellsOf 3 = 1 := by kernel_rfl
theorem cellsPlas : Tryd.prog.cellsOf 22 = 1 := by kernel_rfl
theorem bytesPla : Tryd.prog.bytesOf 67 = 16 := by kernel_rfl
set_option maxRecDepth 20000 in
theorem pla_cells {H : Type} {enc : TypeId × Value → H} {W : World} {n : Nat} {cs : List Value} {y : DataW H × List MemPlace} (h : DataW.trod enc Tryd.prog W 0 (fun _ => true) true n 67 cs = some y) (hl : cs.length = 2) :
    ∃ p : Pla, cs = pl2 p ∧ PlaB p := by
  obtain ⟨y0, y1, n', hy, _, g0, g1⟩ := trod_struct2 Tryd.underlying67 h
  match cs, hl with
  | [x0, x1], _ =>
    have e0 : DataW.trod enc Tryd.prog W 0 (fun _ => true) true n' 3 [x0] = some y0 := by simpa [cellsIntL] using g0
    have e1 : DataW.trod enc Tryd.prog W 0 (fun _ => true) true n' 3 [x1] = some y1 := by simpa [cellsIntL] using g1
    obtain ⟨v, ev, _, wv⟩ := DataW.trod_int Tryd.underlying3 e0
    obtain ⟨u, eu, _, wu⟩ := DataW.trod_int Tryd.underlying3 e1
    simp at ev eu
    subst ev eu
    exact ⟨⟨v, u⟩, rfl, bounds_i64 wv, bounds_i64 wu⟩
set_option maxRecDepth 20000 in
theorem open_plsK {H : Type} {enc : TypeId × Value → H} {W : World} {fuel : Nat} {cs : List Value} {x : DataW H × List MemPlace} (hf : DataW.trod enc Tryd.prog W 0 (fun _ => true) true fuel 22 cs = some x) (hz : ∀ n ∈ x.1.weights Tryd.prog 22, n ≤ reachBytes) :
    ∃ a0 len cap, cs = [.slice a0 len cap] ∧ ∃ l, Pls W a0 len cap l := by
  have : Inhabited Pla := ⟨noPl⟩
  obtain ⟨a0, len, cap, h1, l, h2, h3, h4, h5, h6, h7, h8⟩ := open_rd (α := Pla) (cells := pl2) (good := PlaB) Tryd.underlying22 cellsPla (by decide) (fun _ => rfl) (fun n cs' y hy hl _ => pla_cells hy hl) hf hz
  rw [bytesPla] at h5
  have hr : reachBytes = 140737488351232 := by decide
  exact ⟨a0, len, cap, h1, l, h2, by omega, h3, h4, h6, h7, h8⟩
set_option maxRecDepth 20000 in
/-- a place that came in -/
theorem open_pl {H : Type} {enc : TypeId × Value → H} {W : World} {r : Reach} {base : Nat} {v : Value} {d : DataW H} {p : List MemPlace} (hv : Value.okWide Tryd.prog W r base 67 v)
    (h : DataW.Trod enc Tryd.prog W 0 (fun _ => true) true 67 v d p) : ∃ o : Pla, v = .agg #[.int .i64 o.cl, .int .i64 o.nh] ∧ PlaB o := by
  obtain ⟨cs, rfl, hcs⟩ := Go.WideShapes.okWide_struct Tryd.underlying67 hv
  rw [cellsPla] at hcs
  obtain ⟨fuel, hf⟩ := h
  obtain ⟨o, e, ho⟩ := pla_cells (cs := cs.toList) hf (by simpa using hcs)
  refine ⟨o, ?_, ho⟩
  have : cs = (pl2 o).toArray := by rw [← e]
  rw [this]; rfl
end Go.Proofs.YtbakgobgjfhhhaaDoor

/- Maps of inodes that came in. -/
namespace Go.Proofs.YtbakgobgjfhhhaaDoor
open Go.RowKit Go.Deep Go.ChangeShapes

theorem cellsIntsL : Tryd.prog.cellsOf 23 = 1 := by kernel_rfl
theorem bytesIntL : Tryd.prog.bytesOf 3 = 8 := by kernel_rfl
theorem cellsImap : Tryd.prog.cellsOf 25 = 2 := by kernel_rfl
theorem inC_flat (l : List Int) : l.flatMap (fun x => [Value.int .i64 x]) = inC l := by
  induction l with
  | nil => rfl
  | cons x t ih => rw [List.flatMap_cons, ih]; rfl
set_option maxRecDepth 20000 in
theorem open_itsK {H : Type} {enc : TypeId × Value → H} {W : World} {fuel : Nat} {cs : List Value} {x : DataW H × List MemPlace} (hf : DataW.trod enc Tryd.prog W 0 (fun _ => true) true fuel 23 cs = some x) (hz : ∀ n ∈ x.1.weights Tryd.prog 23, n ≤ reachBytes) :
    ∃ a0 len cap, cs = [.slice a0 len cap] ∧ ∃ l, Its W a0 len cap l := by
  obtain ⟨a0, len, cap, h1, l, h2, h3, h4, h5, h6, h7, h8⟩ := open_rd (α := Int) (cells := fun x => [Value.int .i64 x]) (good := I64) Tryd.underlying23 cellsIntL (by decide) (fun _ => rfl) (fun n cs' y hy hl _ => by
    match cs', hl with
    | [x0], _ =>
      obtain ⟨v, ev, _, wv⟩ := DataW.trod_int Tryd.underlying3 hy
      simp at ev
      subst ev
      exact ⟨v, rfl, bounds_i64 wv⟩) hf hz
  rw [inC_flat] at h3
  rw [bytesIntL] at h5
  have hr : reachBytes = 140737488351232 := by decide
  exact ⟨a0, len, cap, h1, l, h2, by omega, h3, h4, h6, h7, h8⟩
set_option maxRecDepth 20000 in
theorem open_im {H : Type} {enc : TypeId × Value → H} {W : World} {r : Reach} {base : Nat} {v : Value} {d : DataW H} {p : List MemPlace} (hv : Value.okWide Tryd.prog W r base 25 v)
    (h : DataW.Trod enc Tryd.prog W 0 (fun _ => true) true 25 v d p) (hz : ∀ n ∈ d.weights Tryd.prog 25, n ≤ reachBytes) :
    ∃ (a0 : Option Addr) (n c : Nat) (a1 : Option Addr) (m e : Nat) (P : List Pla) (G : List Int), v = .agg #[.slice a0 n c, .slice a1 m e] ∧ Pls W a0 n c P ∧ Its W a1 m e G := by
  obtain ⟨cs, rfl, hcs⟩ := Go.WideShapes.okWide_struct Tryd.underlying25 hv
  rw [cellsImap] at hcs
  obtain ⟨fuel, hf⟩ := h
  have hf' : DataW.trod enc Tryd.prog W 0 (fun _ => true) true fuel 25 cs.toList = some (d, p) := hf
  obtain ⟨y0, y1, n', hy, _, g0, g1⟩ := trod_struct2 Tryd.underlying25 hf'
  have hd : d = .agg [y0.1, y1.1] := congrArg Prod.fst hy
  have hz0 : ∀ k ∈ y0.1.weights Tryd.prog 22, k ≤ reachBytes := fun k hk => hz k (by
    rw [hd, DataW.weights, Tryd.underlying25]
    simp only [List.map_cons, List.map_nil, DataW.weightsEach, List.mem_append]
    exact .inl hk)
  have hz1 : ∀ k ∈ y1.1.weights Tryd.prog 23, k ≤ reachBytes := fun k hk => hz k (by
    rw [hd, DataW.weights, Tryd.underlying25]
    simp only [List.map_cons, List.map_nil, DataW.weightsEach, List.mem_append]
    exact .inr (.inl hk))
  obtain ⟨l, hl⟩ : ∃ l, cs.toList = l := ⟨_, rfl⟩
  have hlen : l.length = 2 := by rw [← hl, Array.length_toList]; exact hcs
  rw [hl] at g0 g1
  match l, hlen with
  | [x0, x1], _ =>
    have e0 : DataW.trod enc Tryd.prog W 0 (fun _ => true) true n' 22 [x0] = some y0 := by simpa [cellsPlas, cellsIntsL] using g0
    have e1 : DataW.trod enc Tryd.prog W 0 (fun _ => true) true n' 23 [x1] = some y1 := by simpa [cellsPlas, cellsIntsL] using g1
    obtain ⟨a0, n, c, k1, P, k2⟩ := open_plsK e0 hz0
    obtain ⟨a1, m, e, j1, G, j2⟩ := open_itsK e1 hz1
    simp only [List.cons.injEq, and_true] at k1 j1
    subst k1 j1
    have hcs2 : cs = #[.slice a0 n c, .slice a1 m e] := by
      apply Array.toList_inj.1
      rw [hl]
    exact ⟨a0, n, c, a1, m, e, P, G, by rw [hcs2], k2, j2⟩
end Go.Proofs.YtbakgobgjfhhhaaDoor

/- Check points that came in. -/
namespace Go.Proofs.YtbakgobgjfhhhaaDoor
open Go.RowKit Go.Deep Go.ChangeShapes

theorem cellsPoint : Tryd.prog.cellsOf 27 = 3 := by kernel_rfl
set_option maxRecDepth 20000 in
theorem open_imK {H : Type} {enc : TypeId × Value → H} {W : World} {fuel : Nat} {cs : List Value} {x : DataW H × List MemPlace} (hf : DataW.trod enc Tryd.prog W 0 (fun _ => true) true fuel 25 cs = some x) (hl : cs.length = 2) (hz : ∀ n ∈ x.1.weights Tryd.prog 25, n ≤ reachBytes) :
    ∃ (a0 : Option Addr) (n c : Nat) (a1 : Option Addr) (m e : Nat) (P : List Pla) (G : List Int), cs = [.slice a0 n c, .slice a1 m e] ∧ Pls W a0 n c P ∧ Its W a1 m e G := by
  obtain ⟨y0, y1, n', hy, _, g0, g1⟩ := trod_struct2 Tryd.underlying25 hf
  have hd : x.1 = .agg [y0.1, y1.1] := congrArg Prod.fst hy
  have hz0 : ∀ k ∈ y0.1.weights Tryd.prog 22, k ≤ reachBytes := fun k hk => hz k (by
    rw [hd, DataW.weights, Tryd.underlying25]
    simp only [List.map_cons, List.map_nil, DataW.weightsEach, List.mem_append]
    exact .inl hk)
  have hz1 : ∀ k ∈ y1.1.weights Tryd.prog 23, k ≤ reachBytes := fun k hk => hz k (by
    rw [hd, DataW.weights, Tryd.underlying25]
    simp only [List.map_cons, List.map_nil, DataW.weightsEach, List.mem_append]
    exact .inr (.inl hk))
  match cs, hl with
  | [x0, x1], _ =>
    have e0 : DataW.trod enc Tryd.prog W 0 (fun _ => true) true n' 22 [x0] = some y0 := by simpa [cellsPlas, cellsIntsL] using g0
    have e1 : DataW.trod enc Tryd.prog W 0 (fun _ => true) true n' 23 [x1] = some y1 := by simpa [cellsPlas, cellsIntsL] using g1
    obtain ⟨a0, n, c, k1, P, k2⟩ := open_plsK e0 hz0
    obtain ⟨a1, m, e, j1, G, j2⟩ := open_itsK e1 hz1
    simp only [List.cons.injEq, and_true] at k1 j1
    subst k1 j1
    exact ⟨a0, n, c, a1, m, e, P, G, rfl, k2, j2⟩
set_option maxRecDepth 20000 in
/-- a check point that came in -/
theorem open_pt {H : Type} {enc : TypeId × Value → H} {W : World} {r : Reach} {base : Nat} {v : Value} {d : DataW H} {p : List MemPlace} (hv : Value.okWide Tryd.prog W r base 27 v)
    (h : DataW.Trod enc Tryd.prog W 0 (fun _ => true) true 27 v d p) (hz : ∀ n ∈ d.weights Tryd.prog 27, n ≤ reachBytes) :
    ∃ (u : Int) (a0 : Option Addr) (n c : Nat) (a1 : Option Addr) (m e : Nat) (P : List Pla) (G : List Int), v = .agg #[.int .i64 u, .slice a0 n c, .slice a1 m e] ∧ (Lit.int .i64 u).wf = true ∧ Pls W a0 n c P ∧ Its W a1 m e G := by
  obtain ⟨cs, rfl, hcs⟩ := Go.WideShapes.okWide_struct Tryd.underlying27 hv
  rw [cellsPoint] at hcs
  obtain ⟨fuel, hf⟩ := h
  have hf' : DataW.trod enc Tryd.prog W 0 (fun _ => true) true fuel 27 cs.toList = some (d, p) := hf
  obtain ⟨y0, y1, n', hy, _, g0, g1⟩ := trod_struct2 Tryd.underlying27 hf'
  have hd : d = .agg [y0.1, y1.1] := congrArg Prod.fst hy
  have hz1 : ∀ k ∈ y1.1.weights Tryd.prog 25, k ≤ reachBytes := fun k hk => hz k (by
    rw [hd, DataW.weights, Tryd.underlying27]
    simp only [List.map_cons, List.map_nil, DataW.weightsEach, List.mem_append]
    exact .inr (.inl hk))
  obtain ⟨l, hl⟩ : ∃ l, cs.toList = l := ⟨_, rfl⟩
  have hlen : l.length = 3 := by rw [← hl, Array.length_toList]; exact hcs
  rw [hl] at g0 g1
  match l, hlen with
  | [x0, x1, x2], _ =>
    have e0 : DataW.trod enc Tryd.prog W 0 (fun _ => true) true n' 3 [x0] = some y0 := by simpa [cellsIntL, cellsImap] using g0
    have e1 : DataW.trod enc Tryd.prog W 0 (fun _ => true) true n' 25 [x1, x2] = some y1 := by simpa [cellsIntL, cellsImap] using g1
    obtain ⟨u, eu, _, wu⟩ := DataW.trod_int Tryd.underlying3 e0
    obtain ⟨a0, n, c, a1, m, e, P, G, k1, k2, k3⟩ := open_imK e1 rfl hz1
    simp only [List.cons.injEq, and_true] at eu k1
    obtain ⟨rfl, rfl⟩ := k1
    subst eu
    have hcs2 : cs = #[.int .i64 u, .slice a0 n c, .slice a1 m e] := by
      apply Array.toList_inj.1
      rw [hl]
    exact ⟨u, a0, n, c, a1, m, e, P, G, by rw [hcs2], wu, k2, k3⟩
end Go.Proofs.YtbakgobgjfhhhaaDoor
