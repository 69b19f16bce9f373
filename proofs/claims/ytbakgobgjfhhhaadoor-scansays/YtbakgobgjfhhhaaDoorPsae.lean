/- Texts of ours, one behind the other: RdOpen StrCells DkOpen -/
import Derived.Test.YtbakgobgjfhhhaaDoorPsad
import Derived.Deep.Slices
import Derived.Deep.Strs
import Derived.SizedLaws
import Derived.ProofKit
import Derived.WideShapes

/- Slices that came in, opened by their cells, whatever their elements are. -/
namespace Go.Proofs.YtbakgobgjfhhhaaDoor
open Go.RowKit Go.Deep Go.ChangeShapes

theorem sized_any {H : Type} {P : Program} {ts : List TypeId} {ds : List (DataW H)} (h : (DataW.weightsEach P ts ds).all (· ≤ reachBytes) = true) {j : Nat} {t : TypeId} {d : DataW H} (ht : ts[j]? = some t) (hd : ds[j]? = some d) : ∀ n ∈ d.weights P t, n ≤ reachBytes := by
  intro n hn
  have := List.all_eq_true.1 h n (DataW.weights_mem_each ht hd n hn)
  simpa using this
theorem weightsAll_mem {H : Type} {P : Program} {e : TypeId} : ∀ {l : List (DataW H)} {d : DataW H}, d ∈ l → ∀ n ∈ d.weights P e, n ∈ DataW.weightsAll P e l := by
  intro l
  induction l with
  | nil => intro d hd; simp at hd
  | cons x r ih =>
    intro d hd n hn
    rw [DataW.weightsAll, List.mem_append]
    rcases List.mem_cons.1 hd with rfl | hd
    · exact .inl hn
    · exact .inr (ih hd n hn)
theorem weights_elem {H : Type} {P : Program} {t e : TypeId} {elems spare : List (DataW H)} {d : DataW H} (hu : P.underlying t = some (.slice e)) (hd : d ∈ elems) : ∀ n ∈ d.weights P e, n ∈ (DataW.slice elems spare).weights P t := by
  intro n hn
  rw [DataW.weights, hu]
  exact List.mem_cons_of_mem _ (List.mem_append_left _ (weightsAll_mem hd n hn))
theorem weights_len {H : Type} {P : Program} {t e : TypeId} {elems spare : List (DataW H)} (hu : P.underlying t = some (.slice e)) : (elems.length + spare.length) * P.bytesOf e ∈ (DataW.slice elems spare).weights P t := by
  rw [DataW.weights, hu]
  exact List.mem_cons_self
theorem flat_len {α : Type} {size : Nat} {cells : α → List Value} (hs : ∀ a, (cells a).length = size) : ∀ l : List α, (l.flatMap cells).length = l.length * size := by
  intro l
  induction l with
  | nil => simp
  | cons x r ih => rw [List.flatMap_cons, List.length_append, hs, ih, List.length_cons, Nat.succ_mul]; omega
theorem flat_at {α : Type} {size : Nat} {cells : α → List Value} (hs : ∀ a, (cells a).length = size) : ∀ (l : List α) (i r : Nat) (h : i < l.length), r < size → (l.flatMap cells)[i * size + r]? = (cells l[i])[r]? := by
  intro l
  induction l with
  | nil => intro i r h; simp at h
  | cons x t ih =>
    intro i r h hr
    rw [List.flatMap_cons]
    cases i with
    | zero => rw [List.getElem?_append_left (by rw [hs]; omega)]; simp
    | succ i =>
      have e : (i + 1) * size + r = size + (i * size + r) := by rw [Nat.succ_mul]; omega
      rw [List.getElem?_append_right (by rw [hs]; omega), hs, e, Nat.add_sub_cancel_left, List.getElem_cons_succ]
      exact ih i r (by simpa using h) hr
/-- a slice, opened -/
theorem open_rd {α H : Type} [Inhabited α] {enc : TypeId × Value → H} {W : World} {t e : TypeId} {size fuel : Nat} {cells : α → List Value} {good : α → Prop} {cs : List Value} {x : DataW H × List MemPlace}
    (ht : Tryd.prog.underlying t = some (.slice e)) (hc : Tryd.prog.cellsOf e = size) (h0 : 0 < size) (hs : ∀ a, (cells a).length = size)
    (hel : ∀ n cs' y, DataW.trod enc Tryd.prog W 0 (fun _ => true) true n e cs' = some y → cs'.length = size → (∀ k ∈ y.1.weights Tryd.prog e, k ≤ reachBytes) → ∃ a : α, cs' = cells a ∧ good a)
    (hf : DataW.trod enc Tryd.prog W 0 (fun _ => true) true fuel t cs = some x) (hz : ∀ n ∈ x.1.weights Tryd.prog t, n ≤ reachBytes) :
    ∃ a0 len cap, cs = [.slice a0 len cap] ∧ ∃ l : List α, l.length = len ∧ Rd W a0 len size (l.flatMap cells) ∧ (∀ a ∈ l, good a) ∧ len * Tryd.prog.bytesOf e ≤ reachBytes ∧ len ≤ cap ∧ cap ≤ maxLen ∧ (a0 = none → cap = 0) := by
  rcases open_slice ht hf with ⟨rfl, _⟩ | ⟨a, len, cap, m, n, D, Pl, rfl, _, hl, hm, hmm, hx, hel'⟩
  · exact ⟨_, _, _, rfl, [], rfl, Rd.nil _ _ _, fun a ha => by simp at ha, by simp, Nat.le_refl _, Nat.zero_le _, fun _ => rfl⟩
  · simp only [if_true] at hmm
    subst hmm
    have hb := hz _ (by rw [hx]; exact weights_len ht)
    simp only [List.length_map, List.length_range] at hb
    have hb2 : len * Tryd.prog.bytesOf e ≤ reachBytes := Nat.le_trans (Nat.mul_le_mul_right _ (by omega)) hb
    have key : ∀ i, i < len → ∃ y : α, (∀ r u, (cells y)[r]? = some u → W.cell? ((a.add (i * size)).add r) = some u) ∧ good y := by
      intro i hi
      obtain ⟨cs', h1, h2⟩ := hel' i (by omega)
      rw [hc] at h1
      obtain ⟨_, hl2, hcc⟩ := World.cells?_some h1
      obtain ⟨y, rfl, hg⟩ := hel n cs' _ h2 (by omega) (fun k hk => hz k (by
        rw [hx]
        exact weights_elem ht (List.mem_map.2 ⟨i, List.mem_range.2 hi, rfl⟩) k hk))
      refine ⟨y, fun r u hu => ?_, hg⟩
      have hr : r < size := by rw [← hs y]; exact (List.getElem?_eq_some_iff.1 hu).1
      rw [hcc r hr]; exact hu
    obtain ⟨f, hfn⟩ := choose_lt (α := α) key
    have hll : ((List.range len).map f).length = len := by simp
    refine ⟨_, _, _, rfl, (List.range len).map f, hll, ⟨by rw [flat_len hs, hll], fun hp => ?_⟩, fun y hy => ?_, hb2, hl, hm, fun h => by cases h⟩
    · obtain ⟨b, off, spot⟩ := a
      have hcell : ∀ j u, (((List.range len).map f).flatMap cells)[j]? = some u → W.cell? ((⟨b, off, spot⟩ : Addr).add j) = some u := by
        intro j u hj
        have hjl : j < len * size := by
          have h1 := (List.getElem?_eq_some_iff.1 hj).1
          rwa [flat_len hs, hll] at h1
        obtain ⟨i, r, hr, rfl⟩ : ∃ i r, r < size ∧ j = i * size + r := ⟨j / size, j % size, Nat.mod_lt _ h0, by rw [Nat.mul_comm]; exact (Nat.div_add_mod j size).symm⟩
        have hi : i < len := by
          refine Classical.byContradiction fun hh => ?_
          have : len * size ≤ i * size := Nat.mul_le_mul_right _ (by omega)
          omega
        rw [flat_at hs _ i r (by rw [hll]; exact hi) hr, List.getElem_map, List.getElem_range] at hj
        have := (hfn i hi).1 r u hj
        rwa [add_add] at this
      have hpos : 0 < ((List.range len).map f).length * size := Nat.mul_pos (by rw [hll]; exact hp) h0
      have hne : ∃ u, (((List.range len).map f).flatMap cells)[0]? = some u := ⟨_, List.getElem?_eq_getElem (by rw [flat_len hs]; exact hpos)⟩
      obtain ⟨u0, hu0⟩ := hne
      have hc0 := hcell 0 u0 hu0
      have hspot : spot = none := by simpa [Addr.add] using World.cell?_spot hc0
      subst hspot
      rw [addR] at hc0
      refine ⟨b, off, rfl, block_lt_of_cell hc0, fun j u hj => ?_⟩
      have := hcell j u hj
      rwa [addR] at this
    · obtain ⟨i, hi, rfl⟩ := List.mem_map.1 hy
      exact (hfn i (List.mem_range.1 hi)).2
end Go.Proofs.YtbakgobgjfhhhaaDoor

/- Texts in cells that came in. -/
namespace Go.Proofs.YtbakgobgjfhhhaaDoor
open Go.RowKit Go.Deep Go.ChangeShapes

theorem cellsStr : Tryd.prog.cellsOf 9 = 1 := by kernel_rfl
theorem cellsIntK : Tryd.prog.cellsOf 3 = 1 := by kernel_rfl
theorem bytesStr : Tryd.prog.bytesOf 9 = 16 := by kernel_rfl
theorem reach_le {n : Nat} (h : n ≤ reachBytes) : n ≤ 140737488355328 := by have := reachBytes_lt; omega
theorem str_cells {H : Type} {enc : TypeId × Value → H} {W : World} {n : Nat} {cs : List Value} {y : DataW H × List MemPlace} (h : DataW.trod enc Tryd.prog W 0 (fun _ => true) true n 9 cs = some y) (hz : ∀ k ∈ y.1.weights Tryd.prog 9, k ≤ reachBytes) :
    ∃ s : ByteArray, cs = [.string s] ∧ s.size ≤ 140737488355328 := by
  obtain ⟨s, h1, h2, _⟩ := DataW.trod_string Tryd.underlying9 h
  refine ⟨s, h1, ?_⟩
  have := hz s.data.toList.length (by rw [h2]; simp [DataW.weights])
  rw [Array.length_toList] at this
  exact reach_le this
end Go.Proofs.YtbakgobgjfhhhaaDoor

/- Disks, ops and Booleans that came in, as the walks want them. -/
namespace Go.Proofs.YtbakgobgjfhhhaaDoor
open Go.RowKit Go.Deep Go.ChangeShapes

theorem cellsPut : Tryd.prog.cellsOf 99 = 2 := by kernel_rfl
theorem cellsStrs : Tryd.prog.cellsOf 36 = 1 := by kernel_rfl
theorem cellsPuts : Tryd.prog.cellsOf 37 = 1 := by kernel_rfl
theorem cellsDisk : Tryd.prog.cellsOf 39 = 2 := by kernel_rfl
theorem bytesPut : Tryd.prog.bytesOf 99 = 24 := by kernel_rfl
set_option maxRecDepth 20000 in
theorem put_cells {H : Type} {enc : TypeId × Value → H} {W : World} {n : Nat} {cs : List Value} {y : DataW H × List MemPlace} (h : DataW.trod enc Tryd.prog W 0 (fun _ => true) true n 99 cs = some y) (hl : cs.length = 2) (hz : ∀ k ∈ y.1.weights Tryd.prog 99, k ≤ reachBytes) :
    ∃ p : Pt, cs = pt2 p ∧ ((-9223372036854775808 ≤ p.pl ∧ p.pl ≤ 9223372036854775807) ∧ p.tx.size ≤ 140737488355328) := by
  obtain ⟨y0, y1, n', hy, _, g0, g1⟩ := trod_struct2 Tryd.underlying99 h
  match cs, hl with
  | [x0, x1], _ =>
    have e0 : DataW.trod enc Tryd.prog W 0 (fun _ => true) true n' 3 [x0] = some y0 := by simpa [cellsIntK, cellsStr] using g0
    have e1 : DataW.trod enc Tryd.prog W 0 (fun _ => true) true n' 9 [x1] = some y1 := by simpa [cellsIntK, cellsStr] using g1
    obtain ⟨v, ev, _, wv⟩ := DataW.trod_int Tryd.underlying3 e0
    obtain ⟨s, es, hs⟩ := str_cells e1 (fun k hk => hz k (by
      rw [hy, DataW.weights, Tryd.underlying99]
      simp only [List.map_cons, List.map_nil, DataW.weightsEach, List.mem_append]
      exact .inr (.inl hk)))
    simp at ev es
    subst ev es
    exact ⟨⟨v, s⟩, rfl, bounds_i64 wv, hs⟩
theorem stC_flat (C : List ByteArray) : C.flatMap (fun s => [Value.string s]) = stC C := by
  induction C with
  | nil => rfl
  | cons x r ih => rw [List.flatMap_cons, ih]; rfl
theorem open_strsK {H : Type} {enc : TypeId × Value → H} {W : World} {fuel : Nat} {cs : List Value} {x : DataW H × List MemPlace} (hf : DataW.trod enc Tryd.prog W 0 (fun _ => true) true fuel 36 cs = some x) (hz : ∀ n ∈ x.1.weights Tryd.prog 36, n ≤ reachBytes) :
    ∃ a0 len cap, cs = [.slice a0 len cap] ∧ ∃ C : List ByteArray, C.length = len ∧ Rd W a0 len 1 (stC C) ∧ (∀ s ∈ C, s.size ≤ 140737488355328) ∧ len ≤ 8796093022208 ∧ len ≤ cap ∧ cap ≤ maxLen ∧ (a0 = none → cap = 0) := by
  have : Inhabited ByteArray := ⟨⟨#[]⟩⟩
  obtain ⟨a0, len, cap, h1, C, h2, h3, h4, h5, h6⟩ := open_rd (α := ByteArray) (cells := fun s => [Value.string s]) (good := fun s => s.size ≤ 140737488355328) Tryd.underlying36 cellsStr (by decide) (fun _ => rfl) (fun n cs' y hy _ hz' => str_cells hy hz') hf hz
  rw [stC_flat] at h3
  rw [bytesStr] at h5
  have := reachBytes_lt
  exact ⟨a0, len, cap, h1, C, h2, h3, h4, by omega, h6⟩
theorem open_putsK {H : Type} {enc : TypeId × Value → H} {W : World} {fuel : Nat} {cs : List Value} {x : DataW H × List MemPlace} (hf : DataW.trod enc Tryd.prog W 0 (fun _ => true) true fuel 37 cs = some x) (hz : ∀ n ∈ x.1.weights Tryd.prog 37, n ≤ reachBytes) :
    ∃ a0 len cap, cs = [.slice a0 len cap] ∧ ∃ P : List Pt, P.length = len ∧ Rd W a0 len 2 (ptC P) ∧ (∀ p ∈ P, (-9223372036854775808 ≤ p.pl ∧ p.pl ≤ 9223372036854775807) ∧ p.tx.size ≤ 140737488355328) ∧ len ≤ 5864062014805 ∧ len ≤ cap ∧ cap ≤ maxLen ∧ (a0 = none → cap = 0) := by
  have : Inhabited Pt := ⟨noPt⟩
  obtain ⟨a0, len, cap, h1, P, h2, h3, h4, h5, h6⟩ := open_rd (α := Pt) (cells := pt2) (good := fun p => (-9223372036854775808 ≤ p.pl ∧ p.pl ≤ 9223372036854775807) ∧ p.tx.size ≤ 140737488355328) Tryd.underlying37 cellsPut (by decide) (fun _ => rfl) (fun n cs' y hy hl hz' => put_cells hy hl hz') hf hz
  rw [bytesPut] at h5
  have := reachBytes_lt
  exact ⟨a0, len, cap, h1, P, h2, h3, h4, by omega, h6⟩
set_option maxRecDepth 20000 in
/-- a disk that came in -/
theorem open_dk {H : Type} {enc : TypeId × Value → H} {W : World} {r : Reach} {base : Nat} {v : Value} {d : DataW H} {p : List MemPlace} (hv : Value.okWide Tryd.prog W r base 39 v)
    (h : DataW.Trod enc Tryd.prog W 0 (fun _ => true) true 39 v d p) (hz : ∀ n ∈ d.weights Tryd.prog 39, n ≤ reachBytes) :
    ∃ a0 n c a1 m e C P, v = .agg #[.slice a0 n c, .slice a1 m e] ∧ Dk W a0 n a1 m C P := by
  obtain ⟨cs, rfl, hcs⟩ := Go.WideShapes.okWide_struct Tryd.underlying39 hv
  rw [cellsDisk] at hcs
  obtain ⟨fuel, hf⟩ := h
  have hf' : DataW.trod enc Tryd.prog W 0 (fun _ => true) true fuel 39 cs.toList = some (d, p) := hf
  obtain ⟨y0, y1, n', hy, _, g0, g1⟩ := trod_struct2 Tryd.underlying39 hf'
  have hd : d = .agg [y0.1, y1.1] := congrArg Prod.fst hy
  have hz0 : ∀ k ∈ y0.1.weights Tryd.prog 36, k ≤ reachBytes := fun k hk => hz k (by
    rw [hd, DataW.weights, Tryd.underlying39]
    simp only [List.map_cons, List.map_nil, DataW.weightsEach, List.mem_append]
    exact .inl hk)
  have hz1 : ∀ k ∈ y1.1.weights Tryd.prog 37, k ≤ reachBytes := fun k hk => hz k (by
    rw [hd, DataW.weights, Tryd.underlying39]
    simp only [List.map_cons, List.map_nil, DataW.weightsEach, List.mem_append]
    exact .inr (.inl hk))
  obtain ⟨l, hl⟩ : ∃ l, cs.toList = l := ⟨_, rfl⟩
  have hlen : l.length = 2 := by rw [← hl, Array.length_toList]; exact hcs
  rw [hl] at g0 g1
  match l, hlen with
  | [x0, x1], _ =>
    have e0 : DataW.trod enc Tryd.prog W 0 (fun _ => true) true n' 36 [x0] = some y0 := by simpa [cellsStrs, cellsPuts] using g0
    have e1 : DataW.trod enc Tryd.prog W 0 (fun _ => true) true n' 37 [x1] = some y1 := by simpa [cellsStrs, cellsPuts] using g1
    obtain ⟨a0, n, c, k1, C, k2, k3, k4, k5, _⟩ := open_strsK e0 hz0
    obtain ⟨a1, m, e, j1, P, j2, j3, j4, j5, _⟩ := open_putsK e1 hz1
    simp only [List.cons.injEq, and_true] at k1 j1
    subst k1 j1
    have hcs2 : cs = #[.slice a0 n c, .slice a1 m e] := by
      apply Array.toList_inj.1
      rw [hl]
    exact ⟨a0, n, c, a1, m, e, C, P, by rw [hcs2], ⟨k2, j2, k5, j5, k3, j3, fun p hp => (j4 p hp).1, k4, fun p hp => (j4 p hp).2⟩⟩
end Go.Proofs.YtbakgobgjfhhhaaDoor
