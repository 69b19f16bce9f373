/- Slices that came in, opened by their cells, whatever their elements are. -/
import Derived.Test.YtdhjadgmdmdnjaaRd
import Derived.Deep.Slices
import Derived.Deep.Strs
import Derived.SizedLaws
import Derived.ProofKit
import Derived.WideShapes
namespace Go.Proofs.Ytdhjadgmdmdnjaa
open Go.RowKit Go.Deep Go.ChangeShapes

theorem sized_any {H : Type} {P : Program} {ts : List TypeId} {ds : List (DataW H)} (h : (DataW.weightsEach P ts ds).all (· ≤ reachBytes) = true) {j : Nat} {t : TypeId} {d : DataW H} (ht : ts[j]? = some t) (hd : ds[j]? = some d) : ∀ n ∈ d.weights P t, n ≤ reachBytes := by
  intro n hn
  have := List.all_eq_true.1 h n (DataW.weights_mem_each ht hd n hn)
  simpa using this
theorem weightsAll_mem {H : Type} {P : Program} {e : TypeId} : ∀ {l : List (DataW H)} {d : DataW H}, d ∈ l → ∀ n ∈ d.weights P e, n ∈ DataW.weightsAll P e l := by
  intro l
  induction l with
  | nil => intro d hd; simp at hd
  | cons x r ih =>
    intro d hd n hn
    rw [DataW.weightsAll, List.mem_append]
    rcases List.mem_cons.1 hd with rfl | hd
    · exact .inl hn
    · exact .inr (ih hd n hn)
theorem weights_elem {H : Type} {P : Program} {t e : TypeId} {elems spare : List (DataW H)} {d : DataW H} (hu : P.underlying t = some (.slice e)) (hd : d ∈ elems) : ∀ n ∈ d.weights P e, n ∈ (DataW.slice elems spare).weights P t := by
  intro n hn
  rw [DataW.weights, hu]
  exact List.mem_cons_of_mem _ (List.mem_append_left _ (weightsAll_mem hd n hn))
theorem weights_len {H : Type} {P : Program} {t e : TypeId} {elems spare : List (DataW H)} (hu : P.underlying t = some (.slice e)) : (elems.length + spare.length) * P.bytesOf e ∈ (DataW.slice elems spare).weights P t := by
  rw [DataW.weights, hu]
  exact List.mem_cons_self
theorem flat_len {α : Type} {size : Nat} {cells : α → List Value} (hs : ∀ a, (cells a).length = size) : ∀ l : List α, (l.flatMap cells).length = l.length * size := by
  intro l
  induction l with
  | nil => simp
  | cons x r ih => rw [List.flatMap_cons, List.length_append, hs, ih, List.length_cons, Nat.succ_mul]; omega
theorem flat_at {α : Type} {size : Nat} {cells : α → List Value} (hs : ∀ a, (cells a).length = size) : ∀ (l : List α) (i r : Nat) (h : i < l.length), r < size → (l.flatMap cells)[i * size + r]? = (cells l[i])[r]? := by
  intro l
  induction l with
  | nil => intro i r h; simp at h
  | cons x t ih =>
    intro i r h hr
    rw [List.flatMap_cons]
    cases i with
    | zero => rw [List.getElem?_append_left (by rw [hs]; omega)]; simp
    | succ i =>
      have e : (i + 1) * size + r = size + (i * size + r) := by rw [Nat.succ_mul]; omega
      rw [List.getElem?_append_right (by rw [hs]; omega), hs, e, Nat.add_sub_cancel_left, List.getElem_cons_succ]
      exact ih i r (by simpa using h) hr
/-- a slice, opened -/
theorem open_rd {α H : Type} [Inhabited α] {enc : TypeId × Value → H} {W : World} {t e : TypeId} {size fuel : Nat} {cells : α → List Value} {good : α → Prop} {cs : List Value} {x : DataW H × List MemPlace}
    (ht : Try.prog.underlying t = some (.slice e)) (hc : Try.prog.cellsOf e = size) (h0 : 0 < size) (hs : ∀ a, (cells a).length = size)
    (hel : ∀ n cs' y, DataW.trod enc Try.prog W 0 (fun _ => true) true n e cs' = some y → cs'.length = size → (∀ k ∈ y.1.weights Try.prog e, k ≤ reachBytes) → ∃ a : α, cs' = cells a ∧ good a)
    (hf : DataW.trod enc Try.prog W 0 (fun _ => true) true fuel t cs = some x) (hz : ∀ n ∈ x.1.weights Try.prog t, n ≤ reachBytes) :
    ∃ a0 len cap, cs = [.slice a0 len cap] ∧ ∃ l : List α, l.length = len ∧ Rd W a0 len size (l.flatMap cells) ∧ (∀ a ∈ l, good a) ∧ len * Try.prog.bytesOf e ≤ reachBytes ∧ len ≤ cap ∧ cap ≤ maxLen ∧ (a0 = none → cap = 0) := by
  rcases open_slice ht hf with ⟨rfl, _⟩ | ⟨a, len, cap, m, n, D, Pl, rfl, _, hl, hm, hmm, hx, hel'⟩
  · exact ⟨_, _, _, rfl, [], rfl, Rd.nil _ _ _, fun a ha => by simp at ha, by simp, Nat.le_refl _, Nat.zero_le _, fun _ => rfl⟩
  · simp only [if_true] at hmm
    subst hmm
    have hb := hz _ (by rw [hx]; exact weights_len ht)
    simp only [List.length_map, List.length_range] at hb
    have hb2 : len * Try.prog.bytesOf e ≤ reachBytes := Nat.le_trans (Nat.mul_le_mul_right _ (by omega)) hb
    have key : ∀ i, i < len → ∃ y : α, (∀ r u, (cells y)[r]? = some u → W.cell? ((a.add (i * size)).add r) = some u) ∧ good y := by
      intro i hi
      obtain ⟨cs', h1, h2⟩ := hel' i (by omega)
      rw [hc] at h1
      obtain ⟨_, hl2, hcc⟩ := World.cells?_some h1
      obtain ⟨y, rfl, hg⟩ := hel n cs' _ h2 (by omega) (fun k hk => hz k (by
        rw [hx]
        exact weights_elem ht (List.mem_map.2 ⟨i, List.mem_range.2 hi, rfl⟩) k hk))
      refine ⟨y, fun r u hu => ?_, hg⟩
      have hr : r < size := by rw [← hs y]; exact (List.getElem?_eq_some_iff.1 hu).1
      rw [hcc r hr]; exact hu
    obtain ⟨f, hfn⟩ := choose_lt (α := α) key
    have hll : ((List.range len).map f).length = len := by simp
    refine ⟨_, _, _, rfl, (List.range len).map f, hll, ⟨by rw [flat_len hs, hll], fun hp => ?_⟩, fun y hy => ?_, hb2, hl, hm, fun h => by cases h⟩
    · obtain ⟨b, off, spot⟩ := a
      have hcell : ∀ j u, (((List.range len).map f).flatMap cells)[j]? = some u → W.cell? ((⟨b, off, spot⟩ : Addr).add j) = some u := by
        intro j u hj
        have hjl : j < len * size := by
          have h1 := (List.getElem?_eq_some_iff.1 hj).1
          rwa [flat_len hs, hll] at h1
        obtain ⟨i, r, hr, rfl⟩ : ∃ i r, r < size ∧ j = i * size + r := ⟨j / size, j % size, Nat.mod_lt _ h0, by rw [Nat.mul_comm]; exact (Nat.div_add_mod j size).symm⟩
        have hi : i < len := by
          refine Classical.byContradiction fun hh => ?_
          have : len * size ≤ i * size := Nat.mul_le_mul_right _ (by omega)
          omega
        rw [flat_at hs _ i r (by rw [hll]; exact hi) hr, List.getElem_map, List.getElem_range] at hj
        have := (hfn i hi).1 r u hj
        rwa [add_add] at this
      have hpos : 0 < ((List.range len).map f).length * size := Nat.mul_pos (by rw [hll]; exact hp) h0
      have hne : ∃ u, (((List.range len).map f).flatMap cells)[0]? = some u := ⟨_, List.getElem?_eq_getElem (by rw [flat_len hs]; exact hpos)⟩
      obtain ⟨u0, hu0⟩ := hne
      have hc0 := hcell 0 u0 hu0
      have hspot : spot = none := by simpa [Addr.add] using World.cell?_spot hc0
      subst hspot
      rw [addR] at hc0
      refine ⟨b, off, rfl, block_lt_of_cell hc0, fun j u hj => ?_⟩
      have := hcell j u hj
      rwa [addR] at this
    · obtain ⟨i, hi, rfl⟩ := List.mem_map.1 hy
      exact (hfn i (List.mem_range.1 hi)).2
end Go.Proofs.Ytdhjadgmdmdnjaa
