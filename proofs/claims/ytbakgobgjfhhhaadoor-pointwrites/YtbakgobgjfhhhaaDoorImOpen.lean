/- Maps of inodes that came in. -/
import Derived.Test.YtbakgobgjfhhhaaDoorPlOpen
namespace Go.Proofs.YtbakgobgjfhhhaaDoor
open Go.RowKit Go.Deep Go.ChangeShapes

theorem cellsIntsL : Tryd.prog.cellsOf 23 = 1 := by kernel_rfl
theorem bytesIntL : Tryd.prog.bytesOf 3 = 8 := by kernel_rfl
theorem cellsImap : Tryd.prog.cellsOf 25 = 2 := by kernel_rfl
theorem inC_flat (l : List Int) : l.flatMap (fun x => [Value.int .i64 x]) = inC l := by
  induction l with
  | nil => rfl
  | cons x t ih => rw [List.flatMap_cons, ih]; rfl
set_option maxRecDepth 20000 in
theorem open_itsK {H : Type} {enc : TypeId × Value → H} {W : World} {fuel : Nat} {cs : List Value} {x : DataW H × List MemPlace} (hf : DataW.trod enc Tryd.prog W 0 (fun _ => true) true fuel 23 cs = some x) (hz : ∀ n ∈ x.1.weights Tryd.prog 23, n ≤ reachBytes) :
    ∃ a0 len cap, cs = [.slice a0 len cap] ∧ ∃ l, Its W a0 len cap l := by
  obtain ⟨a0, len, cap, h1, l, h2, h3, h4, h5, h6, h7, h8⟩ := open_rd (α := Int) (cells := fun x => [Value.int .i64 x]) (good := I64) Tryd.underlying23 cellsIntL (by decide) (fun _ => rfl) (fun n cs' y hy hl _ => by
    match cs', hl with
    | [x0], _ =>
      obtain ⟨v, ev, _, wv⟩ := DataW.trod_int Tryd.underlying3 hy
      simp at ev
      subst ev
      exact ⟨v, rfl, bounds_i64 wv⟩) hf hz
  rw [inC_flat] at h3
  rw [bytesIntL] at h5
  have hr : reachBytes = 140737488351232 := by decide
  exact ⟨a0, len, cap, h1, l, h2, by omega, h3, h4, h6, h7, h8⟩
set_option maxRecDepth 20000 in
theorem open_im {H : Type} {enc : TypeId × Value → H} {W : World} {r : Reach} {base : Nat} {v : Value} {d : DataW H} {p : List MemPlace} (hv : Value.okWide Tryd.prog W r base 25 v)
    (h : DataW.Trod enc Tryd.prog W 0 (fun _ => true) true 25 v d p) (hz : ∀ n ∈ d.weights Tryd.prog 25, n ≤ reachBytes) :
    ∃ (a0 : Option Addr) (n c : Nat) (a1 : Option Addr) (m e : Nat) (P : List Pla) (G : List Int), v = .agg #[.slice a0 n c, .slice a1 m e] ∧ Pls W a0 n c P ∧ Its W a1 m e G := by
  obtain ⟨cs, rfl, hcs⟩ := Go.WideShapes.okWide_struct Tryd.underlying25 hv
  rw [cellsImap] at hcs
  obtain ⟨fuel, hf⟩ := h
  have hf' : DataW.trod enc Tryd.prog W 0 (fun _ => true) true fuel 25 cs.toList = some (d, p) := hf
  obtain ⟨y0, y1, n', hy, _, g0, g1⟩ := trod_struct2 Tryd.underlying25 hf'
  have hd : d = .agg [y0.1, y1.1] := congrArg Prod.fst hy
  have hz0 : ∀ k ∈ y0.1.weights Tryd.prog 22, k ≤ reachBytes := fun k hk => hz k (by
    rw [hd, DataW.weights, Tryd.underlying25]
    simp only [List.map_cons, List.map_nil, DataW.weightsEach, List.mem_append]
    exact .inl hk)
  have hz1 : ∀ k ∈ y1.1.weights Tryd.prog 23, k ≤ reachBytes := fun k hk => hz k (by
    rw [hd, DataW.weights, Tryd.underlying25]
    simp only [List.map_cons, List.map_nil, DataW.weightsEach, List.mem_append]
    exact .inr (.inl hk))
  obtain ⟨l, hl⟩ : ∃ l, cs.toList = l := ⟨_, rfl⟩
  have hlen : l.length = 2 := by rw [← hl, Array.length_toList]; exact hcs
  rw [hl] at g0 g1
  match l, hlen with
  | [x0, x1], _ =>
    have e0 : DataW.trod enc Tryd.prog W 0 (fun _ => true) true n' 22 [x0] = some y0 := by simpa [cellsPlas, cellsIntsL] using g0
    have e1 : DataW.trod enc Tryd.prog W 0 (fun _ => true) true n' 23 [x1] = some y1 := by simpa [cellsPlas, cellsIntsL] using g1
    obtain ⟨a0, n, c, k1, P, k2⟩ := open_plsK e0 hz0
    obtain ⟨a1, m, e, j1, G, j2⟩ := open_itsK e1 hz1
    simp only [List.cons.injEq, and_true] at k1 j1
    subst k1 j1
    have hcs2 : cs = #[.slice a0 n c, .slice a1 m e] := by
      apply Array.toList_inj.1
      rw [hl]
    exact ⟨a0, n, c, a1, m, e, P, G, by rw [hcs2], k2, j2⟩
end Go.Proofs.YtbakgobgjfhhhaaDoor
