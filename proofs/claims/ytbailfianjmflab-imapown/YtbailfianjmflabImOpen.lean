/- Maps of inodes that came in. -/
import Derived.Test.YtbailfianjmflabPlOpen
namespace Go.Proofs.Ytbailfianjmflab
open Go.RowKit Go.Deep Go.ChangeShapes

theorem cellsIntsL : Try.prog.cellsOf 34 = 1 := by kernel_rfl
theorem bytesIntL : Try.prog.bytesOf 3 = 8 := by kernel_rfl
theorem cellsImap : Try.prog.cellsOf 36 = 2 := by kernel_rfl
theorem inC_flat (l : List Int) : l.flatMap (fun x => [Value.int .i64 x]) = inC l := by
  induction l with
  | nil => rfl
  | cons x t ih => rw [List.flatMap_cons, ih]; rfl
theorem open_itsK {H : Type} {enc : TypeId × Value → H} {W : World} {fuel : Nat} {cs : List Value} {x : DataW H × List MemPlace} (hf : DataW.trod enc Try.prog W 0 (fun _ => true) true fuel 34 cs = some x) (hz : ∀ n ∈ x.1.weights Try.prog 34, n ≤ reachBytes) :
    ∃ a0 len cap, cs = [.slice a0 len cap] ∧ ∃ l, Its W a0 len cap l := by
  obtain ⟨a0, len, cap, h1, l, h2, h3, h4, h5, h6, h7, h8⟩ := open_rd (α := Int) (cells := fun x => [Value.int .i64 x]) (good := I64) Try.underlying34 cellsIntL (by decide) (fun _ => rfl) (fun n cs' y hy hl _ => by
    match cs', hl with
    | [x0], _ =>
      obtain ⟨v, ev, _, wv⟩ := DataW.trod_int Try.underlying3 hy
      simp at ev
      subst ev
      exact ⟨v, rfl, bounds_i64 wv⟩) hf hz
  rw [inC_flat] at h3
  rw [bytesIntL] at h5
  have hr : reachBytes = 140737488351232 := by decide
  exact ⟨a0, len, cap, h1, l, h2, by omega, h3, h4, h6, h7, h8⟩
theorem open_im {H : Type} {enc : TypeId × Value → H} {W : World} {r : Reach} {base : Nat} {v : Value} {d : DataW H} {p : List MemPlace} (hv : Value.okWide Try.prog W r base 36 v)
    (h : DataW.Trod enc Try.prog W 0 (fun _ => true) true 36 v d p) (hz : ∀ n ∈ d.weights Try.prog 36, n ≤ reachBytes) :
    ∃ (a0 : Option Addr) (n c : Nat) (a1 : Option Addr) (m e : Nat) (P : List Pla) (G : List Int), v = .agg #[.slice a0 n c, .slice a1 m e] ∧ Pls W a0 n c P ∧ Its W a1 m e G := by
  obtain ⟨cs, rfl, hcs⟩ := Go.WideShapes.okWide_struct Try.underlying36 hv
  rw [cellsImap] at hcs
  obtain ⟨fuel, hf⟩ := h
  have hf' : DataW.trod enc Try.prog W 0 (fun _ => true) true fuel 36 cs.toList = some (d, p) := hf
  obtain ⟨y0, y1, n', hy, _, g0, g1⟩ := trod_struct2 Try.underlying36 hf'
  have hd : d = .agg [y0.1, y1.1] := congrArg Prod.fst hy
  have hz0 : ∀ k ∈ y0.1.weights Try.prog 22, k ≤ reachBytes := fun k hk => hz k (by
    rw [hd, DataW.weights, Try.underlying36]
    simp only [List.map_cons, List.map_nil, DataW.weightsEach, List.mem_append]
    exact .inl hk)
  have hz1 : ∀ k ∈ y1.1.weights Try.prog 34, k ≤ reachBytes := fun k hk => hz k (by
    rw [hd, DataW.weights, Try.underlying36]
    simp only [List.map_cons, List.map_nil, DataW.weightsEach, List.mem_append]
    exact .inr (.inl hk))
  obtain ⟨l, hl⟩ : ∃ l, cs.toList = l := ⟨_, rfl⟩
  have hlen : l.length = 2 := by rw [← hl, Array.length_toList]; exact hcs
  rw [hl] at g0 g1
  match l, hlen with
  | [x0, x1], _ =>
    have e0 : DataW.trod enc Try.prog W 0 (fun _ => true) true n' 22 [x0] = some y0 := by simpa [cellsPlas, cellsIntsL] using g0
    have e1 : DataW.trod enc Try.prog W 0 (fun _ => true) true n' 34 [x1] = some y1 := by simpa [cellsPlas, cellsIntsL] using g1
    obtain ⟨a0, n, c, k1, P, k2⟩ := open_plsK e0 hz0
    obtain ⟨a1, m, e, j1, G, j2⟩ := open_itsK e1 hz1
    simp only [List.cons.injEq, and_true] at k1 j1
    subst k1 j1
    have hcs2 : cs = #[.slice a0 n c, .slice a1 m e] := by
      apply Array.toList_inj.1
      rw [hl]
    exact ⟨a0, n, c, a1, m, e, P, G, by rw [hcs2], k2, j2⟩
end Go.Proofs.Ytbailfianjmflab
