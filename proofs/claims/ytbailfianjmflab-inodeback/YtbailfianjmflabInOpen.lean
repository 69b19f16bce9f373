/- Inodes that came in. -/
import Derived.Test.YtbailfianjmflabPlOpen
namespace Go.Proofs.Ytbailfianjmflab
open Go.RowKit Go.Deep Go.ChangeShapes

theorem cellsIno : Try.prog.cellsOf 24 = 4 := by kernel_rfl
theorem open_in {H : Type} {enc : TypeId × Value → H} {W : World} {r : Reach} {base : Nat} {v : Value} {d : DataW H} {p : List MemPlace} (hv : Value.okWide Try.prog W r base 24 v)
    (h : DataW.Trod enc Try.prog W 0 (fun _ => true) true 24 v d p) (hz : ∀ n ∈ d.weights Try.prog 24, n ≤ reachBytes) :
    ∃ (o : Ino) (a0 : Option Addr) (n c : Nat), v = .agg #[.int .i64 o.kd, .int .i64 o.gn, .int .i64 o.sz, .slice a0 n c] ∧ Pls W a0 n c o.ps := by
  obtain ⟨cs, rfl, hcs⟩ := Go.WideShapes.okWide_struct Try.underlying24 hv
  rw [cellsIno] at hcs
  obtain ⟨fuel, hf⟩ := h
  have hf' : DataW.trod enc Try.prog W 0 (fun _ => true) true fuel 24 cs.toList = some (d, p) := hf
  obtain ⟨y0, y1, y2, y3, n', hy, _, g0, g1, g2, g3⟩ := Go.Joins.trod_struct4 Try.underlying24 hf'
  have hd : d = .agg [y0.1, y1.1, y2.1, y3.1] := congrArg Prod.fst hy
  have hz3 : ∀ k ∈ y3.1.weights Try.prog 22, k ≤ reachBytes := fun k hk => hz k (by
    rw [hd, DataW.weights, Try.underlying24]
    simp only [List.map_cons, List.map_nil, DataW.weightsEach, List.mem_append]
    exact .inr (.inr (.inr (.inl hk))))
  obtain ⟨l, hl⟩ : ∃ l, cs.toList = l := ⟨_, rfl⟩
  have hlen : l.length = 4 := by rw [← hl, Array.length_toList]; exact hcs
  rw [hl] at g0 g1 g2 g3
  match l, hlen with
  | [x0, x1, x2, x3], _ =>
    have e0 : DataW.trod enc Try.prog W 0 (fun _ => true) true n' 3 [x0] = some y0 := by simpa [cellsIntL, cellsPlas] using g0
    have e1 : DataW.trod enc Try.prog W 0 (fun _ => true) true n' 3 [x1] = some y1 := by simpa [cellsIntL, cellsPlas] using g1
    have e2 : DataW.trod enc Try.prog W 0 (fun _ => true) true n' 3 [x2] = some y2 := by simpa [cellsIntL, cellsPlas] using g2
    have e3 : DataW.trod enc Try.prog W 0 (fun _ => true) true n' 22 [x3] = some y3 := by simpa [cellsIntL, cellsPlas] using g3
    obtain ⟨v, ev, _, wv⟩ := DataW.trod_int Try.underlying3 e0
    obtain ⟨u, eu, _, wu⟩ := DataW.trod_int Try.underlying3 e1
    obtain ⟨t, et, _, wt⟩ := DataW.trod_int Try.underlying3 e2
    obtain ⟨a0, n, c, k1, P, k2⟩ := open_plsK e3 hz3
    simp at ev eu et
    simp only [List.cons.injEq, and_true] at k1
    subst ev eu et k1
    have hcs2 : cs = #[.int .i64 v, .int .i64 u, .int .i64 t, .slice a0 n c] := by
      apply Array.toList_inj.1
      rw [hl]
    exact ⟨⟨v, u, t, P⟩, a0, n, c, by rw [hcs2], k2⟩
end Go.Proofs.Ytbailfianjmflab
