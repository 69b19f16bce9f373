/- A disk that came in, with its caps. -/
import Derived.Test.YtdhjadgmdmdnjaaDkOpen
namespace Go.Proofs.Ytdhjadgmdmdnjaa
open Go.RowKit Go.Deep Go.ChangeShapes

/-- a disk that came in, with what its lists' caps are -/
structure DkC (w : World) (a0 : Option Addr) (n c : Nat) (a1 : Option Addr) (m d : Nat) (C : List ByteArray) (P : List Pt) : Prop where
  dk : Dk w a0 n a1 m C P
  n0 : a0 = none → c = 0
  n1 : a1 = none → d = 0
theorem DkC.below {w w' : World} {a0 : Option Addr} {n c : Nat} {a1 : Option Addr} {m d : Nat} {C : List ByteArray} {P : List Pt} (h : DkC w a0 n c a1 m d C P) (hb : Below w.heap.size w w') : DkC w' a0 n c a1 m d C P := ⟨h.dk.below hb, h.n0, h.n1⟩
/-- a disk that came in -/
theorem open_dkC {H : Type} {enc : TypeId × Value → H} {W : World} {r : Reach} {base : Nat} {v : Value} {d : DataW H} {p : List MemPlace} (hv : Value.okWide Try.prog W r base 25 v)
    (h : DataW.Trod enc Try.prog W 0 (fun _ => true) true 25 v d p) (hz : ∀ n ∈ d.weights Try.prog 25, n ≤ reachBytes) :
    ∃ a0 n c a1 m e C P, v = .agg #[.slice a0 n c, .slice a1 m e] ∧ DkC W a0 n c a1 m e C P := by
  obtain ⟨cs, rfl, hcs⟩ := Go.WideShapes.okWide_struct Try.underlying25 hv
  rw [cellsDisk] at hcs
  obtain ⟨fuel, hf⟩ := h
  have hf' : DataW.trod enc Try.prog W 0 (fun _ => true) true fuel 25 cs.toList = some (d, p) := hf
  obtain ⟨y0, y1, n', hy, _, g0, g1⟩ := trod_struct2 Try.underlying25 hf'
  have hd : d = .agg [y0.1, y1.1] := congrArg Prod.fst hy
  have hz0 : ∀ k ∈ y0.1.weights Try.prog 22, k ≤ reachBytes := fun k hk => hz k (by
    rw [hd, DataW.weights, Try.underlying25]
    simp only [List.map_cons, List.map_nil, DataW.weightsEach, List.mem_append]
    exact .inl hk)
  have hz1 : ∀ k ∈ y1.1.weights Try.prog 23, k ≤ reachBytes := fun k hk => hz k (by
    rw [hd, DataW.weights, Try.underlying25]
    simp only [List.map_cons, List.map_nil, DataW.weightsEach, List.mem_append]
    exact .inr (.inl hk))
  obtain ⟨l, hl⟩ : ∃ l, cs.toList = l := ⟨_, rfl⟩
  have hlen : l.length = 2 := by rw [← hl, Array.length_toList]; exact hcs
  rw [hl] at g0 g1
  match l, hlen with
  | [x0, x1], _ =>
    have e0 : DataW.trod enc Try.prog W 0 (fun _ => true) true n' 22 [x0] = some y0 := by simpa [cellsStrs, cellsPuts] using g0
    have e1 : DataW.trod enc Try.prog W 0 (fun _ => true) true n' 23 [x1] = some y1 := by simpa [cellsStrs, cellsPuts] using g1
    obtain ⟨a0, n, c, k1, C, k2, k3, k4, k5, _, _, kn⟩ := open_strsK e0 hz0
    obtain ⟨a1, m, e, j1, P, j2, j3, j4, j5, _, _, jn⟩ := open_putsK e1 hz1
    simp only [List.cons.injEq, and_true] at k1 j1
    subst k1 j1
    have hcs2 : cs = #[.slice a0 n c, .slice a1 m e] := by
      apply Array.toList_inj.1
      rw [hl]
    exact ⟨a0, n, c, a1, m, e, C, P, by rw [hcs2], ⟨⟨k2, j2, k5, j5, k3, j3, fun p hp => (j4 p hp).1, k4, fun p hp => (j4 p hp).2⟩, kn, jn⟩⟩
end Go.Proofs.Ytdhjadgmdmdnjaa
