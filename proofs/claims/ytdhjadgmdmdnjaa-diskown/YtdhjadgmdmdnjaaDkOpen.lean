/- Disks, ops and Booleans that came in, as the walks want them. -/
import Derived.Test.YtdhjadgmdmdnjaaRdOpen
import Derived.Test.YtdhjadgmdmdnjaaStrCells
import Derived.Test.YtdhjadgmdmdnjaaBos
namespace Go.Proofs.Ytdhjadgmdmdnjaa
open Go.RowKit Go.Deep Go.ChangeShapes

theorem cellsPut : Try.prog.cellsOf 46 = 2 := by kernel_rfl
theorem cellsStrs : Try.prog.cellsOf 22 = 1 := by kernel_rfl
theorem cellsPuts : Try.prog.cellsOf 23 = 1 := by kernel_rfl
theorem cellsDisk : Try.prog.cellsOf 25 = 2 := by kernel_rfl
theorem bytesPut : Try.prog.bytesOf 46 = 24 := by kernel_rfl
set_option maxRecDepth 20000 in
theorem put_cells {H : Type} {enc : TypeId × Value → H} {W : World} {n : Nat} {cs : List Value} {y : DataW H × List MemPlace} (h : DataW.trod enc Try.prog W 0 (fun _ => true) true n 46 cs = some y) (hl : cs.length = 2) (hz : ∀ k ∈ y.1.weights Try.prog 46, k ≤ reachBytes) :
    ∃ p : Pt, cs = pt2 p ∧ ((-9223372036854775808 ≤ p.pl ∧ p.pl ≤ 9223372036854775807) ∧ p.tx.size ≤ 140737488355328) := by
  obtain ⟨y0, y1, n', hy, _, g0, g1⟩ := trod_struct2 Try.underlying46 h
  match cs, hl with
  | [x0, x1], _ =>
    have e0 : DataW.trod enc Try.prog W 0 (fun _ => true) true n' 3 [x0] = some y0 := by simpa [cellsIntK, cellsStr] using g0
    have e1 : DataW.trod enc Try.prog W 0 (fun _ => true) true n' 9 [x1] = some y1 := by simpa [cellsIntK, cellsStr] using g1
    obtain ⟨v, ev, _, wv⟩ := DataW.trod_int Try.underlying3 e0
    obtain ⟨s, es, hs⟩ := str_cells e1 (fun k hk => hz k (by
      rw [hy, DataW.weights, Try.underlying46]
      simp only [List.map_cons, List.map_nil, DataW.weightsEach, List.mem_append]
      exact .inr (.inl hk)))
    simp at ev es
    subst ev es
    exact ⟨⟨v, s⟩, rfl, bounds_i64 wv, hs⟩
theorem stC_flat (C : List ByteArray) : C.flatMap (fun s => [Value.string s]) = stC C := by
  induction C with
  | nil => rfl
  | cons x r ih => rw [List.flatMap_cons, ih]; rfl
theorem open_strsK {H : Type} {enc : TypeId × Value → H} {W : World} {fuel : Nat} {cs : List Value} {x : DataW H × List MemPlace} (hf : DataW.trod enc Try.prog W 0 (fun _ => true) true fuel 22 cs = some x) (hz : ∀ n ∈ x.1.weights Try.prog 22, n ≤ reachBytes) :
    ∃ a0 len cap, cs = [.slice a0 len cap] ∧ ∃ C : List ByteArray, C.length = len ∧ Rd W a0 len 1 (stC C) ∧ (∀ s ∈ C, s.size ≤ 140737488355328) ∧ len ≤ 8796093022208 ∧ len ≤ cap ∧ cap ≤ maxLen ∧ (a0 = none → cap = 0) := by
  have : Inhabited ByteArray := ⟨⟨#[]⟩⟩
  obtain ⟨a0, len, cap, h1, C, h2, h3, h4, h5, h6⟩ := open_rd (α := ByteArray) (cells := fun s => [Value.string s]) (good := fun s => s.size ≤ 140737488355328) Try.underlying22 cellsStr (by decide) (fun _ => rfl) (fun n cs' y hy _ hz' => str_cells hy hz') hf hz
  rw [stC_flat] at h3
  rw [bytesStr] at h5
  have := reachBytes_lt
  exact ⟨a0, len, cap, h1, C, h2, h3, h4, by omega, h6⟩
theorem open_putsK {H : Type} {enc : TypeId × Value → H} {W : World} {fuel : Nat} {cs : List Value} {x : DataW H × List MemPlace} (hf : DataW.trod enc Try.prog W 0 (fun _ => true) true fuel 23 cs = some x) (hz : ∀ n ∈ x.1.weights Try.prog 23, n ≤ reachBytes) :
    ∃ a0 len cap, cs = [.slice a0 len cap] ∧ ∃ P : List Pt, P.length = len ∧ Rd W a0 len 2 (ptC P) ∧ (∀ p ∈ P, (-9223372036854775808 ≤ p.pl ∧ p.pl ≤ 9223372036854775807) ∧ p.tx.size ≤ 140737488355328) ∧ len ≤ 5864062014805 ∧ len ≤ cap ∧ cap ≤ maxLen ∧ (a0 = none → cap = 0) := by
  have : Inhabited Pt := ⟨noPt⟩
  obtain ⟨a0, len, cap, h1, P, h2, h3, h4, h5, h6⟩ := open_rd (α := Pt) (cells := pt2) (good := fun p => (-9223372036854775808 ≤ p.pl ∧ p.pl ≤ 9223372036854775807) ∧ p.tx.size ≤ 140737488355328) Try.underlying23 cellsPut (by decide) (fun _ => rfl) (fun n cs' y hy hl hz' => put_cells hy hl hz') hf hz
  rw [bytesPut] at h5
  have := reachBytes_lt
  exact ⟨a0, len, cap, h1, P, h2, h3, h4, by omega, h6⟩
set_option maxRecDepth 20000 in
/-- a disk that came in -/
theorem open_dk {H : Type} {enc : TypeId × Value → H} {W : World} {r : Reach} {base : Nat} {v : Value} {d : DataW H} {p : List MemPlace} (hv : Value.okWide Try.prog W r base 25 v)
    (h : DataW.Trod enc Try.prog W 0 (fun _ => true) true 25 v d p) (hz : ∀ n ∈ d.weights Try.prog 25, n ≤ reachBytes) :
    ∃ a0 n c a1 m e C P, v = .agg #[.slice a0 n c, .slice a1 m e] ∧ Dk W a0 n a1 m C P := by
  obtain ⟨cs, rfl, hcs⟩ := Go.WideShapes.okWide_struct Try.underlying25 hv
  rw [cellsDisk] at hcs
  obtain ⟨fuel, hf⟩ := h
  have hf' : DataW.trod enc Try.prog W 0 (fun _ => true) true fuel 25 cs.toList = some (d, p) := hf
  obtain ⟨y0, y1, n', hy, _, g0, g1⟩ := trod_struct2 Try.underlying25 hf'
  have hd : d = .agg [y0.1, y1.1] := congrArg Prod.fst hy
  have hz0 : ∀ k ∈ y0.1.weights Try.prog 22, k ≤ reachBytes := fun k hk => hz k (by
    rw [hd, DataW.weights, Try.underlying25]
    simp only [List.map_cons, List.map_nil, DataW.weightsEach, List.mem_append]
    exact .inl hk)
  have hz1 : ∀ k ∈ y1.1.weights Try.prog 23, k ≤ reachBytes := fun k hk => hz k (by
    rw [hd, DataW.weights, Try.underlying25]
    simp only [List.map_cons, List.map_nil, DataW.weightsEach, List.mem_append]
    exact .inr (.inl hk))
  obtain ⟨l, hl⟩ : ∃ l, cs.toList = l := ⟨_, rfl⟩
  have hlen : l.length = 2 := by rw [← hl, Array.length_toList]; exact hcs
  rw [hl] at g0 g1
  match l, hlen with
  | [x0, x1], _ =>
    have e0 : DataW.trod enc Try.prog W 0 (fun _ => true) true n' 22 [x0] = some y0 := by simpa [cellsStrs, cellsPuts] using g0
    have e1 : DataW.trod enc Try.prog W 0 (fun _ => true) true n' 23 [x1] = some y1 := by simpa [cellsStrs, cellsPuts] using g1
    obtain ⟨a0, n, c, k1, C, k2, k3, k4, k5, _⟩ := open_strsK e0 hz0
    obtain ⟨a1, m, e, j1, P, j2, j3, j4, j5, _⟩ := open_putsK e1 hz1
    simp only [List.cons.injEq, and_true] at k1 j1
    subst k1 j1
    have hcs2 : cs = #[.slice a0 n c, .slice a1 m e] := by
      apply Array.toList_inj.1
      rw [hl]
    exact ⟨a0, n, c, a1, m, e, C, P, by rw [hcs2], ⟨k2, j2, k5, j5, k3, j3, fun p hp => (j4 p hp).1, k4, fun p hp => (j4 p hp).2⟩⟩
end Go.Proofs.Ytdhjadgmdmdnjaa
