/- Rows of pieces of one's own, by their cells. -/
import Derived.Test.YtnoegodimiehhaaPcs
import Derived.Test.YtnoegodimiehhaaCatMath
import Derived.Test.YtnoegodimiehhaaGrow
import Derived.Lib.AppendZeros
import Derived.Lib.LazyBuf
import Derived.Laws.AppendOwnNone
import Derived.Deep.DeepAppendRoom
namespace Go.Proofs.Ytnoegodimiehhaa
open Go.RowKit

theorem infoPiece : (Try.prog.info? 36).map (fun i => (i.zero, i.size, i.bytes)) = some (some (.agg #[.int .u64 0, .int .i64 0]), 2, 16) := by kernel_rfl
/-- the cells of pieces -/
def cellsP (V : Nat → Nat) (W : Nat → Int) (k : Nat) : List Value := (List.range (k * 2)).map fun j => if j % 2 = 0 then .int .u64 (V (j / 2) : Int) else .int .i64 (W (j / 2))
theorem cellsP_length (V : Nat → Nat) (W : Nat → Int) (k : Nat) : (cellsP V W k).length = k * 2 := by simp [cellsP]
theorem cellsP_even (V : Nat → Nat) (W : Nat → Int) (k i : Nat) (h : i < k) : (cellsP V W k)[i * 2]? = some (.int .u64 (V i : Int)) := by
  unfold cellsP
  rw [List.getElem?_map, List.getElem?_range (by omega)]
  simp
theorem cellsP_odd (V : Nat → Nat) (W : Nat → Int) (k i : Nat) (h : i < k) : (cellsP V W k)[i * 2 + 1]? = some (.int .i64 (W i)) := by
  unfold cellsP
  rw [List.getElem?_map, List.getElem?_range (by omega)]
  simp only [Option.map_some]
  rw [if_neg (by omega), show (i * 2 + 1) / 2 = i by omega]
theorem cellsP_one (V : Nat → Nat) (W : Nat → Int) (k : Nat) : ∀ u ∈ cellsP V W k, u.oneCell' = true := by
  intro u hu
  unfold cellsP at hu
  obtain ⟨j, _, rfl⟩ := List.mem_map.1 hu
  split <;> rfl
theorem cellsP_cat (V1 V2 : Nat → Nat) (W1 W2 : Nat → Int) (n k : Nat) : cellsP V1 W1 n ++ cellsP V2 W2 k = cellsP (cat n V1 V2) (cat n W1 W2) (n + k) := by
  have l1 := cellsP_length V1 W1 n
  have l2 := cellsP_length V2 W2 k
  have l3 := cellsP_length (cat n V1 V2) (cat n W1 W2) (n + k)
  apply List.ext_getElem?
  intro j
  by_cases hj : j < (n + k) * 2
  · obtain ⟨i, r, hr, rfl⟩ : ∃ i r, r < 2 ∧ j = i * 2 + r := ⟨j / 2, j % 2, by omega, by omega⟩
    by_cases hi : i < n
    · rw [List.getElem?_append_left (by omega)]
      rcases (by omega : r = 0 ∨ r = 1) with rfl | rfl
      · rw [Nat.add_zero, cellsP_even _ _ _ _ hi, cellsP_even _ _ _ _ (by omega), cat_lo _ _ _ _ hi]
      · rw [cellsP_odd _ _ _ _ hi, cellsP_odd _ _ _ _ (by omega), cat_lo _ _ _ _ hi]
    · obtain ⟨m, rfl⟩ : ∃ m, i = n + m := ⟨i - n, by omega⟩
      rw [List.getElem?_append_right (by omega), l1, show (n + m) * 2 + r - n * 2 = m * 2 + r by omega]
      rcases (by omega : r = 0 ∨ r = 1) with rfl | rfl
      · rw [Nat.add_zero, Nat.add_zero, cellsP_even _ _ _ _ (by omega), cellsP_even _ _ _ _ (by omega), cat_hi]
      · rw [cellsP_odd _ _ _ _ (by omega), cellsP_odd _ _ _ _ (by omega), cat_hi]
  · rw [List.getElem?_eq_none (by rw [List.length_append]; omega), List.getElem?_eq_none (by omega)]
theorem add_plain (b off k : Nat) : (⟨b, off, none⟩ : Addr).add k = ⟨b, off + k, none⟩ := by unfold Addr.add; split <;> simp_all
theorem pcs_news {w : World} {ad : Addr} {len : Nat} {V : Nat → Nat} {W : Nat → Int} (h : Pcs w (some ad) len V W) : ∀ j u, (cellsP V W len)[j]? = some u → w.cell? (ad.add j) = some u := by
  intro j u hj
  have hlt : j < len * 2 := by
    have h1 := (List.getElem?_eq_some_iff.1 hj).1
    rwa [cellsP_length] at h1
  obtain ⟨b, off, e, _, hc⟩ := h.at' (by omega)
  cases e
  obtain ⟨i, r, hr, rfl⟩ : ∃ i r, r < 2 ∧ j = i * 2 + r := ⟨j / 2, j % 2, by omega, by omega⟩
  rw [add_plain]
  rcases (by omega : r = 0 ∨ r = 1) with rfl | rfl
  · rw [Nat.add_zero, cellsP_even _ _ _ _ (by omega)] at hj
    rw [Nat.add_zero, (hc i (by omega)).1]; exact hj
  · rw [cellsP_odd _ _ _ _ (by omega)] at hj
    rw [← Nat.add_assoc, (hc i (by omega)).2]; exact hj
theorem pcs_of_own {w : World} {N n : Nat} {v : Value} {V : Nat → Nat} {W : Nat → Int} (h : w.ownsRow N 36 2 v n (cellsP V W n)) (hn : n ≤ 17592186044416) (hV : ∀ i, i < n → V i < 18446744073709551616) (hW : ∀ i, i < n → -9223372036854775808 ≤ W i ∧ W i ≤ 9223372036854775807) :
    ∃ ao cap, v = .slice ao n cap ∧ (ao = none → cap = 0) ∧ Pcs w ao n V W := by
  rcases h.2 with ⟨rfl, rfl⟩ | ⟨g, cap, cur, rfl, _, hg, _, _, _, hx⟩
  · exact ⟨none, 0, rfl, (fun _ => rfl), ⟨by omega, fun hp => by omega, hV, hW⟩⟩
  · refine ⟨some ⟨g, 0, none⟩, cap, rfl, (fun e => by cases e), ⟨hn, fun _ => ⟨g, 0, rfl, (Array.getElem?_eq_some_iff.1 hg).1, fun i hi => ?_⟩, hV, hW⟩⟩
    have c0 := h.cells (g := g) rfl (i * 2) _ (cellsP_even V W n i hi)
    have c1 := h.cells (g := g) rfl (i * 2 + 1) _ (cellsP_odd V W n i hi)
    rw [add_plain] at c0 c1
    exact ⟨c0, c1⟩
theorem below_grow2 {w wr w1 : World} {N k e s : Nat} {v : Value} {xs : List Value} (hown : wr.ownsRow N e s v k xs) (hbl : Below N w wr) (hN : N ≤ wr.heap.size) (hg : wr.grownBy w1 v.ownBlock) : Below N w w1 :=
  hbl.grown hg hN fun j hj => (hown.lt j hj).1
theorem own_empty (w : World) : (w.alloc (.cells #[] 36)).ownsRow w.heap.size 36 2 (.slice (some ⟨w.heap.size, 0, none⟩) 0 0) 0 [] :=
  ⟨rfl, .inr ⟨w.heap.size, 0, #[], rfl, Nat.le_refl _, heap_alloc_new w _, Nat.le_refl _, Nat.zero_le _, rfl, rfl⟩⟩

end Go.Proofs.Ytnoegodimiehhaa
