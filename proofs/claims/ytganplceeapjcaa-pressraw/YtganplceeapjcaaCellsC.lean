/- Rows of ints of one's own, by their cells. -/
import Derived.Test.YtganplceeapjcaaI64s
import Derived.Test.YtganplceeapjcaaGrow
import Derived.Lib.LazyBuf
namespace Go.Proofs.Ytganplceeapjcaa
open Go.RowKit

def cellsC (f : Nat → Int) (k : Nat) : List Value := (List.range k).map fun i => .int .i64 (f i)
theorem cellsC_length (f : Nat → Int) (k : Nat) : (cellsC f k).length = k := by simp [cellsC]
theorem cellsC_at (f : Nat → Int) (k i : Nat) (h : i < k) : (cellsC f k)[i]? = some (.int .i64 (f i)) := by simp [cellsC, h]
theorem cellsC_one (f : Nat → Int) (k : Nat) : ∀ u ∈ cellsC f k, u.oneCell' = true := by
  intro u hu
  obtain ⟨j, _, rfl⟩ := List.mem_map.1 hu
  rfl
/-- one more behind -/
def snocW (W : Nat → Int) (len : Nat) (x : Int) (i : Nat) : Int := if i = len then x else W i
theorem snoc_lo (W : Nat → Int) (len : Nat) (x : Int) (i : Nat) (h : i < len) : snocW W len x i = W i := by unfold snocW; rw [if_neg (by omega)]
theorem snoc_at (W : Nat → Int) (len : Nat) (x : Int) : snocW W len x len = x := by unfold snocW; rw [if_pos rfl]
theorem cellsC_snoc (W : Nat → Int) (len : Nat) (x : Int) : cellsC (snocW W len x) (len + 1) = cellsC W len ++ [.int .i64 x] := by
  unfold cellsC
  rw [List.range_succ, List.map_append, List.map_singleton, snoc_at]
  congr 1
  apply List.map_congr_left
  intro i hi
  rw [snoc_lo W len x i (by simpa using hi)]
theorem add_plainC (b off k : Nat) : (⟨b, off, none⟩ : Addr).add k = ⟨b, off + k, none⟩ := by unfold Addr.add; split <;> simp_all
theorem wds_news {w : World} {ad : Addr} {len : Nat} {W : Nat → Int} (h : Wds w (some ad) len W) : ∀ j u, (cellsC W len)[j]? = some u → w.cell? (ad.add j) = some u := by
  intro j u hj
  have hlt : j < len := by
    have h1 := (List.getElem?_eq_some_iff.1 hj).1
    rwa [cellsC_length] at h1
  obtain ⟨b, off, e, _, hc⟩ := h.at' (by omega)
  cases e
  rw [cellsC_at _ _ _ hlt] at hj
  rw [add_plainC, hc j hlt]; exact hj
theorem wds_of_own {w : World} {N n : Nat} {v : Value} {W : Nat → Int} (h : w.ownsRow N 3 1 v n (cellsC W n)) (hn : n ≤ 17592186044416) (hW : ∀ i, i < n → -9223372036854775808 ≤ W i ∧ W i ≤ 9223372036854775807) :
    ∃ ao cap, v = .slice ao n cap ∧ Wds w ao n W := by
  rcases h.2 with ⟨rfl, rfl⟩ | ⟨g, cap, cur, rfl, _, hg, _, _, _, hx⟩
  · exact ⟨none, 0, rfl, ⟨by omega, fun hp => by omega, hW⟩⟩
  · refine ⟨some ⟨g, 0, none⟩, cap, rfl, ⟨hn, fun _ => ⟨g, 0, rfl, (Array.getElem?_eq_some_iff.1 hg).1, fun i hi => ?_⟩, hW⟩⟩
    rw [Nat.zero_add, h.cellAt i (by omega)]
    simp [cellsC, hi]
theorem below_growC {w wr w1 : World} {N k e s : Nat} {v : Value} {xs : List Value} (hown : wr.ownsRow N e s v k xs) (hbl : Below N w wr) (hN : N ≤ wr.heap.size) (hg : wr.grownBy w1 v.ownBlock) : Below N w w1 :=
  hbl.grown hg hN fun j hj => (hown.lt j hj).1
theorem own_emptyC (w : World) : (w.alloc (.cells #[] 3)).ownsRow w.heap.size 3 1 (.slice (some ⟨w.heap.size, 0, none⟩) 0 0) 0 [] :=
  ⟨rfl, .inr ⟨w.heap.size, 0, #[], rfl, Nat.le_refl _, heap_alloc_new w _, Nat.le_refl _, Nat.zero_le _, rfl, rfl⟩⟩
theorem wds_nil {w : World} {len : Nat} {W : Nat → Int} (h : Wds w none len W) : len = 0 := by
  refine Classical.byContradiction fun hn => ?_
  obtain ⟨b, off, e, _⟩ := h.at' (by omega)
  cases e

end Go.Proofs.Ytganplceeapjcaa
