/- Texts of ours, one behind the other: CellsC Book -/
import Derived.Test.YtcalbicfnhoklaaDoorMsai
import Derived.Test.YtcalbicfnhoklaaDoorMsag
import Derived.Lib.LazyBuf
import Derived.Test.YtcalbicfnhoklaaDoorMsad

/- Rows of ints of one's own, by their cells. -/
namespace Go.Proofs.YtcalbicfnhoklaaDoor
open Go.RowKit

def cellsC (f : Nat → Int) (k : Nat) : List Value := (List.range k).map fun i => .int .i64 (f i)
theorem cellsC_length (f : Nat → Int) (k : Nat) : (cellsC f k).length = k := by simp [cellsC]
theorem cellsC_at (f : Nat → Int) (k i : Nat) (h : i < k) : (cellsC f k)[i]? = some (.int .i64 (f i)) := by simp [cellsC, h]
theorem cellsC_one (f : Nat → Int) (k : Nat) : ∀ u ∈ cellsC f k, u.oneCell' = true := by
  intro u hu
  obtain ⟨j, _, rfl⟩ := List.mem_map.1 hu
  rfl
/-- one more behind -/
def snocW (W : Nat → Int) (len : Nat) (x : Int) (i : Nat) : Int := if i = len then x else W i
theorem snoc_lo (W : Nat → Int) (len : Nat) (x : Int) (i : Nat) (h : i < len) : snocW W len x i = W i := by unfold snocW; rw [if_neg (by omega)]
theorem snoc_at (W : Nat → Int) (len : Nat) (x : Int) : snocW W len x len = x := by unfold snocW; rw [if_pos rfl]
theorem cellsC_snoc (W : Nat → Int) (len : Nat) (x : Int) : cellsC (snocW W len x) (len + 1) = cellsC W len ++ [.int .i64 x] := by
  unfold cellsC
  rw [List.range_succ, List.map_append, List.map_singleton, snoc_at]
  congr 1
  apply List.map_congr_left
  intro i hi
  rw [snoc_lo W len x i (by simpa using hi)]
theorem add_plainC (b off k : Nat) : (⟨b, off, none⟩ : Addr).add k = ⟨b, off + k, none⟩ := by unfold Addr.add; split <;> simp_all
theorem wds_news {w : World} {ad : Addr} {len : Nat} {W : Nat → Int} (h : Wds w (some ad) len W) : ∀ j u, (cellsC W len)[j]? = some u → w.cell? (ad.add j) = some u := by
  intro j u hj
  have hlt : j < len := by
    have h1 := (List.getElem?_eq_some_iff.1 hj).1
    rwa [cellsC_length] at h1
  obtain ⟨b, off, e, _, hc⟩ := h.at' (by omega)
  cases e
  rw [cellsC_at _ _ _ hlt] at hj
  rw [add_plainC, hc j hlt]; exact hj
theorem wds_of_own {w : World} {N n : Nat} {v : Value} {W : Nat → Int} (h : w.ownsRow N 3 1 v n (cellsC W n)) (hn : n ≤ 17592186044416) (hW : ∀ i, i < n → -9223372036854775808 ≤ W i ∧ W i ≤ 9223372036854775807) :
    ∃ ao cap, v = .slice ao n cap ∧ Wds w ao n W := by
  rcases h.2 with ⟨rfl, rfl⟩ | ⟨g, cap, cur, rfl, _, hg, _, _, _, hx⟩
  · exact ⟨none, 0, rfl, ⟨by omega, fun hp => by omega, hW⟩⟩
  · refine ⟨some ⟨g, 0, none⟩, cap, rfl, ⟨hn, fun _ => ⟨g, 0, rfl, (Array.getElem?_eq_some_iff.1 hg).1, fun i hi => ?_⟩, hW⟩⟩
    rw [Nat.zero_add, h.cellAt i (by omega)]
    simp [cellsC, hi]
theorem below_growC {w wr w1 : World} {N k e s : Nat} {v : Value} {xs : List Value} (hown : wr.ownsRow N e s v k xs) (hbl : Below N w wr) (hN : N ≤ wr.heap.size) (hg : wr.grownBy w1 v.ownBlock) : Below N w w1 :=
  hbl.grown hg hN fun j hj => (hown.lt j hj).1
theorem own_emptyC (w : World) : (w.alloc (.cells #[] 3)).ownsRow w.heap.size 3 1 (.slice (some ⟨w.heap.size, 0, none⟩) 0 0) 0 [] :=
  ⟨rfl, .inr ⟨w.heap.size, 0, #[], rfl, Nat.le_refl _, heap_alloc_new w _, Nat.le_refl _, Nat.zero_le _, rfl, rfl⟩⟩
theorem wds_nil {w : World} {len : Nat} {W : Nat → Int} (h : Wds w none len W) : len = 0 := by
  refine Classical.byContradiction fun hn => ?_
  obtain ⟨b, off, e, _⟩ := h.at' (by omega)
  cases e

end Go.Proofs.YtcalbicfnhoklaaDoor

/- A code as code.bookOf lays it. -/
namespace Go.Proofs.YtcalbicfnhoklaaDoor
open Go.RowKit

def cellsS (l : List Nat) : List Value := l.map fun i : Nat => .int .i64 (i : Int)
theorem cellsS_snoc (l : List Nat) (k : Nat) : cellsS (l ++ [k]) = cellsS l ++ [.int .i64 (k : Int)] := by simp [cellsS]
/-- the book behind the first k signs -/
structure BookAt (w : World) (g : Nat) (L : Nat → Int) (len k : Nat) (taken : Int) (R : Nat → Value) : Prop where
  lt : g < w.heap.size
  fz : ∀ p, p < 33 → w.frozen? ⟨g, p, none⟩ = false
  c0 : w.cell? ⟨g, 0, none⟩ = some (.int .i64 taken)
  c1 : ∀ t, t ≤ 15 → w.cell? ⟨g, 1 + t, none⟩ = some (.int .i64 (fstC L len t k : Nat))
  c2 : ∀ t, t ≤ 15 → w.cell? ⟨g, 17 + t, none⟩ = some (R t)
  own : ∀ t, t ≤ 15 → w.ownsRow (g + 1) 3 1 (R t) (sgsL L t k).length (cellsS (sgsL L t k))
  apart : ∀ s t, s ≤ 15 → t ≤ 15 → s ≠ t → Apart (R s) (R t)
theorem own_slice {w : World} {base n size : Nat} {e : TypeId} {v : Value} {xs : List Value} (h : w.ownsRow base e size v n xs) : ∃ ao cap, v = .slice ao n cap := by
  rcases h.2 with ⟨rfl, rfl⟩ | ⟨g, cap, cur, rfl, _⟩
  · exact ⟨none, 0, rfl⟩
  · exact ⟨_, cap, rfl⟩
theorem own_set {w : World} {base n size : Nat} {e : TypeId} {v : Value} {xs : List Value} (h : w.ownsRow base e size v n xs) {g p : Nat} (hg : g < base) (x : Value) : (w.setCell ⟨g, p, none⟩ x).ownsRow base e size v n xs :=
  ownsRow_setCell_below h (a := ⟨g, p, none⟩) hg x
theorem BookAt.set1 {w : World} {g : Nat} {L : Nat → Int} {len k : Nat} {taken : Int} {R : Nat → Value} (h : BookAt w g L len k taken R) (t : Nat) (ht : t ≤ 15) (h0 : 0 < t) (hL : L k = (t : Int)) (hn : (sgsL L t k).length = 0) :
    ∀ s, s ≤ 15 → (w.setCell ⟨g, 1 + t, none⟩ (.int .i64 (codeN L len k : Nat))).cell? ⟨g, 1 + s, none⟩ = some (.int .i64 (fstC L len s (k + 1) : Nat)) := by
  intro s hs
  by_cases e : s = t
  · subst e
    rw [fstC_first L len s k h0 hL hn]
    exact World.cell?_setCell_same _ _ _ (h.c1 s hs)
  · rw [fstC_skip L len s k (by rw [hL]; omega), World.cell?_setCell_other _ _ _ _ (by intro e'; simp only [Addr.mk.injEq] at e'; omega)]
    exact h.c1 s hs
/-- one more sign, once its first code is laid -/
theorem BookAt.more {w w1 w2 : World} {g : Nat} {L : Nat → Int} {len k : Nat} {taken : Int} {R : Nat → Value} (h : BookAt w g L len k taken R) (t : Nat) (ht : t ≤ 15) (h0 : 0 < t) (hL : L k = (t : Int))
    (hw1 : w1.heap.size = w.heap.size) (hfz : ∀ p, p < 33 → w1.frozen? ⟨g, p, none⟩ = false) (hc0 : w1.cell? ⟨g, 0, none⟩ = some (.int .i64 taken)) (hc1 : ∀ s, s ≤ 15 → w1.cell? ⟨g, 1 + s, none⟩ = some (.int .i64 (fstC L len s (k + 1) : Nat)))
    (hc2 : ∀ s, s ≤ 15 → w1.cell? ⟨g, 17 + s, none⟩ = some (R s)) (hown : ∀ s, s ≤ 15 → w1.ownsRow (g + 1) 3 1 (R s) (sgsL L s k).length (cellsS (sgsL L s k)))
    {v' : Value} {o : Obj} (ho : w2.ownsRow (g + 1) 3 1 v' ((sgsL L t k).length + 1) (cellsS (sgsL L t k) ++ [.int .i64 (k : Int)])) (hgr : (w1.alloc o).grownBy w2 (R t).ownBlock) (hat : v'.ownBlock = (R t).ownBlock ∨ v'.ownBlock = some (w1.alloc o).heap.size) :
    BookAt (w2.setCell ⟨g, 17 + t, none⟩ v') g L len (k + 1) taken (fun s => if s = t then v' else R s) := by
  have hlt := h.lt
  have hgs : g < w1.heap.size := by omega
  have blk : (w2).heap[g]? = w1.heap[g]? := by
    rw [hgr.block g (by simp; omega) (fun he => by have := ((hown t ht).lt g he.symm).1; omega)]
    exact Below.heap_alloc w1 o g hgs
  have cel : ∀ p : Nat, w2.cell? ⟨g, p, none⟩ = w1.cell? ⟨g, p, none⟩ := fun p => World.cell?_of_block blk
  have fro : ∀ p : Nat, w2.frozen? ⟨g, p, none⟩ = w1.frozen? ⟨g, p, none⟩ := fun p => World.frozen?_of_block blk
  refine ⟨?_, fun p hp => ?_, ?_, fun s hs => ?_, fun s hs => ?_, fun s hs => ?_, fun s r hs hr hne => ?_⟩
  · have := hgr.size
    simp [World.setCell] at this ⊢; omega
  · rw [World.frozen?_setCell, fro]; exact hfz p hp
  · rw [World.cell?_setCell_other _ _ _ _ (by intro e'; simp only [Addr.mk.injEq] at e'; omega), cel]; exact hc0
  · rw [World.cell?_setCell_other _ _ _ _ (by intro e'; simp only [Addr.mk.injEq] at e'; omega), cel]; exact hc1 s hs
  · by_cases e : s = t
    · subst e
      rw [if_pos rfl]
      exact World.cell?_setCell_same _ _ _ (u := R s) (by rw [cel]; exact hc2 s hs)
    · rw [if_neg e, World.cell?_setCell_other _ _ _ _ (by intro e'; simp only [Addr.mk.injEq] at e'; omega), cel]; exact hc2 s hs
  · by_cases e : s = t
    · subst e
      rw [if_pos rfl, sgsL_yes L s k h0 hL, cellsS_snoc, List.length_append]
      exact own_set ho (by omega) _
    · rw [if_neg e, sgsL_no L s k (by rw [hL]; omega)]
      exact own_set (((hown s hs).alloc o).kept hgr (h.apart s t hs ht e)) (by omega) _
  · by_cases e1 : s = t
    · subst e1
      rw [if_pos rfl, if_neg (Ne.symm hne)]
      exact (apart_grown (h.apart r s hr hs (Ne.symm hne)) ((hown r hr).alloc o) ((hown s hs).alloc o) hgr hat).symm
    · rw [if_neg e1]
      by_cases e2 : r = t
      · subst e2
        rw [if_pos rfl]
        exact apart_grown (h.apart s r hs hr hne) ((hown s hs).alloc o) ((hown r hr).alloc o) hgr hat
      · rw [if_neg e2]; exact h.apart s r hs hr hne
theorem BookAt.skip {w : World} {g : Nat} {L : Nat → Int} {len k : Nat} {taken : Int} {R : Nat → Value} (h : BookAt w g L len k taken R) (hL : L k = 0) : BookAt w g L len (k + 1) taken R := by
  have e : ∀ t, sgsL L t (k + 1) = sgsL L t k := fun t => by
    rcases Nat.eq_zero_or_pos t with rfl | ht
    · rw [sgsL_zero, sgsL_zero]
    · exact sgsL_no L t k (by rw [hL]; omega)
  refine ⟨h.lt, h.fz, h.c0, fun t ht => ?_, h.c2, fun t ht => ?_, h.apart⟩
  · have := h.c1 t ht
    unfold fstC at this ⊢
    rw [e t]; exact this
  · rw [e t]; exact h.own t ht
/-- all that is looked up -/
structure BookOf (w : World) (g : Nat) (L : Nat → Int) (len : Nat) : Prop where
  lt : g < w.heap.size
  c0 : w.cell? ⟨g, 0, none⟩ = some (.int .i64 (fillN L len : Nat))
  c1 : ∀ t, t ≤ 15 → w.cell? ⟨g, 1 + t, none⟩ = some (.int .i64 (fstC L len t len : Nat))
  c2 : ∀ t, t ≤ 15 → ∃ ao cap, w.cell? ⟨g, 17 + t, none⟩ = some (.slice ao (sgsL L t len).length cap) ∧ (0 < (sgsL L t len).length → ∃ b off, ao = some ⟨b, off, none⟩ ∧ b < w.heap.size ∧ ∀ j i : Nat, (sgsL L t len)[j]? = some i → w.cell? ⟨b, off + j, none⟩ = some (.int .i64 (i : Int)))
theorem BookAt.of {w : World} {g : Nat} {L : Nat → Int} {len : Nat} {R : Nat → Value} (h : BookAt w g L len len (fillN L len : Nat) R) : BookOf w g L len := by
  refine ⟨h.lt, h.c0, h.c1, fun t ht => ?_⟩
  have ho := h.own t ht
  obtain ⟨ao, cap, hv⟩ := own_slice ho
  refine ⟨ao, cap, by rw [h.c2 t ht, hv], fun hp => ?_⟩
  obtain ⟨b, cp, hv2, h1, h2, h3⟩ := own_some ho hp
  rw [hv] at hv2
  cases hv2
  refine ⟨b, 0, rfl, h2, fun j i hj => ?_⟩
  have := h3 j (.int .i64 (i : Int)) (by unfold cellsS; rw [List.getElem?_map, hj]; rfl)
  rwa [add_plainC] at this
theorem BookOf.below {w w' : World} {g : Nat} {L : Nat → Int} {len : Nat} (h : BookOf w g L len) (hb : Below w.heap.size w w') : BookOf w' g L len := by
  have cel : ∀ b p : Nat, b < w.heap.size → w'.cell? ⟨b, p, none⟩ = w.cell? ⟨b, p, none⟩ := fun b p hl => hb.cell (p := ⟨b, p, none⟩) hl
  refine ⟨Nat.lt_of_lt_of_le h.lt hb.size, by rw [cel _ _ h.lt]; exact h.c0, fun t ht => by rw [cel _ _ h.lt]; exact h.c1 t ht, fun t ht => ?_⟩
  obtain ⟨ao, cap, h1, h2⟩ := h.c2 t ht
  refine ⟨ao, cap, by rw [cel _ _ h.lt]; exact h1, fun hp => ?_⟩
  obtain ⟨b, off, h3, h4, h5⟩ := h2 hp
  exact ⟨b, off, h3, Nat.lt_of_lt_of_le h4 hb.size, fun j i hj => by rw [cel _ _ h4]; exact h5 j i hj⟩
end Go.Proofs.YtcalbicfnhoklaaDoor
