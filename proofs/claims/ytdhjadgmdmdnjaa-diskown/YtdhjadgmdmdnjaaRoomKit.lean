/- A list with room behind it: its block, cell by cell. -/
import Derived.Test.YtdhjadgmdmdnjaaBoxV
import Derived.Test.YtdhjadgmdmdnjaaRd
import Derived.OwnWalk
namespace Go.Proofs.Ytdhjadgmdmdnjaa
open Go.RowKit

/-- an owned row with its whole block -/
theorem box_of_own {w : World} {N g n cap size : Nat} {e : TypeId} {xs : List Value} (h : w.ownsRow N e size (.slice (some ⟨g, 0, none⟩) n cap) n xs) : ∃ rest : List Value, (xs ++ rest).length = cap * size ∧ BoxV w g (xs ++ rest) ∧ N ≤ g ∧ xs.length = n * size := by
  rcases h.2 with ⟨h0, _⟩ | ⟨g', cap', cur, hv, hb, hg, hnc, hcm, hcs, ht⟩
  · cases h0
  · cases hv
    have hx : xs ++ cur.toList.drop xs.length = cur.toList := by
      rw [h.1]
      conv => lhs; lhs; rw [← ht]
      exact List.take_append_drop _ _
    refine ⟨cur.toList.drop xs.length, by rw [hx, Array.length_toList, hcs], ?_, hb, h.1⟩
    rw [hx]
    refine ⟨fun j u hj => ?_, fun j _ => ?_, (Array.getElem?_eq_some_iff.1 hg).1⟩
    · simpa [World.cell?, hg] using hj
    · unfold World.frozen?
      rw [hg]
      rfl
theorem rd_of_box {w : World} {g n size : Nat} {xs rest : List Value} (h : BoxV w g (xs ++ rest)) (hl : xs.length = n * size) : Rd w (some ⟨g, 0, none⟩) n size xs :=
  ⟨hl, fun _ => ⟨g, 0, rfl, h.lt, fun j u hj => by rw [Nat.zero_add]; exact h.c j u (by rw [List.getElem?_append_left (List.getElem?_eq_some_iff.1 hj).1]; exact hj)⟩⟩
theorem set_app (B t : List Value) (r : Nat) (x : Value) : (B ++ t).set (B.length + r) x = B ++ t.set r x := by
  rw [List.set_append_right _ _ (by omega)]
  simp
/-- nothing but the block g is written -/
theorem but_alloc {w wr : World} {r : Option Nat} (h : w.grownBy wr r) (o : Obj) : w.grownBy (wr.alloc o) r := by
  obtain ⟨h1, h2, h3, h4, h5⟩ := h
  refine ⟨h1, h2, h3, by simp; omega, fun k hk hr => ?_⟩
  rw [← h5 k hk hr]
  exact Below.heap_alloc _ _ _ (by omega)
theorem but_set {w wr : World} {g : Nat} (h : w.grownBy wr (some g)) (k : Nat) (x : Value) : w.grownBy (wr.setCell ⟨g, k, none⟩ x) (some g) := by
  obtain ⟨h1, h2, h3, h4, h5⟩ := h
  refine ⟨h1, h2, h3, by simpa [World.setCell] using h4, fun q hq hr => ?_⟩
  rw [← h5 q hq hr]
  exact heap_setCell_other _ _ _ _ (by intro e; exact hr (by simp [e]))
theorem but_drewN {w wr : World} {r : Option Nat} (h : w.grownBy wr r) (q : Nat) : w.grownBy (wr.drewN q) r := ⟨h.os, h.tape, h.output, h.size, h.block⟩
end Go.Proofs.Ytdhjadgmdmdnjaa
