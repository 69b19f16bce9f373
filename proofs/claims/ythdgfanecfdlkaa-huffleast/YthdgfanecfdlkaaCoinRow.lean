/- Coins in a row of the call's own, and coins that are read. -/
import Derived.Test.YthdgfanecfdlkaaSwapCoins
import Derived.Test.YthdgfanecfdlkaaHuffSpend
import Derived.Test.YthdgfanecfdlkaaGrow
namespace Go.Proofs.Ythdgfanecfdlkaa
open Go.RowKit

theorem infoCo : (Try.prog.info? 44).map (fun i => (i.zero, i.size, i.bytes)) = some (some (.agg #[.int .i64 0, .bool false]), 2, 16) := by kernel_rfl
def co2 (c : Nat × Bool) : List Value := [.int .i64 (c.1 : Int), .bool c.2]
def coC (l : List (Nat × Bool)) : List Value := l.flatMap co2
theorem coC_snoc (l : List (Nat × Bool)) (m : Nat × Bool) : coC (l ++ [m]) = coC l ++ co2 m := by simp [coC]
theorem coC_length (l : List (Nat × Bool)) : (coC l).length = l.length * 2 := by
  induction l with
  | nil => rfl
  | cons m t ih => rw [coC, List.flatMap_cons, List.length_append, ← coC, ih]; simp [co2]; omega
theorem coC_at (l : List (Nat × Bool)) : ∀ i (h : i < l.length), (coC l)[i * 2]? = some (.int .i64 (l[i].1 : Int)) ∧ (coC l)[i * 2 + 1]? = some (.bool l[i].2) := by
  induction l with
  | nil => intro i h; simp at h
  | cons m t ih =>
    intro i h
    have e : coC (m :: t) = .int .i64 (m.1 : Int) :: .bool m.2 :: coC t := by simp [coC, co2]
    rw [e]
    cases i with
    | zero => exact ⟨rfl, rfl⟩
    | succ i =>
      have := ih i (by simpa using h)
      rw [show (i + 1) * 2 = i * 2 + 1 + 1 by omega]
      simp only [List.getElem?_cons_succ, List.getElem_cons_succ]
      exact this
theorem co2_one (m : Nat × Bool) : ∀ u ∈ co2 m, u.oneCell' = true := by
  intro u hu
  simp only [co2, List.mem_cons, List.not_mem_nil, or_false] at hu
  rcases hu with rfl | rfl <;> rfl
theorem cells_co2 (w : World) (m : Nat × Bool) (t : TypeId) : ∀ j u, (co2 m)[j]? = some u → (w.alloc (.cells #[.int .i64 (m.1 : Int), .bool m.2] t)).cell? ((⟨w.heap.size, 0, none⟩ : Addr).add j) = some u := by
  intro j u hj
  rw [show (⟨w.heap.size, 0, none⟩ : Addr).add j = ⟨w.heap.size, j, none⟩ by unfold Addr.add; split <;> simp_all, World.cell?_alloc_new]
  match j with
  | 0 => exact hj
  | 1 => exact hj
  | j + 2 => simp [co2] at hj
/-- a list of coins as a row -/
def rowC (l : List (Nat × Bool)) (i : Nat) : Int × Bool := (((l.getD i (0, false)).1 : Int), (l.getD i (0, false)).2)
theorem rowC_at (l : List (Nat × Bool)) (i : Nat) (h : i < l.length) : rowC l i = ((l[i].1 : Int), l[i].2) := by
  unfold rowC; rw [List.getD_eq_getElem?_getD, List.getElem?_eq_getElem h]; rfl
/-- coins that are read -/
structure Cos (w : World) (v : Value) (B : List (Nat × Bool)) : Prop where
  is : ∃ ao cap, v = .slice ao B.length cap ∧ B.length ≤ cap ∧ cap ≤ maxLen ∧ (0 < B.length → ∃ g, ao = some ⟨g, 0, none⟩ ∧ g < w.heap.size ∧ ∀ i (h : i < B.length), w.cell? ⟨g, i * 2, none⟩ = some (.int .i64 (B[i].1 : Int)) ∧ w.cell? ⟨g, i * 2 + 1, none⟩ = some (.bool B[i].2))
theorem cos_nil (w : World) : Cos w (.slice none 0 0) [] := ⟨none, 0, rfl, Nat.le_refl _, Nat.zero_le _, fun h => by simp at h⟩
theorem cos_below {w w' : World} {v : Value} {B : List (Nat × Bool)} (h : Cos w v B) (hb : Below w.heap.size w w') : Cos w' v B := by
  obtain ⟨ao, cap, hv, hc1, hc2, hc⟩ := h.is
  refine ⟨ao, cap, hv, hc1, hc2, fun hp => ?_⟩
  obtain ⟨g, h1, h2, h3⟩ := hc hp
  exact ⟨g, h1, Nat.lt_of_lt_of_le h2 hb.size, fun i hi => ⟨(hb.cell (p := ⟨g, i * 2, none⟩) h2).trans (h3 i hi).1, (hb.cell (p := ⟨g, i * 2 + 1, none⟩) h2).trans (h3 i hi).2⟩⟩
/-- a row of one's own with something in it, by its cells -/
theorem rowco_of_own {w : World} {N : Nat} {v : Value} {l : List (Nat × Bool)} (h : w.ownsRow N 44 2 v l.length (coC l)) (hl : 0 < l.length) : ∃ g cap, v = .slice (some ⟨g, 0, none⟩) l.length cap ∧ N ≤ g ∧ l.length ≤ cap ∧ cap ≤ maxLen ∧ RowCo w g l.length (rowC l) := by
  rcases h.2 with ⟨_, h0⟩ | ⟨g, cap, cur, hv, hb, hg, k1, k2, _, _⟩
  · omega
  · subst hv
    refine ⟨g, cap, rfl, hb, k1, k2, ⟨fun i hi => ?_, fun i hi => ?_, fun i hi => ?_, fun i hi => ?_, (Array.getElem?_eq_some_iff.1 hg).1⟩⟩
    · rw [h.cellAt (i * 2) (by omega), (coC_at l i hi).1, rowC_at l i hi]
    · rw [h.cellAt (i * 2 + 1) (by omega), (coC_at l i hi).2, rowC_at l i hi]
    · unfold World.frozen?
      rw [hg]; rfl
    · unfold World.frozen?
      rw [hg]; rfl
/-- pairs, one more -/
theorem prs_snoc : ∀ (k : Nat) (l : List Nat) (h : 2 * k + 1 < l.length), prs (l.take (2 * (k + 1))) = prs (l.take (2 * k)) ++ [l[2 * k] + l[2 * k + 1]]
  | 0, a :: b :: l, _ => by simp [prs]
  | k + 1, a :: b :: l, h => by
    have ih := prs_snoc k l (by simp at h; omega)
    rw [show 2 * (k + 1 + 1) = 2 * (k + 1) + 1 + 1 by omega, List.take_succ_cons, List.take_succ_cons, prs, ih]
    have e : 2 * (k + 1) = 2 * k + 1 + 1 := by omega
    simp only [e, List.take_succ_cons, prs, List.cons_append, List.getElem_cons_succ]
  | 0, [], h => by simp at h
  | 0, [_], h => by simp at h
  | _ + 1, [], h => by simp at h
  | _ + 1, [_], h => by simp at h
theorem prs_all : ∀ (k : Nat) (l : List Nat), l.length ≤ 2 * k + 1 → prs (l.take (2 * k)) = prs l
  | 0, [], _ => rfl
  | 0, [_], _ => by simp [prs]
  | 0, _ :: _ :: _, h => by simp at h
  | _ + 1, [], _ => by simp
  | _ + 1, [_], _ => by simp [prs, Nat.mul_add]
  | k + 1, a :: b :: l, h => by
    have ih := prs_all k l (by simp at h; omega)
    have e : 2 * (k + 1) = 2 * k + 1 + 1 := by omega
    rw [e, List.take_succ_cons, List.take_succ_cons, prs, ih, prs]
theorem prs_high (t : Nat) : ∀ l : List Nat, (∀ y ∈ l, y ≤ t) → ∀ x ∈ prs l, x ≤ 2 * t
  | [], _, x, hx => by simp [prs] at hx
  | [_], _, x, hx => by simp [prs] at hx
  | c :: d :: l, h, x, hx => by
    simp only [prs, List.mem_cons] at hx
    rcases hx with rfl | hx
    · have := h c (by simp); have := h d (by simp); omega
    · exact prs_high t l (fun y hy => h y (by simp [hy])) x hx
end Go.Proofs.Ythdgfanecfdlkaa
