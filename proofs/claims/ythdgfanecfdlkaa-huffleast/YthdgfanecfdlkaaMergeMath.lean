/- One merge of two sorted parts, by turning round. No Go in sight. -/
import Derived.Test.YthdgfanecfdlkaaSortMath
namespace Go.Proofs.Ythdgfanecfdlkaa

variable {α : Type} {key : α → Int} {f : Nat → α}
/-- one ahead of a sorted part is put in: those below i are less, from i on none is -/
theorem ins_front (a i b : Nat) (h1 : a + 1 ≤ i) (h2 : i ≤ b) (hs : SortF key f (a + 1) b) (hl : ∀ x, a + 1 ≤ x → x < i → key (f x) ≤ key (f a)) (hg : ∀ x, i ≤ x → x < b → key (f a) ≤ key (f x)) : SortF key (rotF f a (a + 1) i) a b := by
  have e1 : ∀ x, a ≤ x → x < i - 1 → rotF f a (a + 1) i x = f (x + 1) := fun x k1 k2 => by unfold rotF; rw [if_pos (by omega)]; congr 1; omega
  have e2 : rotF f a (a + 1) i (i - 1) = f a := by unfold rotF; rw [if_neg (by omega), if_pos (by omega)]; congr 1; omega
  have e3 : ∀ x, i ≤ x → rotF f a (a + 1) i x = f x := fun x k1 => by unfold rotF; rw [if_neg (by omega), if_neg (by omega)]
  intro x y k1 k2 k3
  rcases (by omega : x < i - 1 ∨ x = i - 1 ∨ i ≤ x) with hx | hx | hx
  · rw [e1 x k1 hx]
    rcases (by omega : y < i - 1 ∨ y = i - 1 ∨ i ≤ y) with hy | hy | hy
    · rw [e1 y (by omega) hy]; exact hs _ _ (by omega) (by omega) (by omega)
    · rw [hy, e2]; exact hl _ (by omega) (by omega)
    · rw [e3 y hy]; exact hs _ _ (by omega) (by omega) k3
  · rw [hx, e2]
    rcases (by omega : y = i - 1 ∨ i ≤ y) with hy | hy
    · rw [hy, e2]; exact Int.le_refl _
    · rw [e3 y hy]; exact hg y hy k3
  · rw [e3 x hx, e3 y (by omega)]; exact hs _ _ (by omega) k2 k3
/-- one behind a sorted part is put in -/
theorem ins_back (a i m : Nat) (h1 : a ≤ i) (h2 : i ≤ m) (hs : SortF key f a m) (hl : ∀ x, a ≤ x → x < i → key (f x) ≤ key (f m)) (hg : ∀ x, i ≤ x → x < m → key (f m) ≤ key (f x)) : SortF key (rotF f i m (m + 1)) a (m + 1) := by
  have e1 : ∀ x, x < i → rotF f i m (m + 1) x = f x := fun x k1 => by unfold rotF; rw [if_neg (by omega), if_neg (by omega)]
  have e2 : rotF f i m (m + 1) i = f m := by unfold rotF; rw [if_pos (by omega)]; congr 1; omega
  have e3 : ∀ x, i < x → x < m + 1 → rotF f i m (m + 1) x = f (x - 1) := fun x k1 k2 => by unfold rotF; rw [if_neg (by omega), if_pos (by omega)]; congr 1; omega
  intro x y k1 k2 k3
  rcases (by omega : x < i ∨ x = i ∨ i < x) with hx | hx | hx
  · rw [e1 x hx]
    rcases (by omega : y < i ∨ y = i ∨ i < y) with hy | hy | hy
    · rw [e1 y hy]; exact hs _ _ k1 k2 (by omega)
    · rw [hy, e2]; exact hl x k1 hx
    · rw [e3 y hy k3]; exact hs _ _ k1 (by omega) (by omega)
  · rw [hx, e2]
    rcases (by omega : y = i ∨ i < y) with hy | hy
    · rw [hy, e2]; exact Int.le_refl _
    · rw [e3 y hy k3]; exact hg _ (by omega) (by omega)
  · rw [e3 x hx (by omega), e3 y (by omega) k3]; exact hs _ _ (by omega) (by omega) (by omega)
/-- what the halving finds: where the first part is cut -/
structure Cut (key : α → Int) (f : Nat → α) (a m b mid s : Nat) : Prop where
  lo : a ≤ s
  hi : s ≤ m
  md : s ≤ mid
  end1 : m ≤ mid + m - s
  end2 : mid + m - s ≤ b
  less : s = a ∨ mid + m - s = b ∨ (0 < s ∧ a ≤ s - 1 ∧ key (f (s - 1)) ≤ key (f (mid + m - s)))
  more : s = m ∨ mid + m - s = m ∨ key (f (mid + m - s - 1)) ≤ key (f s)
/-- behind the turn both halves are two sorted parts, and no one of the first is more than one of the second -/
theorem cut_turn {a m b mid s : Nat} (hm1 : a ≤ mid) (hm2 : mid ≤ b) (h1 : SortF key f a m) (h2 : SortF key f m b) (c : Cut key f a m b mid s) :
    SortF key (rotF f s m (mid + m - s)) a s ∧ SortF key (rotF f s m (mid + m - s)) s mid ∧ SortF key (rotF f s m (mid + m - s)) mid (mid + m - s) ∧ SortF key (rotF f s m (mid + m - s)) (mid + m - s) b ∧
    ∀ x y, a ≤ x → x < mid → mid ≤ y → y < b → key (rotF f s m (mid + m - s) x) ≤ key (rotF f s m (mid + m - s) y) := by
  obtain ⟨q1, q2, q3, q4, q5, q6, q7⟩ := c
  have e1 : ∀ x, x < s → rotF f s m (mid + m - s) x = f x := fun x k1 => by unfold rotF; rw [if_neg (by omega), if_neg (by omega)]
  have e2 : ∀ x, s ≤ x → x < mid → rotF f s m (mid + m - s) x = f (x - s + m) := fun x k1 k2 => by unfold rotF; rw [if_pos (by omega)]
  have e3 : ∀ x, mid ≤ x → x < mid + m - s → rotF f s m (mid + m - s) x = f (x - (mid - s)) := fun x k1 k2 => by
    unfold rotF; rw [if_neg (by omega), if_pos (by omega)]; congr 1; omega
  have e4 : ∀ x, mid + m - s ≤ x → rotF f s m (mid + m - s) x = f x := fun x k1 => by unfold rotF; rw [if_neg (by omega), if_neg (by omega)]
  refine ⟨fun x y k1 k2 k3 => ?_, fun x y k1 k2 k3 => ?_, fun x y k1 k2 k3 => ?_, fun x y k1 k2 k3 => ?_, fun x y k1 k2 k3 k4 => ?_⟩
  · rw [e1 x (by omega), e1 y k3]; exact h1 x y k1 k2 (by omega)
  · rw [e2 x k1 (by omega), e2 y (by omega) k3]; exact h2 _ _ (by omega) (by omega) (by omega)
  · rw [e3 x k1 (by omega), e3 y (by omega) k3]; exact h1 _ _ (by omega) (by omega) (by omega)
  · rw [e4 x k1, e4 y (by omega)]; exact h2 _ _ (by omega) k2 k3
  · by_cases hx : x < s
    · rw [e1 x hx]
      by_cases hy : y < mid + m - s
      · rw [e3 y k3 hy]; exact h1 _ _ k1 (by omega) (by omega)
      · rw [e4 y (by omega)]
        rcases q6 with q | q | ⟨q, q', q''⟩
        · omega
        · omega
        · exact Int.le_trans (h1 x (s - 1) k1 (by omega) (by omega)) (Int.le_trans q'' (h2 _ y (by omega) (by omega) k4))
    · rw [e2 x (by omega) k2]
      by_cases hy : y < mid + m - s
      · rw [e3 y k3 hy]
        rcases q7 with q | q | q
        · omega
        · omega
        · exact Int.le_trans (h2 _ (mid + m - s - 1) (by omega) (by omega) (by omega)) (Int.le_trans q (h1 s _ (by omega) (by omega) (by omega)))
      · rw [e4 y (by omega)]; exact h2 _ _ (by omega) (by omega) k4
/-- both halves merged: all is in order -/
theorem halves {a mid b : Nat} {g h k : Nat → α} (hc : ∀ x y, a ≤ x → x < mid → mid ≤ y → y < b → key (g x) ≤ key (g y)) (p1 : PermF a mid g h) (s1 : SortF key h a mid) (p2 : PermF mid b h k) (s2 : SortF key k mid b) : SortF key k a b := by
  refine SortF.join (m := mid) (s1.congr fun x k1 k2 => p2.out x (.inl k2)) s2 fun x y k1 k2 k3 k4 => ?_
  obtain ⟨y', l1, l2, l3⟩ := p2.mem y k3 k4
  rw [p2.out x (.inl k2), l3, p1.out y' (.inr l1)]
  obtain ⟨x', l4, l5, l6⟩ := p1.mem x k1 k2
  rw [l6]
  exact hc x' y' l4 l5 l1 l2
end Go.Proofs.Ythdgfanecfdlkaa
