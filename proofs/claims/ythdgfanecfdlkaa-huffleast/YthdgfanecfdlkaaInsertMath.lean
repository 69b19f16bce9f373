/- Sorting by putting in, and by halves. No Go in sight. -/
import Derived.Test.YthdgfanecfdlkaaMergeMath
namespace Go.Proofs.Ythdgfanecfdlkaa

variable {α : Type} {key : α → Int} {f : Nat → α}
/-- all is in order but the one at j, which is no more than those behind it -/
structure InsAt (key : α → Int) (f : Nat → α) (a j i : Nat) : Prop where
  lo : a ≤ j
  hi : j ≤ i
  rest : ∀ x y, a ≤ x → x ≤ y → y ≤ i → x ≠ j → y ≠ j → key (f x) ≤ key (f y)
  less : ∀ y, j < y → y ≤ i → key (f j) ≤ key (f y)
theorem InsAt.start {a i : Nat} (h : SortF key f a i) (hai : a ≤ i) : InsAt key f a i i :=
  ⟨hai, Nat.le_refl _, fun x y h1 h2 h3 h4 h5 => h x y h1 h2 (by omega), fun y h1 h2 => by omega⟩
theorem InsAt.step {a j i : Nat} (h : InsAt key f a j i) (hj : a < j) (hl : key (f j) < key (f (j - 1))) : InsAt key (swF f j (j - 1)) a (j - 1) i := by
  have e1 : swF f j (j - 1) j = f (j - 1) := by unfold swF; rw [if_pos rfl]
  have e2 : swF f j (j - 1) (j - 1) = f j := by unfold swF; rw [if_neg (by omega), if_pos rfl]
  have e3 : ∀ x, x ≠ j → x ≠ j - 1 → swF f j (j - 1) x = f x := fun x h1 h2 => by unfold swF; rw [if_neg h1, if_neg h2]
  have := h.hi
  refine ⟨by omega, by omega, fun x y h1 h2 h3 h4 h5 => ?_, fun y h1 h2 => ?_⟩
  · by_cases hx : x = j
    · by_cases hy : y = j
      · rw [hx, hy]; exact Int.le_refl _
      · rw [hx, e1, e3 y hy h5]; exact h.rest _ _ (by omega) (by omega) h3 (by omega) hy
    · by_cases hy : y = j
      · rw [hy, e1, e3 x hx h4]; exact h.rest _ _ h1 (by omega) (by omega) hx (by omega)
      · rw [e3 x hx h4, e3 y hy h5]; exact h.rest _ _ h1 h2 h3 hx hy
  · rw [e2]
    by_cases hy : y = j
    · rw [hy, e1]; omega
    · rw [e3 y hy (by omega)]; exact h.less y (by omega) h2
theorem InsAt.done {a j i : Nat} (h : InsAt key f a j i) (hs : j = a ∨ key (f (j - 1)) ≤ key (f j)) : SortF key f a (i + 1) := by
  have h1 := h.lo
  have h2 := h.hi
  intro x y k1 k2 k3
  by_cases hx : x = j
  · by_cases hy : y = j
    · rw [hx, hy]; exact Int.le_refl _
    · rw [hx]; exact h.less y (by omega) (by omega)
  · by_cases hy : y = j
    · rcases hs with hs | hs
      · omega
      · rw [hy]
        by_cases hx1 : x = j - 1
        · rw [hx1]; exact hs
        · exact Int.le_trans (h.rest x (j - 1) k1 (by omega) (by omega) hx (by omega)) hs
    · exact h.rest x y k1 k2 (by omega) hx hy
theorem SortF.ext {a b : Nat} {g : Nat → α} (h : SortF key f a b) (he : g = f) : SortF key g a b := by rw [he]; exact h
theorem swF_map {β : Type} (h : α → β) (f : Nat → α) (i j : Nat) : swF (fun x => h (f x)) i j = fun x => h (swF f i j x) := by
  funext x; unfold swF; split <;> (try split) <;> rfl
theorem swR_map {β : Type} (h : α → β) (f : Nat → α) (a b m : Nat) : swR (fun x => h (f x)) a b m = fun x => h (swR f a b m x) := by
  funext x; unfold swR; split <;> (try split) <;> rfl
theorem rotF_map {β : Type} (h : α → β) (f : Nat → α) (a m b : Nat) : rotF (fun x => h (f x)) a m b = fun x => h (rotF f a m b x) := by
  funext x; unfold rotF; split <;> (try split) <;> rfl
end Go.Proofs.Ythdgfanecfdlkaa
