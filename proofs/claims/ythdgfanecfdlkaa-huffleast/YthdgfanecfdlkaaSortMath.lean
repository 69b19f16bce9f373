/- Merging by turning blocks round: what slices' stable sort does, in plain words. No Go in sight. -/
import Derived.Test.YthdgfanecfdlkaaBase
namespace Go.Proofs.Ythdgfanecfdlkaa

/-- the same, in another order, within [a, b) -/
def PermF {α : Type} (a b : Nat) (f g : Nat → α) : Prop := ∃ s t : Nat → Nat, (∀ x, t (s x) = x) ∧ (∀ x, s (t x) = x) ∧ (∀ x, x < a ∨ b ≤ x → s x = x) ∧ ∀ x, g x = f (s x)
theorem PermF.refl {α : Type} (a b : Nat) (f : Nat → α) : PermF a b f f := ⟨id, id, fun _ => rfl, fun _ => rfl, fun _ _ => rfl, fun _ => rfl⟩
theorem PermF.mono {α : Type} {a b c d : Nat} {f g : Nat → α} (h : PermF a b f g) (h1 : c ≤ a) (h2 : b ≤ d) : PermF c d f g := by
  obtain ⟨s, t, k1, k2, k3, k4⟩ := h
  exact ⟨s, t, k1, k2, fun x hx => k3 x (by omega), k4⟩
theorem PermF.trans {α : Type} {a b : Nat} {f g h : Nat → α} (h1 : PermF a b f g) (h2 : PermF a b g h) : PermF a b f h := by
  obtain ⟨s, t, k1, k2, k3, k4⟩ := h1
  obtain ⟨s', t', l1, l2, l3, l4⟩ := h2
  refine ⟨fun x => s (s' x), fun x => t' (t x), fun x => by simp only; rw [k1, l1], fun x => by simp only; rw [l2, k2], fun x hx => by simp only; rw [l3 x hx, k3 x hx], fun x => by rw [l4, k4]⟩
theorem PermF.out {α : Type} {a b : Nat} {f g : Nat → α} (h : PermF a b f g) (x : Nat) (hx : x < a ∨ b ≤ x) : g x = f x := by
  obtain ⟨s, t, k1, k2, k3, k4⟩ := h
  rw [k4, k3 x hx]
theorem PermF.mem {α : Type} {a b : Nat} {f g : Nat → α} (h : PermF a b f g) (x : Nat) (h1 : a ≤ x) (h2 : x < b) : ∃ y, a ≤ y ∧ y < b ∧ g x = f y := by
  obtain ⟨s, t, k1, k2, k3, k4⟩ := h
  refine ⟨s x, ?_, ?_, k4 x⟩
  · refine Nat.le_of_not_lt fun hl => ?_
    have := k3 (s x) (.inl hl)
    have h3 := congrArg t this
    rw [k1, k1] at h3
    omega
  · refine Nat.lt_of_not_le fun hl => ?_
    have := k3 (s x) (.inr hl)
    have h3 := congrArg t this
    rw [k1, k1] at h3
    omega
/-- in order, within [a, b) -/
def SortF {α : Type} (key : α → Int) (f : Nat → α) (a b : Nat) : Prop := ∀ i j, a ≤ i → i ≤ j → j < b → key (f i) ≤ key (f j)
theorem SortF.sub {α : Type} {key : α → Int} {f : Nat → α} {a b c d : Nat} (h : SortF key f a b) (h1 : a ≤ c) (h2 : d ≤ b) : SortF key f c d := fun i j k1 k2 k3 => h i j (by omega) k2 (by omega)
theorem SortF.one {α : Type} (key : α → Int) (f : Nat → α) (a b : Nat) (h : b ≤ a + 1) : SortF key f a b := fun i j h1 h2 h3 => by rw [show i = j by omega]; exact Int.le_refl _
theorem SortF.congr {α : Type} {key : α → Int} {f g : Nat → α} {a b : Nat} (h : SortF key f a b) (he : ∀ x, a ≤ x → x < b → g x = f x) : SortF key g a b := fun i j h1 h2 h3 => by
  rw [he i h1 (by omega), he j (by omega) h3]; exact h i j h1 h2 h3
theorem SortF.join {α : Type} {key : α → Int} {f : Nat → α} {a m b : Nat} (h1 : SortF key f a m) (h2 : SortF key f m b) (h3 : ∀ i j, a ≤ i → i < m → m ≤ j → j < b → key (f i) ≤ key (f j)) : SortF key f a b := fun i j k1 k2 k3 => by
  by_cases hj : j < m
  · exact h1 i j k1 k2 hj
  · by_cases hi : i < m
    · exact h3 i j k1 hi (by omega) k3
    · exact h2 i j (by omega) k2 k3
/-- two places exchanged -/
def swF {α : Type} (f : Nat → α) (i j : Nat) : Nat → α := fun x => if x = i then f j else if x = j then f i else f x
theorem swF_perm {α : Type} (f : Nat → α) (a b i j : Nat) (hi : a ≤ i ∧ i < b) (hj : a ≤ j ∧ j < b) : PermF a b f (swF f i j) := by
  have inv : ∀ x, (fun x => if x = i then j else if x = j then i else x) ((fun x => if x = i then j else if x = j then i else x) x) = x := by
    intro x
    simp only
    split
    · split
      · omega
      · rename_i h1 h2; simp [h1]
    · split
      · simp; omega
      · rfl
  refine ⟨fun x => if x = i then j else if x = j then i else x, fun x => if x = i then j else if x = j then i else x, inv, inv, fun x hx => by simp only; rw [if_neg (by omega), if_neg (by omega)], fun x => ?_⟩
  unfold swF
  simp only
  split
  · rfl
  · split <;> rfl
/-- two ranges exchanged -/
def swR {α : Type} (f : Nat → α) (a b m : Nat) : Nat → α := fun x => if a ≤ x ∧ x < a + m then f (b + (x - a)) else if b ≤ x ∧ x < b + m then f (a + (x - b)) else f x
theorem swR_zero {α : Type} (f : Nat → α) (a b : Nat) : swR f a b 0 = f := by
  funext x; unfold swR; rw [if_neg (by omega), if_neg (by omega)]
theorem swR_step {α : Type} (f : Nat → α) (a b m : Nat) (h : a + m < b) : swF (swR f a b m) (a + m) (b + m) = swR f a b (m + 1) := by
  funext x
  unfold swF swR
  by_cases h1 : x = a + m
  · subst h1
    rw [if_pos rfl, if_neg (by omega), if_neg (by omega), if_pos (by omega)]
    congr 1; omega
  · rw [if_neg h1]
    by_cases h2 : x = b + m
    · subst h2
      rw [if_pos rfl, if_neg (by omega), if_neg (by omega), if_neg (by omega), if_pos (by omega)]
      congr 1; omega
    · rw [if_neg h2]
      by_cases h3 : a ≤ x ∧ x < a + m
      · rw [if_pos h3, if_pos (by omega)]
      · rw [if_neg h3]
        by_cases h4 : b ≤ x ∧ x < b + m
        · rw [if_pos h4, if_neg (by omega), if_pos (by omega)]
        · rw [if_neg h4, if_neg (by omega), if_neg (by omega)]
theorem swR_at {α : Type} (f : Nat → α) (a b m : Nat) (h : a + m < b) : swR f a b m (a + m) = f (a + m) ∧ swR f a b m (b + m) = f (b + m) := by
  unfold swR
  exact ⟨by rw [if_neg (by omega), if_neg (by omega)], by rw [if_neg (by omega), if_neg (by omega)]⟩
/-- [lo, m) and [m, hi) change their places -/
def rotF {α : Type} (f : Nat → α) (lo m hi : Nat) : Nat → α := fun x => if lo ≤ x ∧ x < lo + (hi - m) then f (x - lo + m) else if lo + (hi - m) ≤ x ∧ x < hi then f (x - (hi - m)) else f x
theorem rotF_none {α : Type} (f : Nat → α) (lo m hi : Nat) (h : lo = m ∨ m = hi) (h1 : lo ≤ m) (h2 : m ≤ hi) : rotF f lo m hi = f := by
  funext x
  unfold rotF
  rcases h with rfl | rfl
  · by_cases k : lo ≤ x ∧ x < lo + (hi - lo)
    · rw [if_pos k]; congr 1; omega
    · rw [if_neg k, if_neg (by omega)]
  · rw [if_neg (by omega)]
    by_cases k : lo + (m - m) ≤ x ∧ x < m
    · rw [if_pos k]; congr 1; omega
    · rw [if_neg k]
theorem rotF_perm {α : Type} (f : Nat → α) (lo m hi : Nat) (h1 : lo ≤ m) (h2 : m ≤ hi) : PermF lo hi f (rotF f lo m hi) := by
  refine ⟨fun x => if lo ≤ x ∧ x < lo + (hi - m) then x - lo + m else if lo + (hi - m) ≤ x ∧ x < hi then x - (hi - m) else x,
    fun x => if lo ≤ x ∧ x < m then x + (hi - m) else if m ≤ x ∧ x < hi then x - m + lo else x, fun x => ?_, fun x => ?_, fun x hx => ?_, fun x => ?_⟩
  · simp only
    by_cases k1 : lo ≤ x ∧ x < lo + (hi - m)
    · rw [if_pos k1, if_neg (by omega), if_pos (by omega)]; omega
    · rw [if_neg k1]
      by_cases k2 : lo + (hi - m) ≤ x ∧ x < hi
      · rw [if_pos k2, if_pos (by omega)]; omega
      · rw [if_neg k2, if_neg (by omega), if_neg (by omega)]
  · simp only
    by_cases k1 : lo ≤ x ∧ x < m
    · rw [if_pos k1, if_neg (by omega), if_pos (by omega)]; omega
    · rw [if_neg k1]
      by_cases k2 : m ≤ x ∧ x < hi
      · rw [if_pos k2, if_pos (by omega)]; omega
      · rw [if_neg k2, if_neg (by omega), if_neg (by omega)]
  · simp only
    rw [if_neg (by omega), if_neg (by omega)]
  · unfold rotF
    simp only
    split
    · rfl
    · split <;> rfl
/-- a longer first part: its front goes to where it belongs -/
theorem rotF_long {α : Type} (f : Nat → α) (m i j : Nat) (him : i ≤ m) (hij : j < i) : rotF (swR f (m - i) m j) (m - (i - j)) m (m + j) = rotF f (m - i) m (m + j) := by
  funext x
  unfold rotF swR
  repeat' split
  all_goals first | (exfalso; omega) | (congr 1; omega) | rfl
/-- a longer second part -/
theorem rotF_short {α : Type} (f : Nat → α) (m i j : Nat) (him : i ≤ m) (hij : i < j) : rotF (swR f (m - i) (m + j - i) i) (m - i) m (m + (j - i)) = rotF f (m - i) m (m + j) := by
  funext x
  unfold rotF swR
  repeat' split
  all_goals first | (exfalso; omega) | (congr 1; omega) | rfl
theorem rotF_even {α : Type} (f : Nat → α) (m i : Nat) (him : i ≤ m) : swR f (m - i) m i = rotF f (m - i) m (m + i) := by
  funext x
  unfold rotF swR
  repeat' split
  all_goals first | (exfalso; omega) | (congr 1; omega) | rfl
end Go.Proofs.Ythdgfanecfdlkaa
