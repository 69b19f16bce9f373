/- Blocks of one length. No Go in sight. -/
import Derived.Test.YthdgfanecfdlkaaSortMath
namespace Go.Proofs.Ythdgfanecfdlkaa

def Al (D x : Nat) : Prop := ∃ u, x = D * u
theorem al_zero (D : Nat) : Al D 0 := ⟨0, by simp⟩
theorem al_add {D x : Nat} (h : Al D x) : Al D (x + D) := by obtain ⟨u, rfl⟩ := h; exact ⟨u + 1, by rw [Nat.mul_succ]⟩
theorem al_near {D a x : Nat} (h : Al D a) (h2 : Al D x) (hl : x < a + D) : x < a ∨ x = a := by
  obtain ⟨u, rfl⟩ := h
  obtain ⟨v, rfl⟩ := h2
  rw [← Nat.mul_succ] at hl
  have := Nat.lt_of_mul_lt_mul_left hl
  rcases Nat.lt_or_eq_of_le (Nat.le_of_lt_succ this) with h | h
  · exact .inl (by
      rcases Nat.eq_zero_or_pos D with h0 | h0
      · rw [h0] at hl; simp at hl
      · exact Nat.mul_lt_mul_of_pos_left h h0)
  · exact .inr (by rw [h])
theorem al_gap {D a x : Nat} (h : Al D x) (h2 : Al D a) (hl : x < a) : x + D ≤ a := by
  obtain ⟨u, rfl⟩ := h
  obtain ⟨v, rfl⟩ := h2
  have := Nat.lt_of_mul_lt_mul_left hl
  rw [← Nat.mul_succ]
  exact Nat.mul_le_mul_left _ this
theorem al_half {D a : Nat} (h : Al (2 * D) a) : Al D a := by obtain ⟨u, rfl⟩ := h; exact ⟨2 * u, by rw [Nat.mul_comm 2 D, Nat.mul_assoc]⟩
/-- what lies before a block of its own is done: nothing else is touched -/
theorem SortF.stay {α : Type} {key : α → Int} {f g : Nat → α} {a b c d : Nat} (h : SortF key f c d) (hp : PermF a b f g) (ho : d ≤ a ∨ b ≤ c) : SortF key g c d :=
  h.congr fun x k1 k2 => hp.out x (by omega)

end Go.Proofs.Ythdgfanecfdlkaa
