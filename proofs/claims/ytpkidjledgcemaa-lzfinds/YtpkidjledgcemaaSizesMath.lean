/- Plain facts on the sizes of the marks, from the end on. No Go in sight. -/
import Derived.Test.YtpkidjledgcemaaFewMath
namespace Go.Proofs.Ytpkidjledgcemaa

/-- a size that a mark at i may have, where the longest copy there has l bytes -/
def okZ (l : Nat) (n : Nat) : Prop := n = 1 ∨ (3 ≤ n ∧ n ≤ l)
/-- sizes and numbers of marks, right from p on -/
structure SzSt (L : Nat → Nat) (N p : Nat) (Z M : Nat → Nat) : Prop where
  e : M N = 0
  z : ∀ i, p ≤ i → i < N → okZ (L i) (Z i) ∧ i + Z i ≤ N ∧ M i = M (i + Z i) + 1
  r : ∀ i n, p ≤ i → i < N → okZ (L i) n → M (i + Z i) ≤ M (i + n)
  b : ∀ i, M i ≤ N - i ∨ i < p
  le : ∀ i, M i ≤ N
/-- at a, with z the best of those below n -/
structure SzIn (L : Nat → Nat) (N a n : Nat) (z : Nat) (M : Nat → Nat) : Prop where
  n3 : 3 ≤ n
  ok : okZ (L a) z
  lt : z < n ∨ z = 1
  r : ∀ m, okZ (L a) m → m < n → M (a + z) ≤ M (a + m)
theorem szin_start (L : Nat → Nat) (N a : Nat) (M : Nat → Nat) : SzIn L N a 3 1 M :=
  ⟨Nat.le_refl _, .inl rfl, .inr rfl, fun m hm hl => by
    rcases hm with rfl | h
    · exact Nat.le_refl _
    · omega⟩
theorem SzIn.take {L : Nat → Nat} {N a n z : Nat} {M : Nat → Nat} (h : SzIn L N a n z M) (h3 : 3 ≤ n) (hl : n ≤ L a) (hm : M (a + n) ≤ M (a + z)) : SzIn L N a (n + 1) n M :=
  ⟨by omega, .inr ⟨h3, hl⟩, .inl (by omega), fun m hm2 hlt => by
    by_cases e : m = n
    · subst e; exact Nat.le_refl _
    · exact Nat.le_trans hm (h.r m hm2 (by omega))⟩
theorem SzIn.keep {L : Nat → Nat} {N a n z : Nat} {M : Nat → Nat} (h : SzIn L N a n z M) (hm : ¬ M (a + n) ≤ M (a + z)) : SzIn L N a (n + 1) z M :=
  ⟨by have := h.n3; omega, h.ok, by rcases h.lt with h | h; exact .inl (by omega); exact .inr h, fun m hm2 hlt => by
    by_cases e : m = n
    · subst e; omega
    · exact h.r m hm2 (by omega)⟩
theorem okZ_pos {l n : Nat} (h : okZ l n) : 0 < n := by rcases h with h | h <;> omega
theorem szst_step {L : Nat → Nat} {N a z : Nat} {Z M : Nat → Nat} (h : SzSt L N (a + 1) Z M) (ha : a < N) (hL : ∀ i, i < N → i + L i ≤ N) (hi : SzIn L N a (L a + 1) z M ∨ ∃ n, L a < n ∧ SzIn L N a n z M) :
    SzSt L N a (fun i => if i = a then z else Z i) (fun i => if i = a then M (a + z) + 1 else M i) ∧ a + z ≤ N := by
  obtain ⟨n, hn, hi⟩ : ∃ n, L a < n ∧ SzIn L N a n z M := by
    rcases hi with h | h
    · exact ⟨_, Nat.lt_succ_self _, h⟩
    · exact h
  have hz := hi.ok
  have hzp := okZ_pos hz
  have haz : a + z ≤ N := by
    rcases hz with hz | hz
    · omega
    · have := hL a ha; omega
  refine ⟨⟨?_, fun i hp hiN => ?_, fun i m hp hiN hm => ?_, fun i => ?_, fun i => ?_⟩, haz⟩
  · rw [if_neg (by omega)]; exact h.e
  · by_cases e : i = a
    · subst e
      rw [if_pos rfl, if_pos rfl, if_neg (by omega)]
      exact ⟨hz, haz, rfl⟩
    · rw [if_neg e, if_neg e]
      obtain ⟨h1, h2, h3⟩ := h.z i (by omega) hiN
      have := okZ_pos h1
      rw [if_neg (by omega)]
      exact ⟨h1, h2, h3⟩
  · by_cases e : i = a
    · subst e
      have := okZ_pos hm
      rw [if_pos rfl, if_neg (by omega), if_neg (by omega)]
      refine hi.r m hm ?_
      rcases hm with hm | hm
      · subst hm
        have := hi.n3
        omega
      · omega
    · rw [if_neg e]
      have h1 := okZ_pos (h.z i (by omega) hiN).1
      have h2 := okZ_pos hm
      rw [if_neg (by omega), if_neg (by omega)]
      exact h.r i m (by omega) hiN hm
  · by_cases e : i = a
    · subst e
      rw [if_pos rfl]
      left
      rcases h.b (i + z) with h1 | h1
      · omega
      · omega
    · rw [if_neg e]
      rcases h.b i with h1 | h1
      · exact .inl h1
      · exact .inr (by omega)
  · by_cases e : i = a
    · subst e
      rw [if_pos rfl]
      rcases h.b (i + z) with h1 | h1 <;> omega
    · rw [if_neg e]; exact h.le i
theorem szst_start (L : Nat → Nat) (N : Nat) (Z : Nat → Nat) : SzSt L N N Z (fun _ => 0) :=
  ⟨rfl, fun i h1 h2 => by omega, fun i n h1 h2 => by omega, fun i => .inl (Nat.zero_le _), fun _ => Nat.zero_le _⟩
end Go.Proofs.Ytpkidjledgcemaa
