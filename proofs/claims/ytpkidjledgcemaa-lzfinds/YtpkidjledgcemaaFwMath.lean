/- Plain facts on the fewest marks, from the front on. No Go in sight. -/
import Derived.Test.YtpkidjledgcemaaLongMath
namespace Go.Proofs.Ytpkidjledgcemaa

structure FwSt (s : List UInt8) (B : Nat → Nat) (i n : Nat) : Prop where
  z : B 0 = 0
  b : ∀ j, B j ≤ 1073741824
  w : ∀ j, j ≤ s.length → B j < 1073741824 → Way s (B j) 0 j
  r : ∀ i' m, i' < i → edgeL s i' m → i' + m ≤ s.length → B (i' + m) ≤ B i' + 1
  t : ∀ m, m < n → edgeL s i m → i + m ≤ s.length → B (i + m) ≤ B i + 1
theorem edge_pos {s : List UInt8} {i n : Nat} (h : edgeL s i n) : 0 < n := by rcases h with h | h <;> omega
theorem fw_start (s : List UInt8) : FwSt s (fun i => if i = 0 then 0 else 1073741824) 0 0 := by
  refine ⟨rfl, fun j => by split <;> omega, fun j hj hb => ?_, fun i' m h => by omega, fun m h => by omega⟩
  by_cases e : j = 0
  · subst e; exact way_nil _ _
  · simp only [if_neg e] at hb; omega
theorem FwSt.relax {s : List UInt8} {B : Nat → Nat} {i n m : Nat} (h : FwSt s B i n) (he : edgeL s i m) (hl : i + m ≤ s.length) (hn : ∀ m', m' < m → edgeL s i m' → i + m' ≤ s.length → m' < n) :
    FwSt s (fun j => if j = i + m then min (B (i + m)) (B i + 1) else B j) i (m + 1) := by
  have hm := edge_pos he
  have le : ∀ j, (if j = i + m then min (B (i + m)) (B i + 1) else B j) ≤ B j := fun j => by
    split
    · rename_i e; subst e; omega
    · exact Nat.le_refl _
  refine ⟨?_, fun j => Nat.le_trans (le j) (h.b j), fun j hj hb => ?_, fun i' m' hi' he' hl' => ?_, fun m' hm' he' hl' => ?_⟩
  · rw [if_neg (by omega)]; exact h.z
  · by_cases e : j = i + m
    · subst e
      simp only [if_true] at hb ⊢
      by_cases hlt : B (i + m) ≤ B i + 1
      · rw [Nat.min_eq_left hlt] at hb ⊢; exact h.w _ hj hb
      · rw [Nat.min_eq_right (by omega)] at hb ⊢
        exact way_snoc he hl _ _ (h.w i (by omega) (by omega))
    · simp only [if_neg e] at hb ⊢
      exact h.w j hj hb
  · have h1 := h.r i' m' hi' he' hl'
    have h2 := le (i' + m')
    rw [if_neg (show ¬ i' = i + m by omega)]
    omega
  · rw [if_neg (show ¬ i = i + m by omega)]
    by_cases e : m' = m
    · subst e; simp only [if_true]; omega
    · have h2 := le (i + m')
      have h1 := h.t m' (hn m' (by omega) he' hl') he' hl'
      omega
theorem FwSt.three {s : List UInt8} {B : Nat → Nat} {i : Nat} (h : FwSt s B i 2) : FwSt s B i 3 :=
  ⟨h.z, h.b, h.w, h.r, fun m hm he hl => by
    by_cases e : m = 2
    · subst e
      rcases he with he | he <;> omega
    · exact h.t m (by omega) he hl⟩
/-- all of i is done -/
theorem FwSt.next {s : List UInt8} {B : Nat → Nat} {i n : Nat} (h : FwSt s B i n) (hd : ∀ m, edgeL s i m → i + m ≤ s.length → m < n) : FwSt s B (i + 1) 0 :=
  ⟨h.z, h.b, h.w, fun i' m hi' he hl => by
    by_cases e : i' = i
    · subst e; exact h.t m (hd m he hl) he hl
    · exact h.r i' m (by omega) he hl, fun m hm => by omega⟩
theorem fw_end {s : List UInt8} {B : Nat → Nat} (h : FwSt s B s.length 0) (hs : s.length ≤ 512) : FewIs s (B s.length) :=
  few_front B h.z (fun i n he hl => h.r i n (by have := edge_pos he; omega) he hl) h.w hs
theorem few_done {s : List UInt8} {i n : Nat} (h3 : 3 ≤ n) (h : 66 < n ∨ s.length < i + n ∨ ¬ ∃ k, k < i ∧ sameAt s k i n) : ∀ m, edgeL s i m → i + m ≤ s.length → m < n := by
  intro m he hl
  refine Classical.byContradiction fun hn => ?_
  rcases he with he | ⟨a, b, k, hk, hs⟩
  · omega
  · rcases h with h | h | h
    · omega
    · omega
    · exact h ⟨k, hk, sameAt_le hs (by omega)⟩
end Go.Proofs.Ytpkidjledgcemaa
