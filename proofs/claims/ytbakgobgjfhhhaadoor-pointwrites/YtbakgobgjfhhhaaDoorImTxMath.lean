/- A map of inodes as bytes. No Go in sight. -/
import Derived.Test.YtbakgobgjfhhhaaDoorImMath
namespace Go.Proofs.YtbakgobgjfhhhaaDoor

def oneM (P : List Pla) (G : List Int) (i : Nat) : List UInt8 := putB (G.getD i 0).toNat ++ plB (P.getD i noPl)
/-- the first k numbers' bytes -/
def imK (P : List Pla) (G : List Int) (k : Nat) : List UInt8 := (List.range k).flatMap (oneM P G)
def imB (P : List Pla) (G : List Int) : List UInt8 := imK P G 48
theorem imK_zero (P : List Pla) (G : List Int) : imK P G 0 = [] := rfl
theorem imK_succ (P : List Pla) (G : List Int) (k : Nat) : imK P G (k + 1) = imK P G k ++ (putB (G.getD k 0).toNat ++ plB (P.getD k noPl)) := by
  unfold imK
  rw [List.range_succ, List.flatMap_append]
  simp [oneM]
theorem putB_len5 (n : Nat) (h : n ≤ 2147483647) : (putB n).length ≤ 5 := by
  have key : ∀ k n, n < 128 ^ k → 0 < k → (putB n).length ≤ k := by
    intro k
    induction k with
    | zero => intro n _ h; omega
    | succ k ih =>
      intro n hn _
      by_cases h : n < 128
      · rw [putB_lo n h]; simp
      · rw [putB_hi n (by omega), List.length_cons]
        by_cases hk : k = 0
        · subst hk; simp at hn; omega
        · have := ih (n / 128) (by rw [Nat.div_lt_iff_lt_mul (by omega), ← Nat.pow_succ]; exact hn) (by omega)
          omega
  exact key 5 n (by omega) (by omega)
theorem oneM_len {P : List Pla} {G : List Int} (h : OkM P G) {i : Nat} (hi : i < 48) : (putB (G.getD i 0).toNat ++ plB (P.getD i noPl)).length ≤ 7 := by
  have := h.n i hi
  have := putB_len5 (G.getD i 0).toNat (by omega)
  have e : (plB (P.getD i noPl)).length = 2 := rfl
  rw [List.length_append, e]; omega
theorem imK_len {P : List Pla} {G : List Int} (h : OkM P G) : ∀ k, k ≤ 48 → (imK P G k).length ≤ 7 * k := by
  intro k
  induction k with
  | zero => intro _; simp [imK_zero]
  | succ k ih =>
    intro hk
    rw [imK_succ, List.length_append]
    have := ih (by omega)
    have := oneM_len h (i := k) (by omega)
    omega
end Go.Proofs.YtbakgobgjfhhhaaDoor
