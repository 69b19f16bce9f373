/- Plain facts: a copy that begins less far back than it is long. No Go in sight. -/
import Derived.Test.YtpkidjledgcemacFewMath
namespace Go.Proofs.Ytpkidjledgcemac

def byM (b : UInt8) : Mk := ⟨0, 0, b.toNat⟩
theorem ex_bytes (s : List UInt8) : ∀ out, out.length + s.length ≤ 512 → ∀ t, exE (s.map byM ++ t) out = exE t (out ++ s) ∧ exT (s.map byM ++ t) out = exT t (out ++ s) := by
  induction s with
  | nil => intro out _ t; simp
  | cons b s ih =>
    intro out h t
    simp only [List.length_cons] at h
    have hok : okM (byM b) = true := okM_mk (.inl ⟨rfl, rfl⟩)
    have hsz : szM (byM b) = 1 := rfl
    have had : addM out (byM b) = out ++ [b] := by
      unfold addM byM
      rw [if_pos rfl]
      simp
    have := ih (out ++ [b]) (by simp; omega) t
    rw [List.map_cons, List.cons_append, exE_step _ _ _ hok (by show ¬ _ < (0 : Int); omega) (by rw [hsz]; omega), exT, had, this.1, this.2]
    simp
theorem ex_period (s : List UInt8) (n : Nat) (h1 : 1 ≤ s.length) (h2 : s.length ≤ 60) (h3 : 3 ≤ n) (h4 : n ≤ 66) :
    exE (s.map byM ++ [⟨(n : Int), (s.length : Int), 0⟩]) [] = 0 ∧ (exA (s.map byM ++ [⟨(n : Int), (s.length : Int), 0⟩])).length = s.length + n ∧
      ∀ i, i < s.length + n → (exA (s.map byM ++ [⟨(n : Int), (s.length : Int), 0⟩])).getD i 0 = s.getD (i % s.length) 0 := by
  obtain ⟨e1, e2⟩ := ex_bytes s [] (by simp; omega) [⟨(n : Int), (s.length : Int), 0⟩]
  rw [List.nil_append] at e1 e2
  have hok : okM ⟨(n : Int), (s.length : Int), 0⟩ = true := okM_mk (.inr ⟨by simp only; omega, by simp only; omega, by simp only; omega, rfl⟩)
  have hsz : szM ⟨(n : Int), (s.length : Int), 0⟩ = n := by unfold szM; rw [if_neg (by simp only; omega)]; simp
  have had : addM s ⟨(n : Int), (s.length : Int), 0⟩ = cpy s.length n s := by unfold addM; rw [if_neg (by simp only; omega)]; simp
  have hE : exE (s.map byM ++ [⟨(n : Int), (s.length : Int), 0⟩]) [] = 0 := by
    rw [e1, exE_step _ _ _ hok (by simp only; omega) (by rw [hsz]; omega)]; rfl
  have hA : exA (s.map byM ++ [⟨(n : Int), (s.length : Int), 0⟩]) = cpy s.length n s := by
    rw [exA_ok _ hE, e2, exT, had]; rfl
  refine ⟨hE, by rw [hA, cpy_len], fun i hi => ?_⟩
  rw [hA]
  by_cases hi2 : i < s.length
  · rw [cpy_old _ _ _ _ hi2, Nat.mod_eq_of_lt hi2]
  · obtain ⟨j, rfl⟩ : ∃ j, i = s.length + j := ⟨i - s.length, by omega⟩
    rw [cpy_mod s.length (by omega) n s (Nat.le_refl _) j (by omega), Nat.sub_self, Nat.zero_add, Nat.add_mod_left]
end Go.Proofs.Ytpkidjledgcemac
