/- What is written is read as it was. No Go in sight. -/
import Derived.Test.YtnoegodimiehhaaRdMath
import Derived.Test.YtnoegodimiehhaaBackMath
import Derived.Test.YtnoegodimiehhaaCatMath
import Derived.Test.YtnoegodimiehhaaWriteMath
namespace Go.Proofs.Ytnoegodimiehhaa

theorem rv_mod (X y : Nat) : rv X y = rv (X % 2 ^ y) y := by
  apply Nat.eq_of_testBit_eq
  intro i
  rw [rv_testBit, rv_testBit]
  by_cases h : i < y
  · rw [Nat.testBit_mod_two_pow, decide_eq_true (show y - 1 - i < y by omega)]; simp
  · simp [h]
theorem code_lt {L : Nat → Int} {len : Nat} (hF : fillN L len ≤ 32768) (i y : Nat) (hi : i < len) (hy : L i = (y : Int)) (h0 : 0 < y) (h15 : y ≤ 15) : codeN L len i < 2 ^ y := by
  have h1 := ahead_fill L len i hi (by omega)
  rw [ahead_code' L len i y hi hy h0 h15, tk_pos _ (by omega), hy, Int.toNat_natCast, ← Nat.succ_mul] at h1
  have h2 : (codeN L len i + 1) * 2 ^ (15 - y) ≤ 2 ^ y * 2 ^ (15 - y) := by
    rw [← Nat.pow_add, show y + (15 - y) = 15 by omega]; exact Nat.le_trans h1 hF
  exact Nat.le_of_mul_le_mul_right h2 (Nat.pow_pos (by decide))
/-- ahead and what is written, packed; read from where it begins -/
theorem back_read {L : Nat → Int} {len : Nat} {S : Nat → Int} {n : Nat} (hw : wrE L len S n = 0) (V0 : Nat → Nat) (W0 : Nat → Int) (n0 : Nat) (h0 : ∀ i, i < n0 → errP (V0 i) (W0 i) = 0)
    (s : ByteArray) (hs : s.data.toList = bytesOf (packN (cat n0 V0 (wrV L len S)) (cat n0 W0 (wrW L S)) (n0 + n)) ((widSum (cat n0 W0 (wrW L S)) (n0 + n) + 7) / 8)) :
    ∀ k, k ≤ n → rdE L len s (widSum W0 n0) k = 0 ∧ rdA L len s (widSum W0 n0) k = widSum W0 n0 + widSum (wrW L S) k ∧ ∀ i, i < k → rdF L len s (widSum W0 n0) i = S i := by
  obtain ⟨hc, ha⟩ := wrE_zero hw
  obtain ⟨h320, hg, hF, _⟩ := canE_ok hc
  have herr : ∀ i, i < n0 + n → errP (cat n0 V0 (wrV L len S) i) (cat n0 W0 (wrW L S) i) = 0 := fun i hi => by
    by_cases h : i < n0
    · rw [cat_lo _ _ _ _ h, cat_lo _ _ _ _ h]; exact h0 i h
    · obtain ⟨j, rfl⟩ : ∃ j, i = n0 + j := ⟨i - n0, by omega⟩
      rw [cat_hi, cat_hi]; exact wr_err hw j (by omega)
  have hsz : s.size = (widSum (cat n0 W0 (wrW L S)) (n0 + n) + 7) / 8 := by
    have e : s.data.toList.length = s.size := by rw [Array.length_toList]; rfl
    rw [hs, bytesOf_length] at e; exact e.symm
  have step : ∀ k, k < n → stpS L len s (widSum W0 n0 + widSum (wrW L S) k) = ((S k).toNat, (wrW L S k).toNat, 0) := by
    intro k hk
    obtain ⟨j, y, h3, h4, h5, h6, h7⟩ := sgn_is hg (allS_of ha k hk)
    have hW : wrW L S k = (y : Int) := by unfold wrW; rw [h3, Int.toNat_natCast, h5]
    have hV : wrV L len S k = rv (codeN L len j) y := by unfold wrV; rw [h3, Int.toNat_natCast, h5, Int.toNat_natCast]
    have hget := back_get (cat n0 V0 (wrV L len S)) (cat n0 W0 (wrW L S)) (n0 + n) (n0 + k) [] herr (by omega)
    rw [List.append_nil, ← hs, widSum_cat, cat_hi, cat_hi, hW, hV, Int.toNat_natCast] at hget
    have hmono := widSum_mono (cat n0 W0 (wrW L S)) (n0 + k + 1) (n - (k + 1))
    rw [show n0 + k + 1 + (n - (k + 1)) = n0 + n by omega, widSum, widSum_cat, cat_hi, hW, Int.toNat_natCast] at hmono
    rw [h3, hW, Int.toNat_natCast, Int.toNat_natCast]
    refine sgn_code hg _ _ j y h4 h5 h6 (by omega) ?_ 16 0 (Nat.zero_le _) (by omega)
    unfold getN at hget
    rw [rv_mod, hget, rv_rv]
    exact Nat.mod_eq_of_lt (code_lt hF j y h4 h5 h6 h7)
  intro k
  induction k with
  | zero => intro _; exact ⟨rfl, rfl, fun i hi => by omega⟩
  | succ k ih =>
    intro hk
    obtain ⟨h1, h2, h3⟩ := ih (by omega)
    have hst := step k (by omega)
    refine ⟨?_, ?_, fun i hi => ?_⟩
    · rw [rdE, if_pos h1, h2, hst]
    · rw [rdA, h2, hst, widSum]
      show _ + (wrW L S k).toNat = _
      omega
    · by_cases e : i = k
      · subst e
        unfold rdF
        rw [h2, hst]
        have := sgn_of (allS_of ha i (by omega))
        show ((S i).toNat : Int) = S i
        omega
      · exact h3 i (by omega)
end Go.Proofs.Ytnoegodimiehhaa
