/- What is read is written as just those bits. No Go in sight. -/
import Derived.Test.YtnoegodimiehhaaCodeBackMath
namespace Go.Proofs.Ytnoegodimiehhaa

theorem mod_join (T a y : Nat) : T % 2 ^ a ||| T / 2 ^ a % 2 ^ y * 2 ^ a = T % 2 ^ (a + y) := by
  apply Nat.eq_of_testBit_eq
  intro i
  rw [Nat.testBit_or, Nat.testBit_mod_two_pow, Nat.mul_comm, Nat.testBit_two_pow_mul, Nat.testBit_mod_two_pow, Nat.testBit_div_two_pow, Nat.testBit_mod_two_pow]
  by_cases h1 : i < a
  · simp [h1, show i < a + y by omega, show ¬ a ≤ i by omega]
  · by_cases h2 : i < a + y
    · simp [h1, h2, show a ≤ i by omega, show i - a < y by omega, show i - a + a = i by omega]
    · simp [h1, h2, show ¬ i - a < y by omega]
theorem one_is {L : Nat → Int} {len : Nat} {s : ByteArray} (hc : canE L len = 0) : ∀ k, rdE L len s 0 k = 0 →
    (∀ i, i < k → sgnB L len (rdF L len s 0 i) = true) ∧ widSum (wrW L (rdF L len s 0)) k = rdA L len s 0 k ∧ packN (wrV L len (rdF L len s 0)) (wrW L (rdF L len s 0)) k = txtN s.data.toList % 2 ^ rdA L len s 0 k ∧ rdA L len s 0 k ≤ 15 * k := by
  obtain ⟨h320, hg, hF, _⟩ := canE_ok hc
  intro k
  induction k with
  | zero => intro _; exact ⟨fun i hi => by omega, rfl, by simp [packN, rdA, Nat.mod_one], by simp [rdA]⟩
  | succ k ih =>
    intro h
    obtain ⟨h1, h2⟩ := rdE_pre h
    obtain ⟨i1, i2, i3, i4⟩ := ih h1
    obtain ⟨k1, k2, k3, k4, k5⟩ := stp_ok h2
    have hf : rdF L len s 0 k = ((stpS L len s (rdA L len s 0 k)).1 : Nat) := rfl
    have ha1 : rdA L len s 0 (k + 1) = rdA L len s 0 k + (stpS L len s (rdA L len s 0 k)).2.1 := rfl
    generalize (stpS L len s (rdA L len s 0 k)).1 = j at *
    generalize (stpS L len s (rdA L len s 0 k)).2.1 = y at *
    have h15 := len_of (hg j k1)
    have hW : wrW L (rdF L len s 0) k = (y : Int) := by unfold wrW; rw [hf, Int.toNat_natCast, k4]
    have hV : wrV L len (rdF L len s 0) k = txtN s.data.toList / 2 ^ rdA L len s 0 k % 2 ^ y := by
      unfold wrV
      rw [hf, Int.toNat_natCast, k4, Int.toNat_natCast, ← k5, rv_rv]
    refine ⟨fun i hi => ?_, ?_, ?_, ?_⟩
    · by_cases e : i = k
      · rw [e, hf]
        exact decide_eq_true ⟨by omega, by omega, by rw [Int.toNat_natCast, k4]; omega⟩
      · exact i1 i (by omega)
    · rw [widSum, i2, hW, Int.toNat_natCast, ha1]
    · rw [packN, i3, i2, hV, mod_join, ha1]
    · rw [ha1]; omega
theorem txt_bit (R n i : Nat) (h : i < 8 * n) : txtN (bytesOf R n) / 2 ^ i % 2 = R / 2 ^ i % 2 := by
  have h1 : (txtN (bytesOf R n)).testBit i = R.testBit i := by
    obtain ⟨q, r, hr, rfl⟩ : ∃ q r, r < 8 ∧ i = 8 * q + r := ⟨i / 8, i % 8, by omega, by omega⟩
    rw [txtN_bit _ _ _ hr, bytesOf_getD _ _ _ (by omega), byte_bit _ _ _ hr]
  rw [Nat.testBit_eq_decide_div_mod_eq, Nat.testBit_eq_decide_div_mod_eq] at h1
  have h2 := Nat.mod_two_eq_zero_or_one (txtN (bytesOf R n) / 2 ^ i)
  have h3 := Nat.mod_two_eq_zero_or_one (R / 2 ^ i)
  rcases h2 with h2 | h2 <;> rcases h3 with h3 | h3 <;> simp_all
theorem mod_bit (T a i : Nat) (h : i < a) : T % 2 ^ a / 2 ^ i % 2 = T / 2 ^ i % 2 := by
  have h1 : (T % 2 ^ a).testBit i = T.testBit i := by rw [Nat.testBit_mod_two_pow]; simp [h]
  rw [Nat.testBit_eq_decide_div_mod_eq, Nat.testBit_eq_decide_div_mod_eq] at h1
  have h2 := Nat.mod_two_eq_zero_or_one (T % 2 ^ a / 2 ^ i)
  have h3 := Nat.mod_two_eq_zero_or_one (T / 2 ^ i)
  rcases h2 with h2 | h2 <;> rcases h3 with h3 | h3 <;> simp_all
/-- all that the law needs -/
structure One (L : Nat → Int) (len : Nat) (s : ByteArray) (n : Nat) (t : ByteArray) : Prop where
  we : wrE L len (rdF L len s 0) n = 0
  wl : wrL L len (rdF L len s 0) n = n
  pe : packE n (wrV L len (rdF L len s 0)) (wrW L (rdF L len s 0)) = 0
  sz : t.size = (rdA L len s 0 n + 7) / 8
  le : rdA L len s 0 n ≤ 8 * s.size
  b : rdA L len s 0 n ≤ 3000
  bit : ∀ i, i < rdA L len s 0 n → txtN t.data.toList / 2 ^ i % 2 = txtN s.data.toList / 2 ^ i % 2
theorem one_all {L : Nat → Int} {len : Nat} {s : ByteArray} {n : Nat} (hn : n ≤ 200) (h : readE L len s 0 (n : Int) = 0) : One L len s n ⟨(packS n (wrV L len (rdF L len s 0)) (wrW L (rdF L len s 0))).toArray⟩ := by
  obtain ⟨hc, _, _, _, _, h0⟩ := readE_zero h
  rw [Int.toNat_natCast] at h0
  have h0 : rdE L len s 0 n = 0 := h0
  obtain ⟨h1, h2, h3, h4⟩ := one_is hc n h0
  obtain ⟨e1, e2⟩ := wr_ok hc (allS_mk h1)
  have herr := fun i hi => wr_err e1 i hi
  obtain ⟨p1, p2⟩ := pack_ok n _ _ herr (by rw [h2]; omega)
  have hs : (ByteArray.mk (packS n (wrV L len (rdF L len s 0)) (wrW L (rdF L len s 0))).toArray).data.toList = bytesOf (txtN s.data.toList % 2 ^ rdA L len s 0 n) ((rdA L len s 0 n + 7) / 8) := by
    rw [p2, h2, h3]
  refine ⟨e1, e2, p1, ?_, rdA_le (Nat.zero_le _) n h0, by omega, fun i hi => ?_⟩
  · have e : (ByteArray.mk (packS n (wrV L len (rdF L len s 0)) (wrW L (rdF L len s 0))).toArray).data.toList.length = (ByteArray.mk (packS n (wrV L len (rdF L len s 0)) (wrW L (rdF L len s 0))).toArray).size := by rw [Array.length_toList]; rfl
    rw [hs, bytesOf_length] at e; exact e.symm
  · rw [hs, txt_bit _ _ _ (by omega), mod_bit _ _ _ hi]
end Go.Proofs.Ytnoegodimiehhaa
