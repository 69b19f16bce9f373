/- Read in two parts. -/
import Derived.Test.YtnoegodimiehhaaRdMath
import Derived.Test.YtnoegodimiehhaaCatMath
namespace Go.Proofs.Ytnoegodimiehhaa

theorem rdA_cut (L : Nat → Int) (len : Nat) (s : ByteArray) (a n k : Nat) : rdA L len s a (n + k) = rdA L len s (rdA L len s a n) k := by
  induction k with
  | zero => rfl
  | succ k ih => rw [← Nat.add_assoc, rdA, rdA, ih]
theorem rdF_cut (L : Nat → Int) (len : Nat) (s : ByteArray) (a n i : Nat) : rdF L len s a (n + i) = rdF L len s (rdA L len s a n) i := by
  unfold rdF; rw [rdA_cut]
theorem rdE_cut (L : Nat → Int) (len : Nat) (s : ByteArray) (a n k : Nat) (h : rdE L len s a n = 0) : rdE L len s a (n + k) = rdE L len s (rdA L len s a n) k := by
  induction k with
  | zero => exact h
  | succ k ih => rw [← Nat.add_assoc, rdE, rdE, ih, rdA_cut]
/-- all that the law needs of the three answers -/
structure Cuts (E1 E2 E3 : Int) (l1 l2 l3 k1 k2 k3 n m : Nat) (f1 f2 f3 : Nat → Int) : Prop where
  e1 : 0 ≤ E1 ∧ E1 ≤ 7
  bad1 : E2 ≠ 0 → E1 = E2 ∧ l1 = 0
  bad2 : E2 = 0 → E3 ≠ 0 → E1 = E3 ∧ l1 = 0
  good : E2 = 0 → E3 = 0 → E1 = 0 ∧ l1 = n + m ∧ l2 = n ∧ l3 = m ∧ k3 = k1 ∧ ∀ i, i < n + m → f1 i = cat n f2 f3 i
  l1b : l1 ≤ 1024
  l2b : l2 ≤ 1024
  l3b : l3 ≤ 1024
theorem readE_is (L : Nat → Int) (len : Nat) (s : ByteArray) (a n : Int) : 0 ≤ readE L len s a n ∧ readE L len s a n ≤ 7 := by
  have h1 := canE_is' L len
  have h2 : ∀ a k, 0 ≤ rdE L len s a k ∧ rdE L len s a k ≤ 7 := fun a k => by
    induction k with
    | zero => simp [rdE]
    | succ k ih =>
      rw [rdE]
      split
      · by_cases h : (stpS L len s (rdA L len s a k)).2.2 = 0
        · omega
        · have := sgnS_shape L len (txtN s.data.toList / 2 ^ rdA L len s a k) (8 * s.size - rdA L len s a k) 16 0 h
          have h3 := this.2.1
          have h4 := this.2.2
          unfold stpS
          omega
      · exact ih
  unfold readE
  split
  · split
    · omega
    · split
      · omega
      · exact h2 _ _
  · omega
where
  canE_is' (L : Nat → Int) (len : Nat) : 0 ≤ canE L len ∧ canE L len ≤ 6 := by
    have : 0 ≤ fillE L len ∧ fillE L len ≤ 2 := by
      unfold fillE
      split
      · omega
      · split <;> omega
    unfold canE
    split
    · split <;> omega
    · omega
theorem readL_le (L : Nat → Int) (len : Nat) (s : ByteArray) (a n : Int) : readL L len s a n ≤ 1024 := by
  unfold readL
  split
  · rename_i h
    have := readE_zero h
    omega
  · omega
theorem cuts_are (L : Nat → Int) (len : Nat) (s : ByteArray) (n m : Nat) (hn : n ≤ 40) (hm : m ≤ 40) :
    Cuts (readE L len s 0 ((n + m : Nat) : Int)) (readE L len s 0 (n : Int)) (readE L len s (readK L len s 0 (n : Int) : Nat) (m : Int)) (readL L len s 0 ((n + m : Nat) : Int)) (readL L len s 0 (n : Int)) (readL L len s (readK L len s 0 (n : Int) : Nat) (m : Int))
      (readK L len s 0 ((n + m : Nat) : Int)) (readK L len s 0 (n : Int)) (readK L len s (readK L len s 0 (n : Int) : Nat) (m : Int)) n m (rdF L len s 0) (rdF L len s 0) (rdF L len s (readK L len s 0 (n : Int))) := by
  have base : ∀ k : Nat, k ≤ 1024 → readE L len s 0 (k : Int) = if canE L len = 0 then rdE L len s 0 k else canE L len := fun k hk => by
    unfold readE
    split
    · rw [if_neg (by unfold argB; rw [decide_eq_false (by omega)]; decide), if_neg (by omega), Int.toNat_natCast]; rfl
    · rfl
  have b1 := base (n + m) (by omega)
  have b2 := base n (by omega)
  refine ⟨readE_is _ _ _ _ _, fun h => ?_, fun h h3 => ?_, fun h h3 => ?_, readL_le _ _ _ _ _, readL_le _ _ _ _ _, readL_le _ _ _ _ _⟩
  · have e : readE L len s 0 ((n + m : Nat) : Int) = readE L len s 0 (n : Int) := by
      rw [b1, b2]
      rw [b2] at h
      by_cases hc : canE L len = 0
      · rw [if_pos hc] at h; rw [if_pos hc, if_pos hc]; exact rdE_stays h (by omega)
      · rw [if_neg hc, if_neg hc]
    exact ⟨e, by unfold readL; rw [e, if_neg h]⟩
  · obtain ⟨hc, _, _, _, _, h0⟩ := readE_zero h
    rw [Int.toNat_natCast] at h0
    have h0 : rdE L len s 0 n = 0 := h0
    have hk : readK L len s 0 (n : Int) = rdA L len s 0 n := by unfold readK; rw [if_pos h, Int.toNat_natCast]; rfl
    rw [hk] at h3 ⊢
    have hle := rdA_le (a := 0) (Nat.zero_le _) n h0
    have e3 : readE L len s (rdA L len s 0 n : Nat) (m : Int) = rdE L len s (rdA L len s 0 n) m := by
      unfold readE
      rw [if_pos hc, if_neg (by unfold argB; rw [decide_eq_false (by omega)]; decide), if_neg (by omega), Int.toNat_natCast, Int.toNat_natCast]
    have e : readE L len s 0 ((n + m : Nat) : Int) = readE L len s (rdA L len s 0 n : Nat) (m : Int) := by
      rw [b1, if_pos hc, e3, rdE_cut _ _ _ _ _ _ h0]
    exact ⟨e, by unfold readL; rw [e, if_neg h3]⟩
  · obtain ⟨hc, _, _, _, _, h0⟩ := readE_zero h
    rw [Int.toNat_natCast] at h0
    have h0 : rdE L len s 0 n = 0 := h0
    have hk : readK L len s 0 (n : Int) = rdA L len s 0 n := by unfold readK; rw [if_pos h, Int.toNat_natCast]; rfl
    rw [hk] at h3 ⊢
    have hle := rdA_le (a := 0) (Nat.zero_le _) n h0
    have e3 : readE L len s (rdA L len s 0 n : Nat) (m : Int) = rdE L len s (rdA L len s 0 n) m := by
      unfold readE
      rw [if_pos hc, if_neg (by unfold argB; rw [decide_eq_false (by omega)]; decide), if_neg (by omega), Int.toNat_natCast, Int.toNat_natCast]
    have e : readE L len s 0 ((n + m : Nat) : Int) = 0 := by
      rw [b1, if_pos hc, rdE_cut _ _ _ _ _ _ h0, ← e3, h3]
    refine ⟨e, by unfold readL; rw [if_pos e, Int.toNat_natCast], by unfold readL; rw [if_pos h, Int.toNat_natCast], by unfold readL; rw [if_pos h3, Int.toNat_natCast], ?_, fun i hi => ?_⟩
    · unfold readK
      rw [if_pos h3, if_pos e, Int.toNat_natCast, Int.toNat_natCast, Int.toNat_natCast, ← rdA_cut]; rfl
    · by_cases hin : i < n
      · rw [cat_lo _ _ _ _ hin]
      · obtain ⟨j, rfl⟩ : ∃ j, i = n + j := ⟨i - n, by omega⟩
        rw [cat_hi, rdF_cut]
end Go.Proofs.Ytnoegodimiehhaa
