/- Plain facts on products of remainders: times x, again and again, is a product with a power of x. No Go in sight. -/
import Derived.Test.YtjfkbkhfnnmbnaaJoinMath
namespace Go.Proofs.Ytjfkbkhfnnmbnaa

def tmss : Nat → BitVec 32 → BitVec 32
  | 0, c => c
  | n + 1, c => tms (tmss n c)

theorem shl_xor (a b : BitVec 32) (k : Nat) : (a ^^^ b) <<< k = a <<< k ^^^ b <<< k := by
  apply BitVec.eq_of_getLsbD_eq
  intro i hi
  rw [BitVec.getLsbD_xor, BitVec.getLsbD_shiftLeft, BitVec.getLsbD_shiftLeft, BitVec.getLsbD_shiftLeft, BitVec.getLsbD_xor]
  cases decide (i < 32) <;> cases decide (i < k) <;> simp
theorem tms_xor (a b : BitVec 32) : tms (a ^^^ b) = tms a ^^^ tms b := by
  unfold tms
  rw [BitVec.getLsbD_xor, shl_xor]
  cases a.getLsbD 31 <;> cases b.getLsbD 31 <;> simp
  · rw [BitVec.xor_assoc]
  · rw [BitVec.xor_assoc, BitVec.xor_assoc, BitVec.xor_comm mixT]
  · rw [BitVec.xor_assoc, ← BitVec.xor_assoc mixT, BitVec.xor_comm mixT, BitVec.xor_assoc, BitVec.xor_self, BitVec.xor_zero]
theorem tmss_xor (n : Nat) (a b : BitVec 32) : tmss n (a ^^^ b) = tmss n a ^^^ tmss n b := by
  induction n with
  | zero => rfl
  | succ n ih => simp only [tmss, ih, tms_xor]
theorem tmss_zero (n : Nat) : tmss n 0#32 = 0#32 := by
  have h := tmss_xor n 0#32 0#32
  rw [BitVec.xor_self, BitVec.xor_self] at h
  exact h
theorem tmss_add (m n : Nat) (c : BitVec 32) : tmss (m + n) c = tmss m (tmss n c) := by
  induction m with
  | zero => rw [Nat.zero_add]; rfl
  | succ m ih => rw [Nat.add_right_comm]; simp only [tmss, ih]
theorem tmss_rev (n : Nat) (c : BitVec 32) : tmss n (revB c) = revB (stps n c) := by
  induction n with
  | zero => rfl
  | succ n ih => rw [tmss, ih, tms_rev, stps_succ]

theorem takeTo_xor (f : Nat → BitVec 32) (c d : BitVec 32) (k : Nat) : takeTo f (c ^^^ d) k = takeTo f c k ^^^ takeTo f d k := by
  induction k with
  | zero => simp [takeTo]
  | succ k ih =>
    simp only [takeTo, BitVec.getLsbD_xor, ih]
    cases c.getLsbD k <;> cases d.getLsbD k <;> simp
    · rw [BitVec.xor_assoc]
    · rw [BitVec.xor_assoc, BitVec.xor_assoc, BitVec.xor_comm (f k)]
    · rw [BitVec.xor_assoc, ← BitVec.xor_assoc (f k), BitVec.xor_comm (f k), BitVec.xor_assoc, BitVec.xor_self, BitVec.xor_zero]
theorem takeTo_fun (f g : Nat → BitVec 32) (c : BitVec 32) (k : Nat) : takeTo (fun i => f i ^^^ g i) c k = takeTo f c k ^^^ takeTo g c k := by
  induction k with
  | zero => simp [takeTo]
  | succ k ih =>
    simp only [takeTo, ih]
    cases c.getLsbD k <;> simp
    rw [BitVec.xor_assoc, BitVec.xor_assoc, ← BitVec.xor_assoc (takeTo g c k), BitVec.xor_comm (takeTo g c k) (f k), BitVec.xor_assoc (f k)]
theorem takeTo_tms (f : Nat → BitVec 32) (c : BitVec 32) (k : Nat) : tms (takeTo f c k) = takeTo (fun i => tms (f i)) c k := by
  induction k with
  | zero => exact (by decide : tms 0#32 = 0#32)
  | succ k ih =>
    simp only [takeTo]
    cases c.getLsbD k <;> simp [tms_xor, ih]
theorem takeTo_congr (f g : Nat → BitVec 32) (c : BitVec 32) (k : Nat) (h : ∀ i, i < k → f i = g i) : takeTo f c k = takeTo g c k := by
  induction k with
  | zero => rfl
  | succ k ih => simp only [takeTo, ih (fun i hi => h i (by omega)), h k (by omega)]

/-- a times the remainder c -/
def lin (a c : BitVec 32) : BitVec 32 := takeTo (fun i => tmss i a) c 32
theorem tms_tmss (i : Nat) (a : BitVec 32) : tms (tmss i a) = tmss i (tms a) := by
  have h1 := tmss_add 1 i a
  have h2 := tmss_add i 1 a
  rw [Nat.add_comm] at h1
  exact h1.symm.trans h2
theorem lin_tms (a c : BitVec 32) : tms (lin a c) = lin (tms a) c := by
  unfold lin
  rw [takeTo_tms]
  exact takeTo_congr _ _ c 32 fun i _ => tms_tmss i a
theorem lin_xor (a b c : BitVec 32) : lin (a ^^^ b) c = lin a c ^^^ lin b c := by
  unfold lin
  rw [← takeTo_fun]
  exact takeTo_congr _ _ c 32 fun i _ => tmss_xor i a b
theorem lin_xor_right (a c d : BitVec 32) : lin a (c ^^^ d) = lin a c ^^^ lin a d := takeTo_xor _ c d 32
theorem lin_zero (c : BitVec 32) : lin 0#32 c = 0#32 := by
  have h := lin_xor 0#32 0#32 c
  rw [BitVec.xor_self, BitVec.xor_self] at h
  exact h
theorem pow_bit (i : Nat) (h : i < 32) : tmss i 1#32 = BitVec.ofNat 32 (2 ^ i) := by
  have : ∀ i, i < 32 → tmss i 1#32 = BitVec.ofNat 32 (2 ^ i) := by decide
  exact this i h
theorem sum_bits (c : BitVec 32) (k : Nat) : takeTo (fun i => BitVec.ofNat 32 (2 ^ i)) c k = BitVec.ofNat 32 (c.toNat % 2 ^ k) := takeTo_tab 0 c k
theorem lin_one (c : BitVec 32) : lin 1#32 c = c := by
  unfold lin
  rw [takeTo_congr _ (fun i => BitVec.ofNat 32 (2 ^ i)) c 32 pow_bit, sum_bits, Nat.mod_eq_of_lt c.isLt, BitVec.ofNat_toNat, BitVec.setWidth_eq]
/-- the polynomial itself: x to the 32nd -/
theorem lin_mix_pow (j : Nat) : lin (tmss j 1#32) mixT = tmss 32 (tmss j 1#32) := by
  induction j with
  | zero =>
    show lin 1#32 mixT = tmss 32 1#32
    rw [lin_one, tmss, pow_bit 31 (by decide)]
    decide
  | succ j ih => rw [tmss, ← lin_tms, ih, tms_tmss]
theorem lin_mix (a : BitVec 32) : lin a mixT = tmss 32 a := by
  have h : ∀ k, lin (takeTo (fun i => tmss i 1#32) a k) mixT = tmss 32 (takeTo (fun i => tmss i 1#32) a k) := by
    intro k
    induction k with
    | zero => rw [takeTo, lin_zero, tmss_zero]
    | succ k ih =>
      simp only [takeTo]
      cases a.getLsbD k
      · simpa using ih
      · simp only [if_true]
        rw [lin_xor, tmss_xor, ih, lin_mix_pow]
  have e := lin_one a
  unfold lin at e
  have h32 := h 32
  rw [e] at h32
  exact h32
theorem takeTo_shift (f : Nat → BitVec 32) (c : BitVec 32) (k : Nat) (hk : k < 32) : takeTo f (c <<< 1) (k + 1) = takeTo (fun i => f (i + 1)) c k := by
  induction k with
  | zero => simp [takeTo]
  | succ k ih =>
    rw [takeTo, ih (by omega), takeTo, BitVec.getLsbD_shiftLeft]
    simp [hk]
theorem lin_shift (a c : BitVec 32) : lin a (tms c) = lin (tms a) c := by
  have e : ∀ i, tmss (i + 1) a = tmss i (tms a) := fun i => by rw [tmss, tms_tmss]
  have h1 : lin a (c <<< 1) = takeTo (fun i => tmss i (tms a)) c 31 := by
    unfold lin
    rw [takeTo_shift _ c 31 (by decide)]
    exact takeTo_congr _ _ c 31 fun i _ => e i
  have h2 : lin (tms a) c = if c.getLsbD 31 = true then takeTo (fun i => tmss i (tms a)) c 31 ^^^ tmss 32 a else takeTo (fun i => tmss i (tms a)) c 31 := by
    unfold lin
    rw [takeTo, ← e 31]
  rw [h2, ← h1, tms]
  cases c.getLsbD 31
  · rfl
  · simp only [if_true]
    rw [lin_xor_right, lin_mix]
theorem lin_pow (a : BitVec 32) (m : Nat) : lin a (tmss m 1#32) = tmss m a := by
  induction m generalizing a with
  | zero =>
    show takeTo (fun i => tmss i a) 1#32 32 = a
    have h : ∀ k, takeTo (fun i => tmss i a) 1#32 (k + 1) = a := by
      intro k
      induction k with
      | zero => simp [takeTo, tmss]
      | succ k ih =>
        have hb : (1#32).getLsbD (k + 1) = false := by
          rw [← BitVec.testBit_toNat]
          exact Nat.testBit_lt_two_pow (Nat.lt_of_lt_of_le (by decide : (1#32).toNat < 2 ^ 1) (Nat.pow_le_pow_right (by decide) (by omega)))
        rw [takeTo, hb, if_neg (by decide), ih]
    exact h 31
  | succ m ih => rw [tmss, lin_shift, ih, ← tms_tmss]; rfl

/-- linenref.product behind k rounds -/
def prodTo (a b : BitVec 32) : Nat → BitVec 32
  | 0 => 0#32
  | k + 1 => if b.getLsbD (31 - k) = true then tms (prodTo a b k) ^^^ a else tms (prodTo a b k)
theorem prodTo_lin (a b : BitVec 32) (k : Nat) (hk : k ≤ 32) : tmss (32 - k) (prodTo a b k) ^^^ takeTo (fun i => tmss i a) b (32 - k) = lin a b := by
  induction k with
  | zero => rw [prodTo, tmss_zero, BitVec.zero_xor]; rfl
  | succ k ih =>
    rw [← ih (by omega), show 32 - k = 31 - k + 1 by omega, show 32 - (k + 1) = 31 - k by omega, takeTo, tmss, prodTo]
    cases b.getLsbD (31 - k)
    · simp [tms_tmss]
    · simp only [if_true]
      rw [tmss_xor, tms_tmss, BitVec.xor_assoc, BitVec.xor_comm (tmss (31 - k) a)]
theorem prodTo_all (a b : BitVec 32) : prodTo a b 32 = lin a b := by
  have h := prodTo_lin a b 32 (Nat.le_refl _)
  rw [← h]
  show _ = prodTo a b 32 ^^^ 0#32
  rw [BitVec.xor_zero]
theorem square (m : Nat) : prodTo (tmss m 1#32) (tmss m 1#32) 32 = tmss (m + m) 1#32 := by rw [prodTo_all, lin_pow, tmss_add]
theorem raise (m : Nat) (a : BitVec 32) : prodTo a (tmss m 1#32) 32 = tmss m a := by rw [prodTo_all, lin_pow]
end Go.Proofs.Ytjfkbkhfnnmbnaa
