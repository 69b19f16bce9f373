/- The law NumOrders, walked. -/
import Derived.Test.YticigfleieeooaaNumPutWalks
import Derived.Test.YticigfleieeooaaNumBackMath
import Derived.Test.YticigfleieeooaaZigWalks
import Derived.Test.YticigfleieeooaaFixWalks
namespace Go.Proofs.Yticigfleieeooaa
open Go.RowKit

def farN (n : Int) : Nat := if n < 0 then (-(n + 1)).toNat else n.toNat
theorem far_zig (x y : Int) (h : farN x < farN y) : zigN x < zigN y := by
  unfold farN at h
  unfold zigN
  by_cases hx : x < 0 <;> by_cases hy : y < 0 <;> simp only [hx, hy, if_true, if_false] at h ⊢ <;> omega
theorem far_lt (x : Int) (h1 : -9223372036854775808 ≤ x) (h2 : x ≤ 9223372036854775807) : farN x < 9223372036854775808 := by unfold farN; split <;> omega
set_option maxHeartbeats 400000 in
theorem far_any (n : Int) (w : World) (h1 : -9223372036854775808 ≤ n) (h2 : n ≤ 9223372036854775807) :
    Calls Try.prog 17 #[.int .i64 n] w fun e w' => e = .returned (.int .u64 (farN n : Nat)) ∧ w' = w := by
  by_cases h : n < 0
  · have hz : Hid ((farN n : Int) = -(n + 1)) := by show _ = _; unfold farN; rw [if_pos h]; omega
    go_enter Try.func17, Try.ntmps17
    go_wp2
    go_ret
    exact ⟨ret_int (by rw [hz.out]), rfl⟩
  · have hz : Hid ((farN n : Int) = n) := by show _ = _; unfold farN; rw [if_neg h]; omega
    go_enter Try.func17, Try.ntmps17
    go_wp2
    go_ret
    exact ⟨ret_int (by rw [hz.out]), rfl⟩
theorem wrap64_bdO (x : Int) : -9223372036854775808 ≤ wrap64 x ∧ wrap64 x ≤ 9223372036854775807 := by
  unfold wrap64; omega

/-- bytes of one width are in the order of the numbers -/
theorem fix_less (n m k : Nat) : Op.bytesLess (fixB n k) (fixB m k) = decide (n % 256 ^ k < m % 256 ^ k) := by
  induction k with
  | zero => simp [fixB, Op.bytesLess, Nat.mod_one]
  | succ k ih =>
    have e : ∀ n, n % 256 ^ (k + 1) = n % 256 ^ k + 256 ^ k * (n / 256 ^ k % 256) := fun n => by rw [Nat.pow_succ, Nat.mod_mul]
    have hp : 0 < 256 ^ k := Nat.pow_pos (by decide)
    have h1 := Nat.mod_lt n hp
    have h2 := Nat.mod_lt m hp
    rw [fixB, fixB, Op.bytesLess, ih, e n, e m]
    have t : ∀ n, (UInt8.ofNat (n / 256 ^ k)).toNat = n / 256 ^ k % 256 := fun n => by rw [UInt8.toNat_ofNat']
    have hlt : (UInt8.ofNat (n / 256 ^ k) < UInt8.ofNat (m / 256 ^ k)) ↔ n / 256 ^ k % 256 < m / 256 ^ k % 256 := by rw [UInt8.lt_iff_toNat_lt, t, t]
    have heq : (UInt8.ofNat (n / 256 ^ k) = UInt8.ofNat (m / 256 ^ k)) ↔ n / 256 ^ k % 256 = m / 256 ^ k % 256 := by rw [← UInt8.toNat_inj, t, t]
    generalize n / 256 ^ k % 256 = a at *
    generalize m / 256 ^ k % 256 = b at *
    generalize n % 256 ^ k = r1 at *
    generalize m % 256 ^ k = r2 at *
    generalize 256 ^ k = p at *
    rw [Bool.eq_iff_iff]
    simp only [Bool.or_eq_true, Bool.and_eq_true, decide_eq_true_eq, beq_iff_eq, hlt, heq]
    rcases Nat.lt_trichotomy a b with h | h | h
    · have h3 : p * (a + 1) ≤ p * b := Nat.mul_le_mul_left p h
      rw [Nat.mul_add] at h3
      omega
    · subst h; omega
    · have h3 : p * (b + 1) ≤ p * a := Nat.mul_le_mul_left p h
      rw [Nat.mul_add] at h3
      omega
theorem fix_less8 (n m : Nat) (hn : n < 18446744073709551616) (hm : m < 18446744073709551616) : Op.bytesLess (fixB n 8) (fixB m 8) = decide (n < m) := by
  rw [fix_less, Nat.mod_eq_of_lt (a := n) (by omega), Nat.mod_eq_of_lt (a := m) (by omega)]
theorem put_inj (n m : Nat) (h : putB n = putB m) : n = m := by
  obtain ⟨l, b, h1, _, _, _, _, h6⟩ := putB_parts n
  obtain ⟨l', b', h1', _, _, _, _, h6'⟩ := putB_parts m
  rw [← h6, ← h6', ← h1, ← h1', h]
theorem put_mono (n : Nat) : ∀ m, n ≤ m → (putB n).length ≤ (putB m).length := by
  induction n using Nat.strongRecOn with
  | _ n ih =>
    intro m h
    by_cases hn : n < 128
    · rw [putB_lo n hn]; exact putB_pos m
    · rw [putB_hi n (by omega), putB_hi m (by omega)]
      have := ih (n / 128) (by omega) (m / 128) (by omega)
      simp; omega
set_option maxRecDepth 20000 in
set_option maxHeartbeats 800000 in
theorem numOrders_walk (a0 : Int) (a1 : Int) (w0 : (Lit.int .u64 a0).wf = true) (w1 : (Lit.int .u64 a1).wf = true) (w : World) :
    Calls Try.prog 7 #[.int .u64 a0, .int .u64 a1] w fun e w' => e = .returned (.bool true) ∧ Below w.heap.size w w' := by
  obtain ⟨n, rfl, hn⟩ := u64_nat w0
  obtain ⟨m, rfl, hm⟩ := u64_nat w1
  have bx := wrap64_bdO (n : Int)
  have byy := wrap64_bdO (m : Int)
  generalize hex : wrap64 (n : Int) = x at *
  generalize hey : wrap64 (m : Int) = y at *
  have HX := Hid.mk' bx
  have HY := Hid.mk' byy
  have hfx := far_lt x bx.1 bx.2
  have hfy := far_lt y byy.1 byy.2
  have hzx := zig_lt x bx.1 bx.2
  have hzy := zig_lt y byy.1 byy.2
  clear bx byy
  go_enter Try.func7, Try.ntmps7
  go_wp2_with fail
  refine (far_any _ _ HX.out.1 HX.out.2).mono ?_
  rintro e w1 ⟨rfl, rfl⟩
  go_wp2_with fail
  refine (far_any _ _ HY.out.1 HY.out.2).mono ?_
  rintro e w2 ⟨rfl, rfl⟩
  have hless := fix_less8 n m hn hm
  have hmono := Hid.mk' (put_mono n m)
  have hinj := Hid.mk' (put_inj n m)
  by_cases hfar : farN x < farN y
  · have hzz := far_zig x y hfar
    go_wp2_with fail
    refine (zig_any _ _ HX.out.1 HX.out.2).mono ?_
    rintro e w3 ⟨rfl, rfl⟩
    go_wp2_with fail
    refine (zig_any _ _ HY.out.1 HY.out.2).mono ?_
    rintro e w4 ⟨rfl, rfl⟩
    go_wp2_with fail
    refine (fix_in n 8 _ (by omega) (by omega)).mono ?_
    rintro e w5 ⟨rfl, hb⟩
    have HB5 := Hid.mk' hb
    clear hb
    go_wp2_with fail
    refine (fix_in m 8 _ (by omega) (by omega)).mono ?_
    rintro e w6 ⟨rfl, hb⟩
    have HB6 := Hid.mk' (HB5.out.trans (hb.mono HB5.out.size))
    clear hb hex hey hfx hfy hzx hzy hzz hfar
    rcases Nat.lt_trichotomy n m with h | h | h
    · have t1 : decide (n < m) = true := decide_eq_true h
      have hlen := hmono.out (by omega)
      have hL := putB_len10 m hm
      have hne : (putB n == putB m) = false := by rw [beq_eq_false_iff_ne]; intro e; have := hinj.out e; omega
      have hnm : ((n : Int) == (m : Int)) = false := by rw [beq_eq_false_iff_ne]; omega
      rw [t1] at hless
      go_wp2_with fail
      refine (put_num _ _ hn).mono ?_
      rintro e w7 ⟨rfl, hb⟩
      have HB7 := Hid.mk' (HB6.out.trans (hb.mono HB6.out.size))
      clear hb
      go_wp2_with fail
      refine (put_num _ _ hm).mono ?_
      rintro e w8 ⟨rfl, hb⟩
      have HB8 := Hid.mk' (HB7.out.trans (hb.mono HB7.out.size))
      clear hb
      go_wp2_with fail
      refine (put_num _ _ hn).mono ?_
      rintro e w9 ⟨rfl, hb⟩
      have HB9 := Hid.mk' (HB8.out.trans (hb.mono HB8.out.size))
      clear hb
      go_wp2_with fail
      refine (put_num _ _ hm).mono ?_
      rintro e w10 ⟨rfl, hb⟩
      have HB10 := Hid.mk' (HB9.out.trans (hb.mono HB9.out.size))
      clear hb
      go_wp2_with fail
      go_ret
      exact ⟨rfl, HB10.out⟩
    · subst h
      have t1 : decide (n < n) = false := decide_eq_false (by omega)
      have hL := putB_len10 n hn
      rw [t1] at hless
      go_wp2_with fail
      refine (put_num _ _ hn).mono ?_
      rintro e w7 ⟨rfl, hb⟩
      have HB7 := Hid.mk' (HB6.out.trans (hb.mono HB6.out.size))
      clear hb
      go_wp2_with fail
      refine (put_num _ _ hn).mono ?_
      rintro e w8 ⟨rfl, hb⟩
      have HB8 := Hid.mk' (HB7.out.trans (hb.mono HB7.out.size))
      clear hb
      go_wp2_with fail
      refine (put_num _ _ hn).mono ?_
      rintro e w9 ⟨rfl, hb⟩
      have HB9 := Hid.mk' (HB8.out.trans (hb.mono HB8.out.size))
      clear hb
      go_wp2_with fail
      refine (put_num _ _ hn).mono ?_
      rintro e w10 ⟨rfl, hb⟩
      have HB10 := Hid.mk' (HB9.out.trans (hb.mono HB9.out.size))
      clear hb
      go_wp2_with fail
      go_ret
      exact ⟨rfl, HB10.out⟩
    · have t1 : decide (n < m) = false := decide_eq_false (by omega)
      have hne : (putB n == putB m) = false := by rw [beq_eq_false_iff_ne]; intro e; have := hinj.out e; omega
      have hnm : ((n : Int) == (m : Int)) = false := by rw [beq_eq_false_iff_ne]; omega
      rw [t1] at hless
      go_wp2_with fail
      refine (put_num _ _ hn).mono ?_
      rintro e w7 ⟨rfl, hb⟩
      have HB7 := Hid.mk' (HB6.out.trans (hb.mono HB6.out.size))
      clear hb
      go_wp2_with fail
      refine (put_num _ _ hm).mono ?_
      rintro e w8 ⟨rfl, hb⟩
      have HB8 := Hid.mk' (HB7.out.trans (hb.mono HB7.out.size))
      clear hb
      go_wp2_with fail
      go_ret
      exact ⟨rfl, HB8.out⟩
  · go_wp2_with fail
    refine (fix_in n 8 _ (by omega) (by omega)).mono ?_
    rintro e w5 ⟨rfl, hb⟩
    have HB5 := Hid.mk' hb
    clear hb
    go_wp2_with fail
    refine (fix_in m 8 _ (by omega) (by omega)).mono ?_
    rintro e w6 ⟨rfl, hb⟩
    have HB6 := Hid.mk' (HB5.out.trans (hb.mono HB5.out.size))
    clear hb hex hey hfx hfy hzx hzy hfar
    rcases Nat.lt_trichotomy n m with h | h | h
    · have t1 : decide (n < m) = true := decide_eq_true h
      have hlen := hmono.out (by omega)
      have hL := putB_len10 m hm
      have hne : (putB n == putB m) = false := by rw [beq_eq_false_iff_ne]; intro e; have := hinj.out e; omega
      have hnm : ((n : Int) == (m : Int)) = false := by rw [beq_eq_false_iff_ne]; omega
      rw [t1] at hless
      go_wp2_with fail
      refine (put_num _ _ hn).mono ?_
      rintro e w7 ⟨rfl, hb⟩
      have HB7 := Hid.mk' (HB6.out.trans (hb.mono HB6.out.size))
      clear hb
      go_wp2_with fail
      refine (put_num _ _ hm).mono ?_
      rintro e w8 ⟨rfl, hb⟩
      have HB8 := Hid.mk' (HB7.out.trans (hb.mono HB7.out.size))
      clear hb
      go_wp2_with fail
      refine (put_num _ _ hn).mono ?_
      rintro e w9 ⟨rfl, hb⟩
      have HB9 := Hid.mk' (HB8.out.trans (hb.mono HB8.out.size))
      clear hb
      go_wp2_with fail
      refine (put_num _ _ hm).mono ?_
      rintro e w10 ⟨rfl, hb⟩
      have HB10 := Hid.mk' (HB9.out.trans (hb.mono HB9.out.size))
      clear hb
      go_wp2_with fail
      go_ret
      exact ⟨rfl, HB10.out⟩
    · subst h
      have t1 : decide (n < n) = false := decide_eq_false (by omega)
      have hL := putB_len10 n hn
      rw [t1] at hless
      go_wp2_with fail
      refine (put_num _ _ hn).mono ?_
      rintro e w7 ⟨rfl, hb⟩
      have HB7 := Hid.mk' (HB6.out.trans (hb.mono HB6.out.size))
      clear hb
      go_wp2_with fail
      refine (put_num _ _ hn).mono ?_
      rintro e w8 ⟨rfl, hb⟩
      have HB8 := Hid.mk' (HB7.out.trans (hb.mono HB7.out.size))
      clear hb
      go_wp2_with fail
      refine (put_num _ _ hn).mono ?_
      rintro e w9 ⟨rfl, hb⟩
      have HB9 := Hid.mk' (HB8.out.trans (hb.mono HB8.out.size))
      clear hb
      go_wp2_with fail
      refine (put_num _ _ hn).mono ?_
      rintro e w10 ⟨rfl, hb⟩
      have HB10 := Hid.mk' (HB9.out.trans (hb.mono HB9.out.size))
      clear hb
      go_wp2_with fail
      go_ret
      exact ⟨rfl, HB10.out⟩
    · have t1 : decide (n < m) = false := decide_eq_false (by omega)
      have hne : (putB n == putB m) = false := by rw [beq_eq_false_iff_ne]; intro e; have := hinj.out e; omega
      have hnm : ((n : Int) == (m : Int)) = false := by rw [beq_eq_false_iff_ne]; omega
      rw [t1] at hless
      go_wp2_with fail
      refine (put_num _ _ hn).mono ?_
      rintro e w7 ⟨rfl, hb⟩
      have HB7 := Hid.mk' (HB6.out.trans (hb.mono HB6.out.size))
      clear hb
      go_wp2_with fail
      refine (put_num _ _ hm).mono ?_
      rintro e w8 ⟨rfl, hb⟩
      have HB8 := Hid.mk' (HB7.out.trans (hb.mono HB7.out.size))
      clear hb
      go_wp2_with fail
      go_ret
      exact ⟨rfl, HB8.out⟩
end Go.Proofs.Yticigfleieeooaa
