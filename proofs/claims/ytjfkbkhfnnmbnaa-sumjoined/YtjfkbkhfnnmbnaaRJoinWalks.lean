/- What linenref's product and Join answer. -/
import Derived.Test.YtjfkbkhfnnmbnaaRSumTurn
import Derived.Test.YtjfkbkhfnnmbnaaProductMath
namespace Go.Proofs.Ytjfkbkhfnnmbnaa
open Go.RowKit

set_option maxHeartbeats 400000 in
theorem product_any (a b : BitVec 32) (w : World) :
    Calls Try.prog 30 #[.int .u32 (B a), .int .u32 (B b)] w fun e w' => e = .returned (.int .u32 (B (prodTo a b 32))) ∧ w' = w := by
  go_enter Try.func30, Try.ntmps30
  go_wp2
  go_loop [5, 6] (fun x i => ∃ k : Nat, k ≤ 32 ∧ i = .int .i64 (31 - (k : Int)) ∧ x = .int .u32 (B (prodTo a b k))) (fun _ i => (intOf i + 1).toNat)
  case atStart => exact ⟨0, Nat.zero_le _, rfl, rfl⟩
  case round =>
    obtain ⟨k, hk, rfl, rfl⟩ := hrel
    by_cases hlt : k < 32
    · have ht := bit_of b (31 - k)
      have hxo := xorB (tms (prodTo a b k)) a
      have hsub : (31 - (k : Int)) = ((31 - k : Nat) : Int) := by omega
      cases hb : b.getLsbD (31 - k) with
      | true =>
        have hs := Hid.mk' (show prodTo a b (k + 1) = tms (prodTo a b k) ^^^ a by rw [prodTo, if_pos hb])
        rw [hb] at ht
        clear hb
        go_wp2_with fail
        refine (times_any _ _).mono ?_
        rintro e w' ⟨rfl, rfl⟩
        go_wp2_with fail
        go_round
        case rel => exact ⟨k + 1, by omega, int_eq (by omega), by rw [hs.out]⟩
        case measure => simp [intOf]; omega
      | false =>
        have hs := Hid.mk' (show prodTo a b (k + 1) = tms (prodTo a b k) by rw [prodTo, hb, if_neg (by decide)])
        rw [hb] at ht
        clear hb
        go_wp2_with fail
        refine (times_any _ _).mono ?_
        rintro e w' ⟨rfl, rfl⟩
        go_wp2_with fail
        go_round
        case rel => exact ⟨k + 1, by omega, int_eq (by omega), by rw [hs.out]⟩
        case measure => simp [intOf]; omega
    · go_wp2_with fail
      go_ret
      exact ⟨ret_int (by rw [show k = 32 by omega]), rfl⟩

set_option maxHeartbeats 400000 in
theorem rjoin_in (a b : BitVec 32) (n : Nat) (w : World) (hn : n < 9223372036854775808) :
    Calls Try.prog 16 #[.int .u32 (B a), .int .u32 (B b), .int .i64 n] w fun e w' => e = .returned (.int .u32 (B (stps (8 * n) a ^^^ b))) ∧ w' = w := by
  go_enter Try.func16, Try.ntmps16
  go_wp2_with fail
  refine (turn_any _ _).mono ?_
  rintro e w' ⟨rfl, rfl⟩
  go_wp2_with fail
  go_loop [2, 7, 8] (fun i x p => ∃ j : Nat, i = .int .i64 (n / 2 ^ j : Nat) ∧ x = .int .u32 (B (tmss (8 * (n % 2 ^ j)) (revB a))) ∧ p = .int .u32 (B (tmss (8 * 2 ^ j) 1#32))) (fun i _ _ => (intOf i).toNat)
  case atStart => exact ⟨0, by simp, by simp [Nat.mod_one, tmss], by rw [pow_bit _ (by decide)]; rfl⟩
  case round =>
    obtain ⟨j, rfl, rfl, rfl⟩ := hrel
    have hql : n / 2 ^ j < 9223372036854775808 := Nat.lt_of_le_of_lt (Nat.div_le_self _ _) hn
    have hn1 := Hid.mk' (mod_next n j)
    have hD := Hid.mk' (div_next n j)
    have hsq := Hid.mk' (square (8 * 2 ^ j))
    have hra := Hid.mk' (raise (8 * 2 ^ j) (tmss (8 * (n % 2 ^ j)) (revB a)))
    have hE := Hid.mk' (fun h => join_all n j a h)
    have hrv := Hid.mk' (tmss_rev (8 * (n % 2 ^ j)) a)
    have hP : Hid (8 * 2 ^ j + 8 * 2 ^ j = 8 * 2 ^ (j + 1)) := by rw [Nat.pow_succ]; show _ = _; omega
    generalize n / 2 ^ j = q at *
    by_cases hpos : 0 < q
    · rcases Nat.mod_two_eq_zero_or_one q with hq2 | hq2
      · have hm : Hid (n % 2 ^ (j + 1) = n % 2 ^ j) := by rw [hn1.out, hq2]; show _ = _; omega
        have ht : ((q : Int) % 2 == 1) = false := by rw [beq_eq_false_iff_ne]; omega
        clear hq2
        go_wp2_with fail
        refine (product_any _ _ _).mono ?_
        rintro e w2 ⟨rfl, rfl⟩
        rw [hsq.out]
        go_wp2_with fail
        go_round
        case rel => exact ⟨j + 1, by rw [hD.out]; go_num, by rw [hm.out], by rw [hP.out]⟩
        case measure => simp [intOf]; omega
      · have hm : Hid (tmss (8 * 2 ^ j) (tmss (8 * (n % 2 ^ j)) (revB a)) = tmss (8 * (n % 2 ^ (j + 1))) (revB a)) := by
          rw [hn1.out, hq2, ← tmss_add]; show _ = _; congr 1; omega
        have ht : ((q : Int) % 2 == 1) = true := by rw [beq_iff_eq]; omega
        clear hq2
        go_wp2_with fail
        refine (product_any _ _ _).mono ?_
        rintro e w2 ⟨rfl, rfl⟩
        rw [hra.out, hm.out]
        go_wp2_with fail
        refine (product_any _ _ _).mono ?_
        rintro e w2 ⟨rfl, rfl⟩
        rw [hsq.out]
        go_wp2_with fail
        go_round
        case rel => exact ⟨j + 1, by rw [hD.out]; go_num, rfl, by rw [hP.out]⟩
        case measure => simp [intOf]; omega
    · have hx := xorB (stps (8 * (n % 2 ^ j)) a) b
      go_wp2_with fail
      refine (turn_any _ _).mono ?_
      rintro e w2 ⟨rfl, rfl⟩
      rw [hrv.out, revB_revB]
      go_wp2_with fail
      go_ret
      exact ⟨ret_int (by rw [hE.out (by omega)]), rfl⟩

set_option maxHeartbeats 400000 in
theorem rjoin_lo (a b : BitVec 32) (v : Int) (w : World) (_h1 : -9223372036854775808 ≤ v) (hv : v < 0) :
    Calls Try.prog 16 #[.int .u32 (B a), .int .u32 (B b), .int .i64 v] w fun e w' => e = .returned (.int .u32 (B (a ^^^ b))) ∧ w' = w := by
  have hx := xorB a b
  go_enter Try.func16, Try.ntmps16
  go_wp2_with fail
  refine (turn_any _ _).mono ?_
  rintro e w' ⟨rfl, rfl⟩
  go_wp2_with fail
  go_loop [2, 7, 8] (fun i x _ => i = .int .i64 v ∧ x = .int .u32 (B (revB a))) (fun _ _ _ => 0)
  case atStart => exact ⟨rfl, rfl⟩
  case round =>
    obtain ⟨rfl, rfl⟩ := hrel
    go_wp2_with fail
    refine (turn_any _ _).mono ?_
    rintro e w2 ⟨rfl, rfl⟩
    rw [revB_revB]
    go_wp2_with fail
    go_ret
    exact ⟨rfl, rfl⟩

theorem rjoin_any (a b : BitVec 32) (v : Int) (w : World) (h1 : -9223372036854775808 ≤ v) (h2 : v ≤ 9223372036854775807) :
    Calls Try.prog 16 #[.int .u32 (B a), .int .u32 (B b), .int .i64 v] w fun e w' => e = .returned (.int .u32 (B (stps (8 * v.toNat) a ^^^ b))) ∧ w' = w := by
  rcases (by omega : v < 0 ∨ 0 ≤ v) with h | h
  · rw [show v.toNat = 0 by omega]
    exact rjoin_lo a b v w h1 h
  · obtain ⟨n, rfl⟩ := Int.eq_ofNat_of_zero_le h
    rw [Int.toNat_natCast]
    exact rjoin_in a b n w (by omega)
end Go.Proofs.Ytjfkbkhfnnmbnaa
