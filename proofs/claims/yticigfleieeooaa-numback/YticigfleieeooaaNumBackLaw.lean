/- The law NumBack, walked. -/
import Derived.Test.YticigfleieeooaaGetWalks
import Derived.Test.YticigfleieeooaaNumPutWalks
import Derived.Test.YticigfleieeooaaNumBackMath
import Derived.Test.YticigfleieeooaaZagWalks
import Derived.Test.YticigfleieeooaaFixWalks
import Derived.Test.YticigfleieeooaaUnfixWalks
import Derived.SizedLaws
namespace Go.Proofs.Yticigfleieeooaa
open Go.RowKit

theorem cat_list (l : List UInt8) (s : ByteArray) : ((ByteArray.mk l.toArray) ++ s).data.toList = l ++ s.data.toList := by
  rw [ByteArray.data_append, Array.toList_append]
theorem unf_mod8 (n : Nat) (h : n < 18446744073709551616) : unfN (fixB n 8) = n := by
  rw [unfN_fixB]; exact Nat.mod_eq_of_lt (by omega)
theorem low_fix (n m : Nat) (hn : n < 18446744073709551616) (hm : m < 8) : bits .and .u64 (n : Int) (IntKind.u64.wrap (IntKind.u64.wrap (2 ^ (8 * m)) - 1)) = (unfN (fixB n m) : Nat) := by
  rw [low_and n (8 * m) hn (by omega), unfN_fixB, pow2_8]

theorem wrap64_bd (x : Int) : -9223372036854775808 ≤ wrap64 x ∧ wrap64 x ≤ 9223372036854775807 := by
  unfold wrap64; omega
set_option maxRecDepth 20000 in
set_option maxHeartbeats 800000 in
theorem numBack_walk (a0 : Int) (a1 : ByteArray) (a2 : Int) (w : World) (w0 : (Lit.int .u64 a0).wf = true) (_w1 : a1.size ≤ maxLen) (z1 : a1.data.toList.length ≤ reachBytes) (w2 : (Lit.int .i64 a2).wf = true) :
    Calls Try.prog 4 #[.int .u64 a0, .string a1, .int .i64 a2] w fun e w' => e = .returned (.bool true) ∧ Below w.heap.size w w' := by
  obtain ⟨n, rfl, hn⟩ := u64_nat w0
  obtain ⟨b1, b2⟩ := bounds_i64 w2
  have hsz : a1.size ≤ 140737488355328 := by
    have hr := reachBytes_lt
    have e : a1.data.toList.length = a1.size := by rw [Array.length_toList]; rfl
    omega
  have hL := putB_len10 n hn
  have hgp := get_put n hn a1.data.toList
  rw [← cat_list] at hgp
  have HG := Hid.mk' hgp
  have hzz := Hid.mk' (zig_zag n)
  clear hgp
  go_enter Try.func4, Try.ntmps4
  go_wp2_with fail
  refine (put_num _ _ hn).mono ?_
  rintro e w1 ⟨rfl, hb⟩
  have HB := Hid.mk' hb
  clear hb
  go_wp2_with fail
  refine (get_any _ _).mono ?_
  rintro e w2 ⟨rfl, rfl⟩
  rw [HG.out.1, HG.out.2.1, HG.out.2.2]
  go_wp2_with fail
  refine (put_num _ _ hn).mono ?_
  rintro e w3 ⟨rfl, hb⟩
  have HB2 := Hid.mk' (HB.out.trans (hb.mono HB.out.size))
  clear hb
  go_wp2_with fail
  refine (zag_any _ _ hn).mono ?_
  rintro e w4 ⟨rfl, rfl⟩
  have hzb := zag_bd n hn
  go_wp2_with fail
  refine (zig_any _ _ hzb.1 hzb.2).mono ?_
  rintro e w5 ⟨rfl, rfl⟩
  rw [hzz.out]
  clear hzb
  go_wp2_with fail
  have hwb := wrap64_bd (n : Int)
  generalize hey : wrap64 (n : Int) = y at *
  refine (zig_any _ _ hwb.1 hwb.2).mono ?_
  rintro e w6 ⟨rfl, rfl⟩
  have hzl := zig_lt y hwb.1 hwb.2
  go_wp2_with fail
  refine (zag_any _ _ hzl).mono ?_
  rintro e w7 ⟨rfl, rfl⟩
  rw [zag_zig]
  clear hzl hwb
  rcases (by omega : (a2 < 1 ∨ 8 < a2) ∨ (1 ≤ a2 ∧ a2 ≤ 8)) with hv | ⟨hv1, hv2⟩
  · go_wp2_with fail
    refine (fix_no _ _ _ hv).mono ?_
    rintro e w8 ⟨rfl, rfl⟩
    go_wp2_with fail
    refine (unfix_in _ _ (by decide)).mono ?_
    rintro e w9 ⟨rfl, rfl⟩
    rcases hv with hv | hv
    all_goals
      go_wp2_with fail
      go_ret
      exact ⟨rfl, HB2.out⟩
  · obtain ⟨m, rfl⟩ := Int.eq_ofNat_of_zero_le (show 0 ≤ a2 by omega)
    have hfl := fixB_length n m
    have HFL := Hid.mk' hfl
    go_wp2_with fail
    refine (fix_in _ m _ (by omega) (by omega)).mono ?_
    rintro e w8 ⟨rfl, hb⟩
    have HB3 := Hid.mk' (HB2.out.trans (hb.mono HB2.out.size))
    clear hb
    go_wp2_with fail
    refine (unfix_in _ _ (by show (fixB n m).toArray.size ≤ 8; rw [List.size_toArray, HFL.out]; omega)).mono ?_
    rintro e w9 ⟨rfl, rfl⟩
    have t1 : decide ((m : Int) < 1) = false := decide_eq_false (by omega)
    have t2 : decide ((8 : Int) < m) = false := decide_eq_false (by omega)
    by_cases h8 : m = 8
    · subst h8
      have hu := unf_mod8 n hn
      go_wp2_with fail
      go_ret
      exact ⟨rfl, HB3.out⟩
    · have hlo := low_fix n m hn (by omega)
      have t3 : ((m : Int) == 8) = false := by rw [beq_eq_false_iff_ne]; omega
      have t4 : (m : Int) < 8 := by omega
      go_wp2_with fail
      go_ret
      exact ⟨rfl, HB3.out⟩
end Go.Proofs.Yticigfleieeooaa
