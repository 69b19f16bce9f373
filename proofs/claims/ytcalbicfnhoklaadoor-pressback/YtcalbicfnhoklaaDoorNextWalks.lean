import Derived.Test.YtcalbicfnhoklaaDoorMsaj
import Derived.Test.YtcalbicfnhoklaaDoorMsah
import Derived.Deep.QuietTactic
import Derived.BigQuiet

/- What code.book's next answers. -/
namespace Go.Proofs.YtcalbicfnhoklaaDoor
open Go.RowKit

/-- where one stands behind it -/
def nxA (at' : Nat) (r : Nat × Nat × Int) : Nat := if r.2.2 = 0 then at' + r.2.1 else 0
theorem drewN_addN (w : World) (q r : Nat) : (w.drewN q).drewN r = w.drewN (q + r) := by simp [World.drewN, Nat.add_assoc]
theorem bit_of (s : ByteArray) (a n q o : Nat) (hq : (a + n) / 8 = q) (ho : (a + n) % 8 = o) (hl : q < s.size) : txtN s.data.toList / 2 ^ a / 2 ^ n % 2 = s[q].toNat / 2 ^ o % 2 := by
  rw [Nat.div_div_eq_div_mul, ← Nat.pow_add, show a + n = 8 * q + o by omega, bit_txt _ _ _ (by omega), byte_at s q hl]
theorem u8_and1 (b : UInt8) (o : Nat) : bits .and .u8 ((b.toNat : Int) / 2 ^ o) 1 = ((b.toNat / 2 ^ o % 2 : Nat) : Int) := by
  have hb := b.toNat_lt
  have hle := Nat.div_le_self b.toNat (2 ^ o)
  rw [show (b.toNat : Int) / 2 ^ o = ((b.toNat / 2 ^ o : Nat) : Int) by simp]
  generalize b.toNat / 2 ^ o = x at *
  have e : (BitVec.ofInt 8 (x : Int) &&& BitVec.ofInt 8 1).toNat = x % 2 := by
    rw [BitVec.toNat_and, BitVec.ofInt_natCast, BitVec.toNat_ofNat, Nat.mod_eq_of_lt (by omega), show (BitVec.ofInt 8 1).toNat = 1 by decide, Nat.and_one_is_mod]
  show IntKind.u8.wrap ((BitVec.ofInt 8 (x : Int) &&& BitVec.ofInt 8 1).toNat : Nat) = _
  rw [e, IntKind.wrap_u8]
  omega
theorem i64_or_bit (v b : Nat) (hv : v ≤ 1000000) (hb : b < 2) : bits .or .i64 ((v : Int) * 2) (b : Int) = ((2 * v + b : Nat) : Int) := by
  have e : (BitVec.ofInt 64 ((v : Int) * 2) ||| BitVec.ofInt 64 (b : Int)).toNat = 2 * v + b := by
    rw [show (v : Int) * 2 = ((2 * v : Nat) : Int) by omega, BitVec.toNat_or, BitVec.ofInt_natCast, BitVec.ofInt_natCast, BitVec.toNat_ofNat, BitVec.toNat_ofNat, Nat.mod_eq_of_lt (by omega), Nat.mod_eq_of_lt (by omega), or_even v b hb]
  show IntKind.i64.wrap ((BitVec.ofInt 64 ((v : Int) * 2) ||| BitVec.ofInt 64 (b : Int)).toNat : Nat) = _
  rw [e, IntKind.wrap_i64]
  omega

set_option maxRecDepth 20000 in
set_option maxHeartbeats 1000000 in
theorem bnext_any (g : Nat) (L : Nat → Int) (len : Nat) (s : ByteArray) (at' : Nat) (w : World) (hE : canE L len = 0) (hB : BookOf w g L len) (hs : s.size ≤ 140737488363520) (hat : at' ≤ 8 * s.size) (r : Nat × Nat × Int) (hr : sgnS L len (txtN s.data.toList / 2 ^ at') (8 * s.size - at') 16 0 = r) :
    Calls Tryd.prog 80 #[.pointer (some ⟨g, 0, none⟩), .string s, .int .i64 (at' : Int)] w fun e w' => e = .returned (.tuple #[.int .i64 (r.1 : Nat), .int .i64 (nxA at' r : Nat), .int .i64 r.2.2]) ∧ ∃ q, w' = w.drewN q := by
  obtain ⟨h320, hg, hF, _⟩ := canE_ok hE
  have HG := Hid.mk' hg
  have HB := Hid.mk' hB
  have HR := Hid.mk' hr
  obtain ⟨X, hX⟩ : ∃ X, Hid (txtN s.data.toList / 2 ^ at' = X) := ⟨_, Hid.mk' rfl⟩
  obtain ⟨m, hm⟩ : ∃ m, Hid (8 * s.size - at' = m) := ⟨_, Hid.mk' rfl⟩
  rw [hX.out, hm.out] at HR
  have cT := hB.c0
  have HF := Hid.mk' hF
  obtain ⟨tk0, htk⟩ : ∃ t, Hid (fillN L len = t) := ⟨_, Hid.mk' rfl⟩
  rw [htk.out] at cT hF
  clear hg hB hr hE
  go_enter Tryd.func80, Tryd.ntmps80
  go_wp2_with fail
  go_loopw [2, 9, 10] (fun a v n wr => ∃ n' q : Nat, n' ≤ 15 ∧ n' ≤ m ∧ a = .int .i64 ((at' + n' : Nat) : Int) ∧ v = .int .i64 (rv X n' : Nat) ∧ n = .int .i64 (n' : Int) ∧ (∀ j, j < n' → hitS L len j (rv X j) = none) ∧ sgnS L len X m (16 - n') n' = r ∧ wr = w.drewN q) (fun _ _ n _ => 16 - (intOf n).toNat)
  case atStart => exact ⟨0, 0, by omega, by omega, rfl, rfl, rfl, fun j hj => by omega, HR.out, rfl⟩
  case round =>
    clear HR
    obtain ⟨n, qd, hn15, hnm, rfl, rfl, rfl, hno, hsg, rfl⟩ := hrel
    have HN := Hid.mk' hno
    have HS := Hid.mk' hsg
    clear hno hsg
    obtain ⟨f, hf⟩ : ∃ f, 16 - n = f + 1 := ⟨15 - n, by omega⟩
    rw [hf, sgnS] at HS
    have hvlt := rv_lt X n
    have hv15 : 2 ^ n ≤ 32768 := Nat.le_trans (Nat.pow_le_pow_right (by decide) hn15) (by decide)
    obtain ⟨v, hv⟩ : ∃ v, Hid (rv X n = v) := ⟨_, Hid.mk' rfl⟩
    obtain ⟨A, hA⟩ : ∃ A, Hid (at' + n = A) := ⟨_, Hid.mk' rfl⟩
    rw [hv.out] at hvlt HS ⊢
    rw [hA.out]
    have hAb : A ≤ 8 * s.size := by have h1 := hm.out; have h2 := hA.out; omega
    have hvb : v < 32768 := by omega
    have c1 : (w.drewN qd).cell? ⟨g, 1 + n, none⟩ = _ := HB.out.c1 n hn15
    obtain ⟨ao, cp, hc2, hrow⟩ := HB.out.c2 n hn15
    have c2 : (w.drewN qd).cell? ⟨g, 17 + n, none⟩ = _ := hc2
    have c0 : (w.drewN qd).cell? ⟨g, 0, none⟩ = _ := cT
    have HROW := Hid.mk' hrow
    have hfl := fstC_le L len n len hn15 HF.out
    have hsl : (sgsL L n len).length ≤ 320 := by
      rcases Nat.eq_zero_or_pos n with h0 | h0
      · rw [h0, sgsL_zero]; simp
      · rw [sgsL_cnt L n len h0]; have := cnt_le L n len; omega
    have hHit := Hid.mk' (fun h1 h2 => hit_book HG.out n v hn15 h1 h2)
    have hNot := Hid.mk' (fun h => hit_not (W := L) (len := len) n v h)
    obtain ⟨fc, hfc⟩ : ∃ t, Hid (fstC L len n len = t) := ⟨_, Hid.mk' rfl⟩
    obtain ⟨sl, hsl2⟩ : ∃ t, Hid ((sgsL L n len).length = t) := ⟨_, Hid.mk' rfl⟩
    rw [hfc.out] at c1 hfl hHit hNot
    rw [hsl2.out] at c2 hsl HROW hHit hNot
    have n0 : (0 : Int) ≤ (n : Int) := by omega
    have n1 : (n : Int) < 16 := by omega
    clear hc2 hrow hvlt hv15
    by_cases h1 : fc ≤ v ∧ v - fc < sl
    · obtain ⟨i, hi1, hi2, hi3⟩ := hHit.out h1.1 h1.2
      obtain ⟨b, off, rfl, hb, hcc⟩ := HROW.out (by omega)
      obtain ⟨j, hj⟩ : ∃ j, Hid (v - fc = j) := ⟨_, Hid.mk' rfl⟩
      have hjz : (v : Int) - (fc : Int) = (j : Int) := by have := hj.out; omega
      have hjl : j < sl := by have := hj.out; omega
      rw [hj.out] at hi1
      have c3 : (w.drewN qd).cell? ⟨b, off + j, none⟩ = _ := hcc j i hi1
      have hrr : Hid (r = (i, n, 0)) := by have := HS.out; rw [hi2] at this; exact this.symm
      have t0 : decide ((0 : Int) ≤ (j : Int)) = true := decide_eq_true (by omega)
      have t1 : decide (j < sl) = true := decide_eq_true hjl
      clear hcc hi1 hi2
      go_wp2_with fail
      go_ret3
      refine ⟨?_, qd, rfl⟩
      rw [hrr.out, ← hA.out]; rfl
    · have hnone := hNot.out h1
      have HNone : Hid (∀ j, j ≤ n → hitS L len j (rv X j) = none) := by
        intro j hj
        by_cases e : j = n
        · rw [e, hv.out]; exact hnone
        · exact HN.out j (by omega)
      have hmb := Hid.mk' (more_book HG.out X n hn15 HNone.out)
      rw [hv.out, htk.out] at hmb
      have HS2 : Hid ((if moreS L len n v = true then (if n = m then (0, 0, 3) else sgnS L len X m f (n + 1)) else (0, 0, 7)) = r) := by
        have := HS.out; rw [hnone] at this; exact this
      clear hnone
      obtain ⟨d, hd⟩ : ∃ d, Hid (15 - n = d) := ⟨_, Hid.mk' rfl⟩
      have hdz : (15 : Int) - (n : Int) = (d : Int) := by have := hd.out; omega
      have hd15 : d ≤ 15 := by have := hd.out; omega
      rw [hd.out] at hmb
      obtain ⟨p, hp⟩ : ∃ p, Hid (v * 2 ^ d = p) := ⟨_, Hid.mk' rfl⟩
      have hpz : (v : Int) * 2 ^ d = (p : Int) := by rw [← hp.out]; push_cast; rfl
      have hpb : p ≤ 1073741824 := by
        rw [← hp.out]
        have h2 : 2 ^ d ≤ 2 ^ 15 := Nat.pow_le_pow_right (by decide) hd15
        exact Nat.le_trans (Nat.mul_le_mul (Nat.le_of_lt hvb) h2) (by decide)
      rw [hp.out] at hmb
      obtain ⟨W2, hW2⟩ : ∃ W2, Hid (w.drewN qd = W2) := ⟨_, Hid.mk' rfl⟩
      rw [hW2.out] at c0 c1 c2 ⊢
      have fin7 : Hid (moreS L len n v = false → r = (0, 0, 7)) := by intro h; have := HS2.out; rw [h] at this; exact this.symm
      have fin3 : Hid (moreS L len n v = true → n = m → r = (0, 0, 3)) := by intro h h2; have := HS2.out; rw [h, if_pos rfl, if_pos h2] at this; exact this.symm
      have nxt : Hid (moreS L len n v = true → n ≠ m → n < 15 ∧ sgnS L len X m (16 - (n + 1)) (n + 1) = r) := by
        intro h h2
        refine ⟨?_, ?_⟩
        · obtain ⟨i, k1, k2, _⟩ := more_of h
          have := len_of (HG.out i k1)
          omega
        · have := HS2.out
          rw [h, if_pos rfl, if_neg h2] at this
          rw [show 16 - (n + 1) = f by omega]; exact this
      by_cases h2 : fc ≤ v
      case' pos =>
        obtain ⟨j, hj⟩ : ∃ j, Hid (v - fc = j) := ⟨_, Hid.mk' rfl⟩
        have hjz : (v : Int) - (fc : Int) = (j : Int) := by have := hj.out; omega
        have t0 : decide ((0 : Int) ≤ (j : Int)) = true := decide_eq_true (by omega)
        have t1 : decide (j < sl) = false := decide_eq_false (by have := hj.out; omega)
        have hjb : j ≤ 100000 := by have := hj.out; omega
      case' neg =>
        obtain ⟨z, hjz⟩ : ∃ z : Int, (v : Int) - (fc : Int) = z := ⟨_, rfl⟩
        have t0 : decide ((0 : Int) ≤ z) = false := decide_eq_false (by omega)
        have hzb : -100000 ≤ z ∧ z < 0 := by omega
      all_goals
        clear h1 h2
        by_cases hmo : tk0 ≤ p
        · have hr7 := Hid.mk' (fin7.out (by rw [hmb.out]; exact decide_eq_false (by omega)))
          have t2 : decide (tk0 ≤ p) = true := decide_eq_true hmo
          go_wp2_with fail
          go_quiet (fail)
          go_wp2_with fail
          go_ret3
          refine ⟨?_, qd + nq, by rw [← hW2.out, drewN_addN]⟩
          rw [hr7.out]; rfl
        · have hmt := Hid.mk' (show moreS L len n v = true by rw [hmb.out]; exact decide_eq_true (by omega))
          have t2 : decide (tk0 ≤ p) = false := decide_eq_false hmo
          by_cases hend : A = 8 * s.size
          · have hr3 := Hid.mk' (fin3.out hmt.out (by have h1 := hm.out; have h2 := hA.out; omega))
            have t3 : ((A : Int) == 8 * (s.size : Int)) = true := by rw [beq_iff_eq]; omega
            clear hend
            go_wp2_with fail
            go_quiet (fail)
            go_wp2_with fail
            go_ret3
            refine ⟨?_, qd + nq, by rw [← hW2.out, drewN_addN]⟩
            rw [hr3.out]; rfl
          · have hnx := Hid.mk' (nxt.out hmt.out (by intro e; have h1 := hm.out; have h2 := hA.out; omega))
            have t3 : ((A : Int) == 8 * (s.size : Int)) = false := by rw [beq_eq_false_iff_ne]; omega
            have hAl : A < 8 * s.size := by omega
            clear hend
            obtain ⟨q8, eq8⟩ : ∃ q, Hid (A / 8 = q) := ⟨_, Hid.mk' rfl⟩
            obtain ⟨o8, eo8⟩ : ∃ o, Hid (A % 8 = o) := ⟨_, Hid.mk' rfl⟩
            have hq : (A : Int) / 8 = (q8 : Int) := by have := eq8.out; omega
            have hr8 : (A : Int) % 8 = (o8 : Int) := by have := eo8.out; omega
            have hxl : q8 < s.size := by have := eq8.out; omega
            have hol : o8 < 8 := by have := eo8.out; omega
            have hand := u8_and1 s[q8] o8
            have hbit := Hid.mk' (bit_of s at' n q8 o8 (by rw [hA.out]; exact eq8.out) (by rw [hA.out]; exact eo8.out) hxl)
            rw [hX.out] at hbit
            have hbl : s[q8].toNat / 2 ^ o8 % 2 < 2 := Nat.mod_lt _ (by decide)
            obtain ⟨b, hb⟩ : ∃ b, Hid (s[q8].toNat / 2 ^ o8 % 2 = b) := ⟨_, Hid.mk' rfl⟩
            rw [hb.out] at hand hbit hbl
            have hor := i64_or_bit v b (by omega) hbl
            have hstep : Hid (rv X (n + 1) = 2 * v + b) := by show _ = _; rw [rv, hv.out, hbit.out]
            go_wp2_with fail
            go_quiet (fail)
            go_wp2_with fail
            go_roundw
            case rel => exact ⟨n + 1, qd + nq, by have := hnx.out.1; omega, by have h1 := hm.out; have h2 := hA.out; omega, by exact int_eq (by have := hA.out; omega), by rw [hstep.out]; rfl, by go_num, fun j hj => HNone.out j (by omega), hnx.out.2, by rw [← hW2.out, drewN_addN]⟩
            case measure => have := hnx.out.1; simp [intOf]; omega
end Go.Proofs.YtcalbicfnhoklaaDoor
