/- The law CodeWrites, walked. -/
import Derived.Test.YtpcfakbhmcjnfaaWriteWalks
import Derived.Test.YtpcfakbhmcjnfaaRCodeWriteWalks
import Derived.Test.YtpcfakbhmcjnfaaRNumberWalks
import Derived.Test.YtpcfakbhmcjnfaaBackMath
import Derived.Deep.QuietTactic
import Derived.BigQuiet
namespace Go.Proofs.Ytpcfakbhmcjnfaa
open Go.RowKit

theorem get_packN (V : Nat → Nat) (W : Nat → Int) (k j : Nat) (h : ∀ i, i < k → errP (V i) (W i) = 0) (hj : j < k) : getN (packN V W k) (widSum W j) (W j).toNat = V j := by
  have hv := (ok_wid _ _ (h j hj)).2.2
  apply Nat.eq_of_testBit_eq
  intro t
  unfold getN
  rw [Nat.testBit_mod_two_pow, Nat.testBit_div_two_pow]
  by_cases ht : t < (W j).toNat
  · rw [Nat.add_comm, packN_bit V W k j t h hj ht]
    simp [ht]
  · simp only [ht, decide_false, Bool.false_and]
    exact (Nat.testBit_lt_two_pow (Nat.lt_of_lt_of_le hv (Nat.pow_le_pow_right (by decide) (by omega)))).symm
theorem bv_below {w w' : World} {v : Value} {X a rem : Nat} (h : BV w v X a rem) (hb : Below w.heap.size w w') : BV w' v X a rem := by
  obtain ⟨ao, cap, rfl, h1, h2⟩ := h.is
  refine ⟨ao, cap, rfl, h1, fun hp => ?_⟩
  obtain ⟨g, off, e, hg, hc⟩ := h2 hp
  exact ⟨g, off, e, Nat.lt_of_lt_of_le hg hb.size, fun i hi => (hb.cell (p := ⟨g, off + i, none⟩) hg).trans (hc i hi)⟩

theorem drewN_addC (w : World) (q r : Nat) : (w.drewN q).drewN r = w.drewN (q + r) := by simp [World.drewN, Nat.add_assoc]
theorem below_drewNC {B : Nat} {a w : World} (h : Below B a w) (q : Nat) : Below B a (w.drewN q) := ⟨h.os, h.tape, h.output, h.size, h.block⟩
set_option maxRecDepth 20000 in
set_option maxHeartbeats 1000000 in
theorem codeWrites_at (a0 : Option Addr) (len cap : Nat) (L : Nat → Int) (a1 : Option Addr) (n cap1 : Nat) (S : Nat → Int) (w : World) (hP : Wds w a0 len L) (hQ : Wds w a1 n S) (hn : n ≤ 1048576) :
    Calls Try.prog 5 #[.slice a0 len cap, .slice a1 n cap1] w fun e w' => e = .returned (.bool true) ∧ Below w.heap.size w w' := by
  have HP := Hid.mk' hP
  have HQ := Hid.mk' hQ
  clear hP hQ
  have HER := Hid.mk' (fun h i hi => wr_err (L := L) (len := len) (S := S) (n := n) h i hi)
  have hLn : Hid (wrE L len S n ≠ 0 → wrL L len S n = 0) := by intro h; unfold wrL; rw [if_neg h]
  have hLm : Hid (wrE L len S n = 0 → wrL L len S n = n) := by intro h; unfold wrL; rw [if_pos h]
  obtain ⟨E, hE⟩ : ∃ t, Hid (wrE L len S n = t) := ⟨_, Hid.mk' rfl⟩
  obtain ⟨m, hm⟩ : ∃ t, Hid (wrL L len S n = t) := ⟨_, Hid.mk' rfl⟩
  have HV : Hid (∀ i, i < m → errP (wrV L len S i) (wrW L S i) = 0) := by
    intro i hi
    by_cases h0 : wrE L len S n = 0
    · have := hLm.out h0; exact HER.out h0 i (by have := hm.out; omega)
    · have := hLn.out h0; have := hm.out; omega
  have hmn : m ≤ n := by rw [← hm.out]; unfold wrL; split <;> omega
  obtain ⟨V, hV⟩ : ∃ t, Hid (wrV L len S = t) := ⟨_, Hid.mk' rfl⟩
  obtain ⟨W, hW⟩ : ∃ t, Hid (wrW L S = t) := ⟨_, Hid.mk' rfl⟩
  rw [hV.out, hW.out] at HV
  have t0 : (E != E) = false := by simp
  have t1 : ((m : Int) != (m : Int)) = false := by simp
  go_enter Try.func5, Try.ntmps5
  go_wp2_with fail
  refine (write_any a0 len cap L a1 n cap1 S _ HP.out HQ.out).mono ?_
  rintro e w1 ⟨⟨ao, co, rfl, _, hp⟩, hb⟩
  rw [hm.out, hV.out, hW.out] at hp
  rw [hm.out, hE.out]
  have HB1 := Hid.mk' hb
  have HPP := Hid.mk' hp
  have HP1 := Hid.mk' (wds_below HP.out hb)
  have HQ1 := Hid.mk' (wds_below HQ.out hb)
  clear hp hb
  go_wp2_with fail
  refine (rcodewrite_any a0 len cap L a1 n cap1 S _ HP1.out HQ1.out hn).mono ?_
  rintro e w2 ⟨⟨bv, uv, rfl, hbv, hu⟩, hb⟩
  rw [hm.out, hV.out, hW.out] at hbv
  rw [hm.out, hW.out] at hu
  rw [hE.out]
  obtain ⟨ua, uc, rfl, hu2⟩ := hu.is
  have HU := Hid.mk' hu2
  have HBV := Hid.mk' hbv
  have HB2 := Hid.mk' (HB1.out.trans (hb.mono HB1.out.size))
  have HPQ := Hid.mk' (pcs_below HPP.out hb)
  clear hbv hu hu2 hb
  go_wp2_with fail
  go_loopw [7, 36] (fun bv i wr => ∃ k q : Nat, k ≤ m ∧ i = .int .i64 k ∧ BV w2 bv (packN V W m) (widSum W k) (widSum W m - widSum W k) ∧ wr = w2.drewN q) (fun _ i _ => m - (intOf i).toNat)
  case atStart => exact ⟨0, 0, Nat.zero_le _, rfl, HBV.out, rfl⟩
  case round =>
    obtain ⟨k, qd, hk, rfl, hbv, rfl⟩ := hrel
    by_cases hlt : k < m
    · obtain ⟨b0, off0, rfl, hb0, hc0⟩ := HPQ.out.at' (by omega)
      have c0 : (w2.drewN qd).cell? ⟨b0, off0 + k * 2, none⟩ = _ := (hc0 k hlt).1
      have c1 : (w2.drewN qd).cell? ⟨b0, off0 + k * 2 + 1, none⟩ = _ := (hc0 k hlt).2
      clear hc0
      obtain ⟨gu, ou, rfl, hgu, hcu⟩ := HU.out (by omega)
      have c2 : (w2.drewN qd).cell? ⟨gu, ou + k, none⟩ = _ := hcu k hlt
      clear hcu
      obtain ⟨h1, h2, h3⟩ := ok_wid _ _ (HV.out k hlt)
      obtain ⟨y, hy⟩ : ∃ y : Nat, W k = y := ⟨(W k).toNat, by omega⟩
      have hy64 : y ≤ 64 := by omega
      have hget := Hid.mk' (get_packN V W m k HV.out hlt)
      have hsum : Hid (widSum W (k + 1) = widSum W k + y) := by show _ = _; rw [widSum, hy]; rfl
      have hmo := widSum_mono W (k + 1) (m - (k + 1))
      rw [show k + 1 + (m - (k + 1)) = m by omega, hsum.out] at hmo
      rw [hy] at c1 c2 hget
      have hget2 : Hid (getN (packN V W m) (widSum W k) y = V k) := by have := hget.out; rwa [Int.toNat_natCast] at this
      clear hy h1 h2 h3 hget
      obtain ⟨rem, er⟩ : ∃ rem, Hid (widSum W m - widSum W k = rem) := ⟨_, Hid.mk' rfl⟩
      rw [er.out] at hbv
      have hrem : y ≤ rem := by have := er.out; omega
      obtain ⟨bo, bc, rfl, hbc, hcells⟩ := hbv.is
      have HC := Hid.mk' hcells
      have hnx : Hid (BV w2 (.slice (if bc = y then bo else bo.map (·.add y)) (rem - y) (bc - y)) (packN V W m) (widSum W (k + 1)) (widSum W m - widSum W (k + 1))) := by
        rw [hsum.out, show widSum W m - (widSum W k + y) = rem - y by have := er.out; omega]
        exact bv_next hrem hbc hcells
      have hvb := HPQ.out.vB k hlt
      obtain ⟨x, hx⟩ : ∃ x, Hid (V k = x) := ⟨_, Hid.mk' rfl⟩
      rw [hx.out] at c0 hvb hget2
      have t2 : ((y : Int) != (y : Int)) = false := by simp
      have t3 : ((x : Int) != (x : Int)) = false := by simp
      clear hbv hcells hmo
      have hnum : ∀ q : Nat, Calls Try.prog 18 #[.slice bo y bc] (w2.drewN q) fun e w' => e = .returned (.int .u64 (x : Int)) ∧ w' = w2.drewN q := fun q => by
        rw [← hget2.out]
        refine rnumber_any bo y bc (packN V W m) (widSum W k) _ hy64 fun hp => ?_
        obtain ⟨g, o, hbo, hg, hcc⟩ := HC.out (by omega)
        exact ⟨g, o, hbo, fun i hi => hcc i (by omega)⟩
      have HNUM := Hid.mk' hnum
      clear hnum
      obtain ⟨W2, hW2⟩ : ∃ W2, Hid (w2.drewN qd = W2) := ⟨_, Hid.mk' rfl⟩
      have HNUM2 : Hid (∀ q : Nat, Calls Try.prog 18 #[.slice bo y bc] (W2.drewN q) fun e w' => e = .returned (.int .u64 (x : Int)) ∧ w' = W2.drewN q) := by
        intro q
        rw [← hW2.out, drewN_addC]
        exact HNUM.out _
      rw [hW2.out] at c0 c1 c2 ⊢
      go_wp2_with fail
      go_quiet ((go_at_call 18; refine (HNUM2.out _).mono ?_; rintro e w' ⟨rfl, rfl⟩; exact ⟨rfl, _, rfl⟩))
      go_wp2_with fail
      go_roundw
      case rel => exact ⟨k + 1, _, by omega, by go_num, hnx.out, by rw [← hW2.out, drewN_addC]⟩
      case measure => simp [intOf]; omega
    · go_wp2_with fail
      go_ret
      exact ⟨rfl, below_drewNC HB2.out qd⟩
theorem codeWrites_walk (a0 : Option Addr) (len cap : Nat) (X : Nat → Int) (a1 : Option Addr) (n cap1 : Nat) (S : Nat → Int) (w : World) (w0 : Wds w a0 len X) (_b0 : len ≤ 1048576) (w1 : Wds w a1 n S) (b1 : n ≤ 1048576) :
    Calls Try.prog 5 #[.slice a0 len cap, .slice a1 n cap1] w fun e w' => e = .returned (.bool true) ∧ Below w.heap.size w w' :=
  codeWrites_at a0 len cap X a1 n cap1 S w w0 w1 b1
end Go.Proofs.Ytpcfakbhmcjnfaa
