/- What linenref's Bits, Number and Unpack answer. -/
import Derived.Test.YtjfkbkhfnnmbnaaUnpackWalks
import Derived.Test.YtjfkbkhfnnmbnaaGrow
namespace Go.Proofs.Ytjfkbkhfnnmbnaa
open Go.RowKit

theorem infoIntB : (Try.prog.info? 3).map (fun i => (i.zero, i.size, i.bytes)) = some (some (.int .i64 0), 1, 8) := by kernel_rfl
/-- the bits of a number, from bit a on -/
def bitsC (X k : Nat) : List Value := (List.range k).map fun i => .int .i64 ((X / 2 ^ i % 2 : Nat) : Int)
theorem bitsC_succ (X k : Nat) : bitsC X (k + 1) = bitsC X k ++ [.int .i64 ((X / 2 ^ k % 2 : Nat) : Int)] := by simp [bitsC, List.range_succ]
theorem two_bits (a b : Nat) (h : decide (a % 2 = 1) = decide (b % 2 = 1)) : a % 2 = b % 2 := by
  have h1 := Nat.mod_two_eq_zero_or_one a
  have h2 := Nat.mod_two_eq_zero_or_one b
  rcases h1 with h1 | h1 <;> rcases h2 with h2 | h2 <;> simp_all
theorem bit_txt (l : List UInt8) (j t : Nat) (ht : t < 8) : txtN l / 2 ^ (8 * j + t) % 2 = (l.getD j 0).toNat / 2 ^ t % 2 := by
  have h := txtN_bit l j t ht
  rw [Nat.testBit_eq_decide_div_mod_eq, Nat.testBit_eq_decide_div_mod_eq] at h
  exact two_bits _ _ h
theorem i64_and1' (q : Nat) (h : q < 9223372036854775808) : bits .and .i64 (q : Int) 1 = ((q % 2 : Nat) : Int) := by
  have e : (BitVec.ofInt 64 (q : Int) &&& BitVec.ofInt 64 1).toNat = q % 2 := by
    rw [BitVec.toNat_and, BitVec.ofInt_natCast, BitVec.toNat_ofNat, Nat.mod_eq_of_lt (by omega), show (BitVec.ofInt 64 1).toNat = 1 by decide, Nat.and_one_is_mod]
  show IntKind.i64.wrap ((BitVec.ofInt 64 (q : Int) &&& BitVec.ofInt 64 1).toNat : Nat) = _
  rw [e, IntKind.wrap_i64]
  omega
theorem bit_val (b : UInt8) (q : Nat) : bits .and .i64 (wrap64 ((b.toNat : Nat) : Int) / 2 ^ q) 1 = ((b.toNat / 2 ^ q % 2 : Nat) : Int) := by
  have hb := b.toNat_lt
  have e : wrap64 ((b.toNat : Nat) : Int) = ((b.toNat : Nat) : Int) := by
    unfold wrap64; omega
  have hle := Nat.div_le_self b.toNat (2 ^ q)
  rw [e, show ((b.toNat : Nat) : Int) / 2 ^ q = ((b.toNat / 2 ^ q : Nat) : Int) by simp, i64_and1' _ (by omega)]
theorem below_grow' {w wr w1 : World} {N k : Nat} {e : TypeId} {v : Value} {xs : List Value} {o : Obj} (hown : wr.ownsRow N e 1 v k xs) (hbl : Below N w wr) (hN : N ≤ wr.heap.size) (hg : (wr.alloc o).grownBy w1 v.ownBlock) : Below N w w1 :=
  (hbl.alloc hN o).grown hg (by simp; omega) fun j hj => (hown.lt j hj).1

set_option maxHeartbeats 400000 in
theorem rbits_any (s : ByteArray) (w : World) (hs : s.size ≤ 1048576) :
    Calls Try.prog 24 #[.string s] w fun e w' => (∃ v, e = .returned v ∧ w'.ownsRow w.heap.size 3 1 v (8 * s.size) (bitsC (txtN s.data.toList) (8 * s.size))) ∧ Below w.heap.size w w' := by
  obtain ⟨i0, hi, hz0, hz1, hz2⟩ := info_parts infoIntB
  have KI := Hid.mk' hi
  have KZ0 := Hid.mk' hz0
  have KZ1 := Hid.mk' hz1
  have KZ2 := Hid.mk' hz2
  clear hi hz0 hz1 hz2
  go_enter Try.func24, Try.ntmps24
  go_wp2_with fail
  go_loopw [3, 8] (fun bv i wr => ∃ k : Nat, k ≤ s.size ∧ i = .int .i64 k ∧ wr.ownsRow w.heap.size 3 1 bv (8 * k) (bitsC (txtN s.data.toList) (8 * k)) ∧ Below w.heap.size w wr) (fun _ i _ => s.size - (intOf i).toNat)
  case atStart => exact ⟨0, Nat.zero_le _, rfl, World.ownsRow_nil _ _ _ _, Below.refl _ _⟩
  case round =>
    obtain ⟨k, hk, rfl, hown, hbl⟩ := hrel
    have HO := Hid.mk' hown
    have HB := Hid.mk' hbl
    clear hown hbl
    by_cases hlt : k < s.size
    · have hby := Hid.mk' (byte_at s k hlt)
      go_wp2_with fail
      go_loopw [3, 11] (fun bv i wr => ∃ q : Nat, q ≤ 8 ∧ i = .int .i64 q ∧ wr.ownsRow w.heap.size 3 1 bv (8 * k + q) (bitsC (txtN s.data.toList) (8 * k + q)) ∧ Below w.heap.size w wr) (fun _ i _ => 8 - (intOf i).toNat)
      case atStart => exact ⟨0, Nat.zero_le _, rfl, HO.out, HB.out⟩
      case round =>
        obtain ⟨q, hq, rfl, hown, hbl⟩ := hrel
        have HO2 := Hid.mk' hown
        have HB2 := Hid.mk' hbl
        have hs2 := hbl.size
        clear hown hbl
        by_cases hlt2 : q < 8
        · have hv := bit_val s[k] q
          have hvx : Hid (txtN s.data.toList / 2 ^ (8 * k + q) % 2 = s[k].toNat / 2 ^ q % 2) := by show _ = _; rw [bit_txt _ _ _ hlt2, hby.out]
          generalize s[k].toNat / 2 ^ q % 2 = x at *
          go_wp2_with (at_builtin; refine wpList_append_own _ rfl (.tmp 14) (.tmp 22) 27 rfl w.heap.size 3 i0 (.int .i64 0) 1 8 Try.underlying27 KI.out KZ0.out KZ1.out KZ2.out rfl (by decide) u3 _ _ rfl (HO2.out.alloc _) ⟨wr.heap.size, 0, none⟩ 1 1 [.int .i64 (x : Int)] rfl rfl (cell_one_new _ _ _) (one_int _ _) (by unfold maxLen; omega) (by omega) (by simp; omega) ?_; intro v' w1 hown1 hgrow1 _)
          have HB4 := Hid.mk' (below_grow' HO2.out HB2.out hs2 hgrow1)
          have HO4 : Hid (w1.ownsRow w.heap.size 3 1 v' (8 * k + (q + 1)) (bitsC (txtN s.data.toList) (8 * k + (q + 1)))) := by
            rw [← Nat.add_assoc, bitsC_succ, hvx.out]; exact hown1
          clear hown1 hgrow1 hv
          go_wp2_with fail
          go_roundw
          case rel => exact ⟨q + 1, by omega, by go_num, HO4.out, HB4.out⟩
          case measure => simp [intOf]; omega
        · have HO5 : Hid (wr.ownsRow w.heap.size 3 1 u3 (8 * (k + 1)) (bitsC (txtN s.data.toList) (8 * (k + 1)))) := by
            rw [show 8 * (k + 1) = 8 * k + q by omega]; exact HO2.out
          go_wp2_with fail
          go_roundw
          case rel => exact ⟨k + 1, by omega, by go_num, HO5.out, HB2.out⟩
          case measure => simp [intOf]; omega
    · have hkl := Hid.mk' (show k = s.size by omega)
      go_wp2_with fail
      go_ret
      exact ⟨⟨_, rfl, by rw [← hkl.out]; exact HO.out⟩, HB.out⟩
theorem getN_step (X a m : Nat) : getN X a (m + 1) = 2 * getN X (a + 1) m + X / 2 ^ a % 2 := by
  unfold getN
  rw [Nat.pow_succ, Nat.mul_comm (2 ^ m) 2, Nat.mod_mul, Nat.pow_succ, Nat.div_div_eq_div_mul]
  omega
set_option maxHeartbeats 400000 in
theorem rnumber_any (ao : Option Addr) (wd cap : Nat) (X a : Nat) (w : World) (hwd : wd ≤ 64) (hc : 0 < wd → ∃ g off, ao = some ⟨g, off, none⟩ ∧ ∀ i, i < wd → w.cell? ⟨g, off + i, none⟩ = some (.int .i64 ((X / 2 ^ (a + i) % 2 : Nat) : Int))) :
    Calls Try.prog 25 #[.slice ao wd cap] w fun e w' => e = .returned (.int .u64 (getN X a wd : Nat)) ∧ w' = w := by
  have HC := Hid.mk' hc
  clear hc
  go_enter Try.func25, Try.ntmps25
  go_wp2_with fail
  go_loop [3, 4] (fun n i => ∃ k : Nat, k ≤ wd ∧ i = .int .i64 ((k : Int) - 1) ∧ n = .int .u64 (getN X (a + k) (wd - k) : Nat)) (fun _ i => (intOf i + 1).toNat)
  case atStart => exact ⟨wd, Nat.le_refl _, rfl, by simp [getN, Nat.mod_one]⟩
  case round =>
    obtain ⟨k, hk, rfl, rfl⟩ := hrel
    by_cases hlt : 0 < k
    · obtain ⟨j, rfl⟩ : ∃ j, k = j + 1 := ⟨k - 1, by omega⟩
      obtain ⟨g, off, rfl, hcc⟩ := HC.out (by omega)
      have c0 := hcc j (by omega)
      clear hcc
      have hst := Hid.mk' (getN_step X (a + j) (wd - (j + 1)))
      have hlt' := getN_lt X (a + j) (wd - (j + 1) + 1) (by omega)
      rw [hst.out, Nat.add_assoc] at hlt'
      have hst2 : Hid (getN X (a + j) (wd - j) = 2 * getN X (a + (j + 1)) (wd - (j + 1)) + X / 2 ^ (a + j) % 2) := by
        have h := hst.out
        rw [show wd - (j + 1) + 1 = wd - j by omega, Nat.add_assoc] at h
        exact h
      clear hst
      generalize getN X (a + (j + 1)) (wd - (j + 1)) = v at *
      generalize X / 2 ^ (a + j) % 2 = x at *
      rw [show (((j + 1 : Nat) : Int) - 1) = (j : Int) by omega]
      go_wp2_with fail
      go_round
      case rel => exact ⟨j, by omega, by go_num, by rw [hst2.out]; go_num⟩
      case measure => simp [intOf]
    · have hk0 : Hid (k = 0) := by show _ = _; omega
      go_wp2_with fail
      go_ret
      refine ⟨?_, rfl⟩
      rw [hk0.out]
      simp

/-- what is left of the bits -/
structure BV (w : World) (v : Value) (X a rem : Nat) : Prop where
  is : ∃ ao cap, v = .slice ao rem cap ∧ rem ≤ cap ∧ (0 < rem → ∃ g off, ao = some ⟨g, off, none⟩ ∧ g < w.heap.size ∧ ∀ i, i < rem → w.cell? ⟨g, off + i, none⟩ = some (.int .i64 ((X / 2 ^ (a + i) % 2 : Nat) : Int)))
theorem bv_of_own {w : World} {N n X : Nat} {v : Value} (h : w.ownsRow N 3 1 v n (bitsC X n)) : BV w v X 0 n := by
  rcases h.2 with ⟨rfl, rfl⟩ | ⟨g, cap, cur, rfl, _, hg, hc, _, _, _⟩
  · exact ⟨none, 0, rfl, Nat.le_refl _, fun hp => by omega⟩
  · refine ⟨some ⟨g, 0, none⟩, cap, rfl, hc, fun _ => ⟨g, 0, rfl, (Array.getElem?_eq_some_iff.1 hg).1, fun i hi => ?_⟩⟩
    rw [Nat.zero_add, h.cellAt i (by omega)]
    simp [bitsC, hi]
theorem bv_next {w : World} {bo : Option Addr} {rem bc X a wd : Nat} (hr : wd ≤ rem) (hb : rem ≤ bc) (hc : 0 < rem → ∃ g off, bo = some ⟨g, off, none⟩ ∧ g < w.heap.size ∧ ∀ i, i < rem → w.cell? ⟨g, off + i, none⟩ = some (.int .i64 ((X / 2 ^ (a + i) % 2 : Nat) : Int))) :
    BV w (.slice (if bc = wd then bo else bo.map (·.add wd)) (rem - wd) (bc - wd)) X (a + wd) (rem - wd) := by
  refine ⟨_, _, rfl, by omega, fun hp => ?_⟩
  obtain ⟨g, off, rfl, hg, hcc⟩ := hc (by omega)
  rw [if_neg (by omega)]
  refine ⟨g, off + wd, by unfold Addr.add; simp, hg, fun i hi => ?_⟩
  rw [Nat.add_assoc, Nat.add_assoc]
  exact hcc (wd + i) (by omega)
def cellsU (V : Nat → Nat) (k : Nat) : List Value := (List.range k).map fun i => .int .u64 (V i : Int)
theorem cellsU_succ (V : Nat → Nat) (k : Nat) : cellsU V (k + 1) = cellsU V k ++ [.int .u64 (V k : Int)] := by simp [cellsU, List.range_succ]
theorem u64s_of_cells {w : World} {N n : Nat} {v : Value} {V : Nat → Nat} (h : w.ownsRow N 32 1 v n (cellsU V n)) : U64s w v n V := by
  rcases h.2 with ⟨rfl, rfl⟩ | ⟨g, cap, cur, rfl, _, hg, _, _, _, hx⟩
  · exact u64s_nil _ _
  · refine ⟨some ⟨g, 0, none⟩, cap, rfl, fun _ => ⟨g, 0, rfl, (Array.getElem?_eq_some_iff.1 hg).1, fun i hi => ?_⟩⟩
    rw [Nat.zero_add, h.cellAt i (by omega)]
    simp [cellsU, hi]

set_option maxHeartbeats 1000000 in
theorem runpack_any (s : ByteArray) (a0 : Option Addr) (len cap : Nat) (W : Nat → Int) (w : World) (hs : s.size ≤ 1048576) (hP : Wds w a0 len W) :
    Calls Try.prog 11 #[.string s, .slice a0 len cap] w fun e w' => (∃ v, e = .returned (.tuple #[v, .int .i64 (unpE s len W)]) ∧ U64s w' v (unpL s len W) (unpF s W)) ∧ Below w.heap.size w w' := by
  have hlen := hP.lenB
  have HP := Hid.mk' hP
  clear hP
  obtain ⟨i0, hi, hz0, hz1, hz2⟩ := info_parts infoU64
  have KI := Hid.mk' hi
  have KZ0 := Hid.mk' hz0
  have KZ1 := Hid.mk' hz1
  have KZ2 := Hid.mk' hz2
  clear hi hz0 hz1 hz2
  obtain ⟨n, en⟩ : ∃ n, Hid (8 * s.size = n) := ⟨_, Hid.mk' rfl⟩
  have hnb : n ≤ 8388608 := by rw [← en.out]; omega
  go_enter Try.func11, Try.ntmps11
  go_wp2_with fail
  go_loop [6, 15] (fun t i => ∃ k : Nat, k ≤ len ∧ i = .int .i64 k ∧ t = .int .i64 (widSum W k : Nat) ∧ (∀ i, i < k → widB (W i) = true)) (fun _ i => len - (intOf i).toNat)
  case atStart => exact ⟨0, Nat.zero_le _, rfl, rfl, fun i hi => by omega⟩
  case round =>
    obtain ⟨k, hk, rfl, rfl, hok⟩ := hrel
    have hws := widSum_le' W k hok
    have HO := Hid.mk' hok
    clear hok
    by_cases hlt : k < len
    · obtain ⟨b, off, rfl, hb, hc⟩ := HP.out.at' (by omega)
      have c0 := hc k hlt
      clear hc
      cases hw : widB (W k) with
      | true =>
        have hw2 := wid_of hw
        have hn : (widSum W k : Int) + W k = (widSum W (k + 1) : Nat) := by simp only [widSum]; omega
        have HO1 : Hid (∀ i, i < k + 1 → widB (W i) = true) := fun i hi => by
          rcases Nat.lt_succ_iff_lt_or_eq.1 hi with h1 | rfl
          · exact HO.out i h1
          · exact hw
        have hw0 := hw2.1
        have hw1 := hw2.2
        have t1 : decide (W k < 0) = false := decide_eq_false (by omega)
        have t2 : decide ((64 : Int) < W k) = false := decide_eq_false (by omega)
        clear hw2 hw
        go_wp2_with fail
        go_round
        case rel => exact ⟨k + 1, by omega, by go_num, rfl, HO1.out⟩
        case measure => simp [intOf]; omega
      | false =>
        have hpb := Hid.mk' (unp_bad s len W k hlt hw)
        have hnw : ¬ (0 ≤ W k ∧ W k ≤ 64) := of_decide_eq_false hw
        clear hw
        by_cases hneg : W k < 0
        · have t1 : decide (W k < 0) = true := decide_eq_true hneg
          clear hnw hneg
          go_wp2_with fail
          go_ret2
          refine ⟨⟨.slice none 0 0, ?_, ?_⟩, Below.refl _ _⟩
          · rw [hpb.out.1]; rfl
          · rw [hpb.out.2]; exact u64s_nil _ _
        · have t1 : decide (W k < 0) = false := decide_eq_false hneg
          have t2 : decide ((64 : Int) < W k) = true := decide_eq_true (by omega)
          clear hnw
          go_wp2_with fail
          go_ret2
          refine ⟨⟨.slice none 0 0, ?_, ?_⟩, Below.refl _ _⟩
          · rw [hpb.out.1]; rfl
          · rw [hpb.out.2]; exact u64s_nil _ _
    · have hkl : k = len := by omega
      subst hkl
      go_wp2_with fail
      refine (rbits_any s _ hs).mono ?_
      rintro e w1 ⟨⟨v, rfl, hown⟩, hb1⟩
      rw [en.out] at hown
      obtain ⟨ao, cp, rfl, hcp, hbv⟩ := (bv_of_own hown).is
      have HBV : Hid (BV w1 (.slice ao n cp) (txtN s.data.toList) 0 n) := ⟨ao, cp, rfl, hcp, hbv⟩
      have HB1 := Hid.mk' hb1
      have hs1 := hb1.size
      clear hown hbv hb1
      by_cases hT : n < widSum W k
      · have hps := Hid.mk' (unp_short s k W HO.out (by rw [en.out]; exact hT))
        have hTd : decide ((n : Int) < (widSum W k : Int)) = true := decide_eq_true (by omega)
        go_wp2_with fail
        go_ret2
        refine ⟨⟨.slice none 0 0, ?_, ?_⟩, HB1.out⟩
        · rw [hps.out.1]; rfl
        · rw [hps.out.2]; exact u64s_nil _ _
      · have hpo := Hid.mk' (unp_ok s k W HO.out (by rw [en.out]; omega))
        have hTd : decide ((n : Int) < (widSum W k : Int)) = false := decide_eq_false (by omega)
        go_wp2_with fail
        clear hTd
        go_loopw [9, 10, 37] (fun bv ov i wr => ∃ j : Nat, j ≤ k ∧ i = .int .i64 j ∧ BV w1 bv (txtN s.data.toList) (widSum W j) (n - widSum W j) ∧ wr.ownsRow w1.heap.size 32 1 ov j (cellsU (unpF s W) j) ∧ Below w1.heap.size w1 wr) (fun _ _ i _ => k - (intOf i).toNat)
        case atStart => exact ⟨0, Nat.zero_le _, rfl, HBV.out, World.ownsRow_nil _ _ _ _, Below.refl _ _⟩
        case round =>
          obtain ⟨j, hj, rfl, hbv, hown, hbl⟩ := hrel
          have HOw := Hid.mk' hown
          have HB2 := Hid.mk' hbl
          have hs2 := hbl.size
          clear hown hbl
          by_cases hlt2 : j < k
          · obtain ⟨b, off, rfl, hb, hc⟩ := HP.out.at' (by omega)
            have c0 := (HB2.out.cell (p := ⟨b, off + j, none⟩) (by show b < _; omega)).trans ((HB1.out.cell (p := ⟨b, off + j, none⟩) hb).trans (hc j hlt2))
            have hw2 := wid_of (HO.out j hlt2)
            obtain ⟨wd, hwd⟩ := Int.eq_ofNat_of_zero_le hw2.1
            rw [hwd] at c0
            have hwdl : wd ≤ 64 := by omega
            have hm := widSum_mono W (j + 1) (k - (j + 1))
            rw [show j + 1 + (k - (j + 1)) = k by omega] at hm
            have hsum : Hid (widSum W (j + 1) = widSum W j + wd) := by show _ = _; simp only [widSum]; rw [hwd]; simp
            have hF : Hid (unpF s W j = getN (txtN s.data.toList) (widSum W j) wd) := by show _ = _; unfold unpF; rw [hwd]; simp
            obtain ⟨rem, er⟩ : ∃ rem, Hid (n - widSum W j = rem) := ⟨_, Hid.mk' rfl⟩
            rw [er.out] at hbv
            have hrem : wd ≤ rem := by
              have h1 := hsum.out
              have h2 := er.out
              omega
            obtain ⟨bo, bc, rfl, hbc, hcells⟩ := hbv.is
            have HC := Hid.mk' hcells
            have hnx : Hid (BV w1 (.slice (if bc = wd then bo else bo.map (·.add wd)) (rem - wd) (bc - wd)) (txtN s.data.toList) (widSum W (j + 1)) (n - widSum W (j + 1))) := by
              rw [hsum.out, show n - (widSum W j + wd) = rem - wd by have := er.out; omega]
              exact bv_next hrem hbc hcells
            clear hc hwd hm hw2 hbv hcells
            go_wp2_with fail
            refine (rnumber_any _ wd _ (txtN s.data.toList) (widSum W j) _ hwdl ?_).mono ?_
            · intro hp
              obtain ⟨g, o, hbo, hg, hcc⟩ := HC.out (by omega)
              subst hbo
              exact ⟨g, o, rfl, fun i hi => (HB2.out.cell (p := ⟨g, o + i, none⟩) hg).trans (hcc i (by omega))⟩
            rintro e w2 ⟨rfl, rfl⟩
            rw [← hF.out]
            go_wp2_with (at_builtin; refine wpList_append_own _ rfl (.tmp 41) (.tmp 46) 28 rfl w1.heap.size 32 i0 (.int .u64 0) 1 8 Try.underlying28 KI.out KZ0.out KZ1.out KZ2.out rfl (by decide) u10 _ _ rfl (HOw.out.alloc _) ⟨w2.heap.size, 0, none⟩ 1 1 [.int .u64 (unpF s W j : Int)] rfl rfl (cell_one_new _ _ _) (one_int _ _) (by unfold maxLen; omega) (by omega) (by simp; omega) ?_; intro v' w3 hown1 hgrow1 _)
            have HB4 := Hid.mk' (below_grow' HOw.out HB2.out hs2 hgrow1)
            have HO4 : Hid (w3.ownsRow w1.heap.size 32 1 v' (j + 1) (cellsU (unpF s W) (j + 1))) := by
              rw [cellsU_succ]; exact hown1
            clear hown1 hgrow1
            go_roundw
            case rel => exact ⟨j + 1, by omega, by go_num, hnx.out, HO4.out, HB4.out⟩
            case measure => simp [intOf]; omega
          · have hjk : j = k := by omega
            go_wp2_with fail
            go_ret2
            refine ⟨⟨u10, ?_, ?_⟩, HB1.out.trans (HB2.out.mono HB1.out.size)⟩
            · rw [hpo.out.1]; rfl
            · rw [hpo.out.2, ← hjk]
              exact u64s_of_cells HOw.out
end Go.Proofs.Ytjfkbkhfnnmbnaa
