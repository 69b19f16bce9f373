/- The law BitsJoins, walked. -/
import Derived.Test.YtjfkbkhfnnmbnabWidthsWalks
import Derived.Test.YtjfkbkhfnnmbnabConcatWalks
import Derived.SizedLaws
namespace Go.Proofs.Ytjfkbkhfnnmbnab
open Go.RowKit

theorem i64_and7 (n : Int) : bits .and .i64 n 7 = n % 8 := by
  have h7 : (BitVec.ofInt 64 7).toNat = 2 ^ 3 - 1 := by decide
  have key : (BitVec.ofInt 64 n &&& BitVec.ofInt 64 7).toNat = (n % ((2 ^ 64 : Nat) : Int)).toNat % 2 ^ 3 := by
    rw [BitVec.toNat_and, BitVec.toNat_ofInt, h7, Nat.and_two_pow_sub_one_eq_mod]
  show IntKind.i64.wrap ((BitVec.ofInt 64 n &&& BitVec.ofInt 64 7).toNat : Nat) = n % 8
  rw [key, IntKind.wrap_i64]
  omega
theorem wds_of_own' {w : World} {N n : Nat} {v : Value} {W : Nat → Int} (h : w.ownsRow N 3 1 v n (cellsW W n)) (hn : n ≤ 17592186044416) (hB : ∀ i, i < n → -9223372036854775808 ≤ W i ∧ W i ≤ 9223372036854775807) : ∃ ao cap, v = .slice ao n cap ∧ Wds w ao n W := by
  rcases h.2 with ⟨rfl, rfl⟩ | ⟨g, cap, cur, rfl, _, hg, _, _, _, hx⟩
  · exact ⟨none, 0, rfl, ⟨by omega, fun hp => by omega, hB⟩⟩
  · refine ⟨some ⟨g, 0, none⟩, cap, rfl, ⟨by omega, fun _ => ⟨g, 0, rfl, (Array.getElem?_eq_some_iff.1 hg).1, fun i hi => ?_⟩, hB⟩⟩
    rw [Nat.zero_add, h.cellAt i (by omega)]
    simp [cellsW, hi]
theorem two_new (w : World) (x y : Value) (t : TypeId) : ∀ j u, [x, y][j]? = some u → (w.alloc (.cells #[x, y] t)).cell? ((⟨w.heap.size, 0, none⟩ : Addr).add j) = some u := by
  intro j u hj
  rw [add_plain, World.cell?_alloc_new]
  match j, hj with
  | 0, hj => simpa using hj
  | 1, hj => simpa using hj
theorem two_one (k k' : IntKind) (a b : Int) : ∀ u ∈ [Value.int k a, Value.int k' b], u.oneCell' = true := by
  intro u hu
  rcases List.mem_cons.1 hu with rfl | hu
  · rfl
  · rw [List.mem_singleton.1 hu]; rfl
theorem cellsP_single (x : Int) : cellsP (fun _ => 0) (fun _ => x) 1 = [.int .u64 0, .int .i64 x] := by
  simp [cellsP, List.range_succ]
theorem cell_pair (w : World) (x y : Value) (t : TypeId) : (w.alloc (.cells #[x, y] t)).cell? ⟨w.heap.size, 0, none⟩ = some x ∧ (w.alloc (.cells #[x, y] t)).cell? ⟨w.heap.size, 1, none⟩ = some y ∧ w.heap.size < (w.alloc (.cells #[x, y] t)).heap.size := by
  refine ⟨by simp, ?_, by simp⟩
  rw [World.cell?_alloc_new]; rfl
theorem pcs_cat_v {w w' : World} {a a' : Option Addr} {n n' : Nat} {V V' : Nat → Nat} {W W' : Nat → Int} (h : Pcs w a n V W) (h' : Pcs w' a' n' V' W') : ∀ i, i < n + n' → cat n V V' i < 18446744073709551616 := by
  intro i hi
  by_cases hn : i < n
  · rw [cat_lo _ _ _ _ hn]; exact h.vB i hn
  · obtain ⟨j, rfl⟩ : ∃ j, i = n + j := ⟨i - n, by omega⟩
    rw [cat_hi]; exact h'.vB j (by omega)
theorem pcs_cat_w {w w' : World} {a a' : Option Addr} {n n' : Nat} {V V' : Nat → Nat} {W W' : Nat → Int} (h : Pcs w a n V W) (h' : Pcs w' a' n' V' W') : ∀ i, i < n + n' → -9223372036854775808 ≤ cat n W W' i ∧ cat n W W' i ≤ 9223372036854775807 := by
  intro i hi
  by_cases hn : i < n
  · rw [cat_lo _ _ _ _ hn]; exact h.wB i hn
  · obtain ⟨j, rfl⟩ : ∃ j, i = n + j := ⟨i - n, by omega⟩
    rw [cat_hi]; exact h'.wB j (by omega)
theorem packS_small (n : Nat) (V : Nat → Nat) (W : Nat → Int) : (packS n V W).length ≤ 8192 := by
  unfold packS
  split
  · rename_i h
    have := ((packE_zero _ _ _).1 h).2
    rw [bytesOf_length]; omega
  · simp
/-- all that the law needs of the three answers -/
structure Ans (E1 E2 E3 : Int) (S1 S2 S3 : ByteArray) : Prop where
  bad : E1 ≠ 0 ∨ E2 ≠ 0 → E3 ≠ 0
  good : E1 = 0 → E2 = 0 → (E3 = 0 ∧ S3 = S1 ++ S2) ∨ (E3 = 2 ∧ 8192 < S1.size + S2.size)
  z1 : S1.size ≤ 8192
  z2 : S2.size ≤ 8192
theorem join_gen {w w' : World} {a a' : Option Addr} {n n' : Nat} {V V' : Nat → Nat} {W W' : Nat → Int} (_h : Pcs w a n V W) (_h' : Pcs w' a' n' V' W') (hd : packE n V W = 0 → widSum W n % 8 = 0) :
    ∃ (E1 E2 E3 : Int) (S1 S2 S3 : ByteArray), Hid (packE n V W = E1) ∧ Hid (packE n' V' W' = E2) ∧ Hid (packE (n + n') (cat n V V') (cat n W W') = E3) ∧
      Hid (ByteArray.mk (packS n V W).toArray = S1) ∧ Hid (ByteArray.mk (packS n' V' W').toArray = S2) ∧ Hid (ByteArray.mk (packS (n + n') (cat n V V') (cat n W W')).toArray = S3) ∧ Hid (Ans E1 E2 E3 S1 S2 S3) := by
  refine ⟨_, _, _, _, _, _, Hid.mk' rfl, Hid.mk' rfl, Hid.mk' rfl, Hid.mk' rfl, Hid.mk' rfl, Hid.mk' rfl, Hid.mk' ⟨join_bad V V' W W' n n', fun h1 h2 => ?_, packS_small n V W, packS_small n' V' W'⟩⟩
  rcases join_good V V' W W' n n' h1 h2 (hd h1) with h | h
  · refine .inl ⟨h.1, ?_⟩
    rw [h.2]
    apply ByteArray.ext
    simp
  · exact .inr h
def oneV : Nat → Nat := fun _ => 7
def oneW : Nat → Int := fun _ => 3
theorem one_pack : packS 1 oneV oneW = [7] ∧ packE 1 oneV oneW = 0 := by decide
theorem pcs_seven (w : World) : Pcs (w.alloc (.cells #[.int .u64 7, .int .i64 3] 30)) (some ⟨w.heap.size, 0, none⟩) 1 oneV oneW := by
  refine ⟨by omega, fun _ => ⟨w.heap.size, 0, rfl, by simp, fun i hi => ?_⟩, fun i hi => by unfold oneV; decide, fun i hi => by unfold oneW; decide⟩
  rw [show i = 0 by omega]
  exact ⟨(cell_pair w _ _ _).1, (cell_pair w _ _ _).2.1⟩

set_option maxHeartbeats 1000000 in
theorem bitsJoins_at (a0 a1 : Option Addr) (l0 c0 l1 c1 : Nat) (V0 V1 : Nat → Nat) (W0 W1 : Nat → Int) (w : World) (P0 : Pcs w a0 l0 V0 W0) (P1 : Pcs w a1 l1 V1 W1)
    (n0 : a0 = none → c0 = 0) (n1 : a1 = none → c1 = 0) (hl0 : l0 ≤ 8796093021952) (hl1 : l1 ≤ 8796093021952) :
    Calls Try.prog 3 #[.slice a0 l0 c0, .slice a1 l1 c1] w fun e w' => e = .returned (.bool true) ∧ Below w.heap.size w w' := by
  have K0 := Hid.mk' P0
  have K1 := Hid.mk' P1
  have N0 := Hid.mk' n0
  have N1 := Hid.mk' n1
  clear P0 P1 n0 n1
  obtain ⟨i0, hi, hz0, hz1, hz2⟩ := info_parts infoPiece
  have KI := Hid.mk' hi
  have KZ0 := Hid.mk' hz0
  have KZ1 := Hid.mk' hz1
  have KZ2 := Hid.mk' hz2
  clear hi hz0 hz1 hz2
  go_enter Try.func3, Try.ntmps3
  go_wp2_with fail
  refine (widths_any a0 l0 c0 V0 W0 _ K0.out).mono ?_
  rintro e w1 ⟨⟨v1, v2, rfl, ho1, ho2⟩, hb1⟩
  have HB1 := Hid.mk' hb1
  have hs1 := hb1.size
  obtain ⟨ao, cp, rfl, hwd⟩ := wds_of_own' ho1 K0.out.lenB K0.out.wB
  have HW := Hid.mk' hwd
  clear ho1 ho2 hwd hb1
  go_wp2_with fail
  go_loop [7, 25] (fun t i => ∃ k : Nat, k ≤ l0 ∧ i = .int .i64 k ∧ t = .int .i64 (tot8 W0 k : Nat)) (fun _ i => l0 - (intOf i).toNat)
  case atStart => exact ⟨0, Nat.zero_le _, rfl, rfl⟩
  case round =>
    obtain ⟨k, hk, rfl, rfl⟩ := hrel
    by_cases hlt : k < l0
    · obtain ⟨b, off, rfl, hb, hc⟩ := HW.out.at' (by omega)
      have c := hc k hlt
      clear hc
      have h1 : bits .and .i64 (W0 k) 7 = ((W0 k % 8).toNat : Nat) := by rw [i64_and7]; omega
      have h2 : bits .and .i64 ((tot8 W0 k : Int) + ((W0 k % 8).toNat : Nat)) 7 = (tot8 W0 (k + 1) : Nat) := by rw [i64_and7]; simp only [tot8]; omega
      have h3 := tot8_lt W0 k
      have h4 : (W0 k % 8).toNat < 8 := by omega
      generalize (W0 k % 8).toNat = x at *
      generalize W0 k = y at *
      go_wp2_with fail
      go_round
      case rel => exact ⟨k + 1, by omega, by go_num, rfl⟩
      case measure => simp [intOf]; omega
    · have hkl : k = l0 := by omega
      subst hkl
      have hin := K1.out
      by_cases ht : tot8 W0 k = 0
      case' pos =>
        have htd : ((tot8 W0 k : Int) != 0) = false := by rw [ht]; rfl
        have HD := Hid.mk' (fill_none V0 W0 k ht)
        have HPL := Hid.mk' (pcs_below K0.out HB1.out)
        have HNL := N0
        have HBL := HB1
        have hnl : k + l1 ≤ 17592186044416 := by omega
        clear ht
        go_wp2_with fail
      case' neg =>
        have htd : ((tot8 W0 k : Int) != 0) = true := by rw [bne_iff_ne]; omega
        have hpos : 0 < k := by
          refine Classical.byContradiction fun hn => ht ?_
          rw [show k = 0 by omega]; rfl
        obtain ⟨b, off, rfl, _, _⟩ := K0.out.at' hpos
        have h3 := tot8_lt W0 k
        clear ht
        go_wp2_with fail
        refine (clone_any _ k c0 V0 W0 _ (pcs_below K0.out HB1.out) (by omega)).mono ?_
        rintro e w2 ⟨⟨v, rfl, hown⟩, hb2⟩
        have hs2 := hb2.size
        have HO := Hid.mk' hown
        have HB2 := Hid.mk' hb2
        clear hown hb2
        go_wp2_with (at_builtin; refine wpList_append_own _ rfl (.tmp 38) (.tmp 42) 22 rfl w1.heap.size 30 i0 (.agg #[.int .u64 0, .int .i64 0]) 2 16 Try.underlying22 KI.out KZ0.out KZ1.out KZ2.out rfl (by decide) v _ _ rfl (HO.out.alloc _) ⟨w2.heap.size, 0, none⟩ 1 1 [.int .u64 0, .int .i64 (8 - (tot8 W0 k : Int))] rfl rfl (two_new _ _ _ _) (two_one _ _ _ _) (by unfold maxLen; omega) (by omega) (by simp; omega) ?_; intro v' w3 hown1 hgrow1 _)
        have HB3 : Hid (Below w1.heap.size w1 w3) := below_grow2 (HO.out.alloc _) (HB2.out.alloc hs2 _) (by simp; omega) hgrow1
        rw [← cellsP_single (8 - (tot8 W0 k : Int)), cellsP_cat] at hown1
        obtain ⟨al, cl, rfl, hnn, hpl⟩ := pcs_of_own hown1 (by omega) (fun i hi => by
          by_cases h : i < k
          · rw [cat_lo _ _ _ _ h]; exact K0.out.vB i h
          · rw [show i = k + 0 by omega, cat_hi]; decide) (fun i hi => by
          by_cases h : i < k
          · rw [cat_lo _ _ _ _ h]; exact K0.out.wB i h
          · rw [show i = k + 0 by omega, cat_hi]; omega)
        have HD := Hid.mk' (fill_ok V0 W0 k)
        have HPL := Hid.mk' hpl
        have HNL := Hid.mk' hnn
        have HBL := Hid.mk' (HB1.out.trans (HB3.out.mono hs1))
        have hnl : k + 1 + l1 ≤ 17592186044416 := by omega
        clear hown1 hgrow1 hpl hnn
      all_goals
        obtain ⟨E1, E2, E3, S1, S2, S3, e1, e2, e3, g1, g2, g3, HA⟩ := join_gen HPL.out K1.out HD.out
        have Gv := Hid.mk' (pcs_cat_v HPL.out K1.out)
        have Gw := Hid.mk' (pcs_cat_w HPL.out K1.out)
        refine (pack_any _ _ _ _ _ _ HPL.out).mono ?_
        rintro e wa ⟨rfl, hb⟩
        rw [e1.out, g1.out]
        have HBa := Hid.mk' (HBL.out.trans (hb.mono HBL.out.size))
        have HPa := Hid.mk' (pcs_below HPL.out hb)
        have HMa := Hid.mk' (pcs_below K1.out HBa.out)
        clear hb
        go_wp2_with fail
        refine (pack_any _ _ _ _ _ _ HMa.out).mono ?_
        rintro e wb ⟨rfl, hb⟩
        rw [e2.out, g2.out]
        have HBb := Hid.mk' (HBa.out.trans (hb.mono HBa.out.size))
        have HPb := Hid.mk' (pcs_below HPa.out hb)
        have HMb := Hid.mk' (pcs_below HMa.out hb)
        clear hb
        go_wp2_with fail
        refine (concat_any _ _ _ _ _ _ _ _ _ _ _ _ (cell_pair wb _ _ _).1 (cell_pair wb _ _ _).2.1 (cell_pair wb _ _ _).2.2 (pcs_below HPb.out ((Below.refl _ _).alloc (Nat.le_refl _) _)) (pcs_below HMb.out ((Below.refl _ _).alloc (Nat.le_refl _) _)) HNL.out N1.out hnl).mono ?_
        rintro e wc ⟨⟨vc, rfl, hoc⟩, hbc⟩
        have HBc1 := Hid.mk' (((Below.refl _ _).alloc (Nat.le_refl _) _ : Below wb.heap.size wb _).trans (hbc.mono (by simp)))
        have HBc := Hid.mk' (HBb.out.trans (HBc1.out.mono HBb.out.size))
        obtain ⟨ac, cc, rfl, _, hpc⟩ := pcs_of_own hoc (by omega) Gv.out Gw.out
        have HPc := Hid.mk' hpc
        clear hoc hbc hpc HBc1
        go_wp2_with fail
        refine (pack_any _ _ _ _ _ _ HPc.out).mono ?_
        rintro e wd ⟨rfl, hb⟩
        rw [e3.out, g3.out]
        have HBd := Hid.mk' (HBc.out.trans (hb.mono HBc.out.size))
        clear hb
        have z1 := HA.out.z1
        have z2 := HA.out.z2
        by_cases h1 : E1 = 0
        · by_cases h2 : E2 = 0
          · subst h1
            subst h2
            have hgood := Hid.mk' (HA.out.good rfl rfl)
            go_wp2_with fail
            refine (pack_any _ 1 1 oneV oneW _ (pcs_seven _)).mono ?_
            rintro e we ⟨rfl, hb⟩
            rw [one_pack.1, one_pack.2]
            have HBe := Hid.mk' (HBd.out.trans ((((Below.refl _ _).alloc (Nat.le_refl _) _ : Below wd.heap.size wd _).trans (hb.mono (by simp))).mono HBd.out.size))
            clear hb
            rcases hgood.out with ⟨h3, h4⟩ | ⟨h3, h4⟩
            · subst h3
              subst h4
              go_wp2_with fail
              go_ret
              exact ⟨rfl, HBe.out⟩
            · subst h3
              have t : decide ((8192 : Int) < (S1.size : Int) + (S2.size : Int)) = true := decide_eq_true (by omega)
              clear h4
              cases hbb : (S3.toList == (S1 ++ S2).toList)
              all_goals
                go_wp2_with fail
                go_ret
                exact ⟨rfl, HBe.out⟩
          · subst h1
            have h3 : (E3 != 0) = true := by rw [bne_iff_ne]; exact HA.out.bad (.inr h2)
            have h2' : (E2 != 0) = true := by rw [bne_iff_ne]; exact h2
            clear h2
            go_wp2_with fail
            go_ret
            exact ⟨rfl, HBd.out⟩
        · have h3 : (E3 != 0) = true := by rw [bne_iff_ne]; exact HA.out.bad (.inl h1)
          have h1' : (E1 != 0) = true := by rw [bne_iff_ne]; exact h1
          clear h1
          go_wp2_with fail
          go_ret
          exact ⟨rfl, HBd.out⟩

theorem bitsJoins_walk (a0 : Option Addr) (l0 c0 : Nat) (V0 : Nat → Nat) (W0 : Nat → Int) (a1 : Option Addr) (l1 c1 : Nat) (V1 : Nat → Nat) (W1 : Nat → Int) (w : World) (P0 : Pcs w a0 l0 V0 W0) (r0 : l0 ≤ 8796093021952) (n0 : a0 = none → c0 = 0) (P1 : Pcs w a1 l1 V1 W1) (r1 : l1 ≤ 8796093021952) (n1 : a1 = none → c1 = 0) :
    Calls Try.prog 3 #[.slice a0 l0 c0, .slice a1 l1 c1] w fun e w' => e = .returned (.bool true) ∧ Below w.heap.size w w' :=
  bitsJoins_at a0 a1 l0 c0 l1 c1 V0 V1 W0 W1 w P0 P1 n0 n1 r0 r1
end Go.Proofs.Ytjfkbkhfnnmbnab
