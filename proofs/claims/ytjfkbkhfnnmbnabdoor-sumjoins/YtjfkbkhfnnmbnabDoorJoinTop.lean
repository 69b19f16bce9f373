/- What sum.Join answers. -/
import Derived.Test.YtjfkbkhfnnmbnabDoorJoinWalks
namespace Go.Proofs.YtjfkbkhfnnmbnabDoor
open Go.RowKit

theorem Blk.below {w w' : World} {N g : Nat} {cs : Array Value} (h : Blk w g cs) (hb : Below N w w') (hg : g < N) : Blk w' g cs := (hb.block g hg).trans h

set_option maxHeartbeats 400000 in
theorem join_in (a b : BitVec 32) (n : Nat) (w : World) (hn : n < 9223372036854775808) :
    Calls Tryd.prog 8 #[.int .u32 (B a), .int .u32 (B b), .int .i64 n] w fun e w' => e = .returned (.int .u32 (B (stps (8 * n) a ^^^ b))) ∧ Below w.heap.size w w' := by
  go_enter Tryd.func8, Tryd.ntmps8
  go_wp2_with fail
  refine (oneStep_any _).mono ?_
  rintro e w1 ⟨⟨cs1, rfl, h1⟩, hb1⟩
  have H1 := Hid.mk' h1
  have B1 := Hid.mk' hb1
  clear h1 hb1
  go_wp2_with fail
  refine (twice_any _ 1 H1.out _).mono ?_
  rintro e w2 ⟨⟨cs2, rfl, h2⟩, hb2⟩
  have H2 := Hid.mk' h2
  have B2 := Hid.mk' (B1.out.trans (hb2.mono B1.out.size))
  clear h2 hb2 H1 B1
  go_wp2_with fail
  refine (twice_any _ 2 H2.out _).mono ?_
  rintro e w3 ⟨⟨cs3, rfl, h3⟩, hb3⟩
  have H3 := Hid.mk' h3
  have B3 := Hid.mk' (B2.out.trans (hb3.mono B2.out.size))
  clear h3 hb3 H2 B2
  go_wp2_with fail
  refine (twice_any _ 4 H3.out _).mono ?_
  rintro e w4 ⟨⟨cs4, rfl, h4⟩, hb4⟩
  have H4 := Hid.mk' h4
  have B4 := Hid.mk' (B3.out.trans (hb4.mono B3.out.size))
  clear h4 hb4 H3 B3
  have BL := Hid.mk' B4.out.size
  have hi := Hid.mk' H4.out.info
  have h1 := Hid.mk' H4.out.one
  have hz := Hid.mk' H4.out.size
  go_wp2_with (refine wpList_store_row rfl 33 _ _ rfl w4.heap.size cs4 rfl rfl 33 _ (heap_alloc_new w4 _) hi.out hz.out.symm h1.out ?_)
  clear hi h1 hz
  simp only [Act.put]
  go_loopw [0, 2] (fun x i wr => ∃ (j : Nat) (cs : Array Value), i = .int .i64 (n / 2 ^ j : Nat) ∧ x = .int .u32 (B (stps (8 * (n % 2 ^ j)) a)) ∧ Below w.heap.size w wr ∧ Blk wr w4.heap.size cs ∧ Row32 cs (tab (8 * 2 ^ j))) (fun _ i _ => (intOf i).toNat)
  case atStart =>
    refine ⟨0, cs4, by simp, by simp [Nat.mod_one, stps], below_setRow (B4.out.alloc B4.out.size _) _ _ B4.out.size, ?_, H4.out⟩
    exact Blk.row (cs := _) (heap_alloc_new w4 _) cs4
  case round =>
    obtain ⟨j, cs, rfl, rfl, hb, b0, hr⟩ := hrel
    have hb' := Hid.mk' hb
    have b0' := Hid.mk' b0
    have hr' := Hid.mk' hr
    have hi := Hid.mk' hr.info
    clear hb b0 hr
    have hql : n / 2 ^ j < 9223372036854775808 := Nat.lt_of_le_of_lt (Nat.div_le_self _ _) hn
    generalize hq : n / 2 ^ j = q at *
    have HQ := Hid.mk' hq
    clear hq
    by_cases hpos : 0 < q
    · have hT : Hid (tab (8 * 2 ^ j + 8 * 2 ^ j) = tab (8 * 2 ^ (j + 1))) := by rw [Nat.pow_succ, show 8 * 2 ^ j + 8 * 2 ^ j = 8 * (2 ^ j * 2) by omega]; exact rfl
      have hD : Hid (n / 2 ^ (j + 1) = q / 2) := by rw [div_next, HQ.out]; exact rfl
      rcases Nat.mod_two_eq_zero_or_one q with hq2 | hq2
      · have ht := odd_no q hql hq2
        have hA := Hid.mk' (join_even n j a (by rw [HQ.out]; exact hq2))
        clear hq2
        go_wp2_with (refine wpList_load_row rfl 33 _ rfl w4.heap.size rfl 33 cs _ _ b0'.out Tryd.underlying33 rfl hi.out ?_)
        refine (twice_any _ _ hr'.out _).mono ?_
        rintro e w5 ⟨⟨cs5, rfl, h5⟩, hb5⟩
        have i5 := Hid.mk' h5.info
        have o5 := Hid.mk' h5.one
        have z5 := Hid.mk' (hr'.out.size.trans h5.size.symm)
        have b5 : Hid (Blk w5 w4.heap.size cs) := Blk.below b0'.out hb5 b0'.out.lt
        have hb5' : Hid (Below w.heap.size w w5) := hb'.out.trans (hb5.mono hb'.out.size)
        have h5' := Hid.mk' h5
        clear h5 hb5
        go_wp2_with (refine wpList_store_row rfl 33 _ _ rfl w4.heap.size cs5 rfl rfl 33 cs b5.out i5.out z5.out o5.out ?_)
        go_roundw
        case rel => exact ⟨j + 1, cs5, by rw [hD.out]; go_num, by rw [hA.out], below_setRow hb5'.out _ _ BL.out, b5.out.row _, by rw [← hT.out]; exact h5'.out⟩
        case measure => simp [intOf]; omega
      · have ht := odd_yes q hql hq2
        have hA := Hid.mk' (join_odd n j a (by rw [HQ.out]; exact hq2))
        clear hq2
        go_wp2_with (refine wpList_load_row rfl 33 _ rfl w4.heap.size rfl 33 cs _ _ b0'.out Tryd.underlying33 rfl hi.out ?_)
        refine (take_any cs _ hr'.out _ _).mono ?_
        rintro e w6 ⟨rfl, rfl⟩
        rw [hA.out]
        have b6 := Hid.mk' (b0'.out.alloc (.cells cs 33))
        have hb6 := Hid.mk' (hb'.out.alloc hb'.out.size (.cells cs 33))
        go_wp2_with (refine wpList_load_row rfl 33 _ rfl w4.heap.size rfl 33 cs _ _ b6.out Tryd.underlying33 rfl hi.out ?_)
        refine (twice_any _ _ hr'.out _).mono ?_
        rintro e w5 ⟨⟨cs5, rfl, h5⟩, hb5⟩
        have i5 := Hid.mk' h5.info
        have o5 := Hid.mk' h5.one
        have z5 := Hid.mk' (hr'.out.size.trans h5.size.symm)
        have b5 : Hid (Blk w5 w4.heap.size cs) := Blk.below b6.out hb5 b6.out.lt
        have hb5' : Hid (Below w.heap.size w w5) := hb6.out.trans (hb5.mono hb6.out.size)
        have h5' := Hid.mk' h5
        clear h5 hb5
        go_wp2_with (refine wpList_store_row rfl 33 _ _ rfl w4.heap.size cs5 rfl rfl 33 cs b5.out i5.out z5.out o5.out ?_)
        go_roundw
        case rel => exact ⟨j + 1, cs5, by rw [hD.out]; go_num, rfl, below_setRow hb5'.out _ _ BL.out, b5.out.row _, by rw [← hT.out]; exact h5'.out⟩
        case measure => simp [intOf]; omega
    · have hE := Hid.mk' (join_all n j a (by rw [HQ.out]; omega))
      have hx := xorB (stps (8 * (n % 2 ^ j)) a) b
      go_wp2_with fail
      go_ret
      exact ⟨ret_int (by rw [hE.out]), hb'.out⟩
set_option maxHeartbeats 400000 in
theorem join_lo (a b : BitVec 32) (v : Int) (w : World) (_h1 : -9223372036854775808 ≤ v) (hv : v < 0) :
    Calls Tryd.prog 8 #[.int .u32 (B a), .int .u32 (B b), .int .i64 v] w fun e w' => e = .returned (.int .u32 (B (a ^^^ b))) ∧ Below w.heap.size w w' := by
  go_enter Tryd.func8, Tryd.ntmps8
  go_wp2_with fail
  refine (oneStep_any _).mono ?_
  rintro e w1 ⟨⟨cs1, rfl, h1⟩, hb1⟩
  have H1 := Hid.mk' h1
  have B1 := Hid.mk' hb1
  clear h1 hb1
  go_wp2_with fail
  refine (twice_any _ 1 H1.out _).mono ?_
  rintro e w2 ⟨⟨cs2, rfl, h2⟩, hb2⟩
  have H2 := Hid.mk' h2
  have B2 := Hid.mk' (B1.out.trans (hb2.mono B1.out.size))
  clear h2 hb2 H1 B1
  go_wp2_with fail
  refine (twice_any _ 2 H2.out _).mono ?_
  rintro e w3 ⟨⟨cs3, rfl, h3⟩, hb3⟩
  have H3 := Hid.mk' h3
  have B3 := Hid.mk' (B2.out.trans (hb3.mono B2.out.size))
  clear h3 hb3 H2 B2
  go_wp2_with fail
  refine (twice_any _ 4 H3.out _).mono ?_
  rintro e w4 ⟨⟨cs4, rfl, h4⟩, hb4⟩
  have H4 := Hid.mk' h4
  have B4 := Hid.mk' (B3.out.trans (hb4.mono B3.out.size))
  clear h4 hb4 H3 B3
  have BL := Hid.mk' B4.out.size
  have hi := Hid.mk' H4.out.info
  have h1 := Hid.mk' H4.out.one
  have hz := Hid.mk' H4.out.size
  go_wp2_with (refine wpList_store_row rfl 33 _ _ rfl w4.heap.size cs4 rfl rfl 33 _ (heap_alloc_new w4 _) hi.out hz.out.symm h1.out ?_)
  clear hi h1 hz
  simp only [Act.put]
  have hx := xorB a b
  go_loopw [0, 2] (fun x i wr => i = .int .i64 v ∧ x = .int .u32 (B a) ∧ Below w.heap.size w wr) (fun _ _ _ => 0)
  case atStart =>
    exact ⟨rfl, rfl, below_setRow (B4.out.alloc B4.out.size _) _ _ B4.out.size⟩
  case round =>
    obtain ⟨rfl, rfl, hb⟩ := hrel
    have hb' := Hid.mk' hb
    clear hb
    go_wp2_with fail
    go_ret
    exact ⟨rfl, hb'.out⟩

theorem join_any (a b : BitVec 32) (v : Int) (w : World) (h1 : -9223372036854775808 ≤ v) (h2 : v ≤ 9223372036854775807) :
    Calls Tryd.prog 8 #[.int .u32 (B a), .int .u32 (B b), .int .i64 v] w fun e w' => e = .returned (.int .u32 (B (stps (8 * v.toNat) a ^^^ b))) ∧ Below w.heap.size w w' := by
  rcases (by omega : v < 0 ∨ 0 ≤ v) with h | h
  · rw [show v.toNat = 0 by omega]
    exact join_lo a b v w h1 h
  · obtain ⟨n, rfl⟩ := Int.eq_ofNat_of_zero_le h
    rw [Int.toNat_natCast]
    exact join_in a b n w (by omega)
end Go.Proofs.YtjfkbkhfnnmbnabDoor
