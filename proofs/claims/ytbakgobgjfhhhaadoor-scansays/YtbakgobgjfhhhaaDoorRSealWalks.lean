import Derived.Test.YtbakgobgjfhhhaaDoorPsad
import Derived.Test.YtbakgobgjfhhhaaDoorPsaa

/- What linenref.Seal answers. -/
namespace Go.Proofs.YtbakgobgjfhhhaaDoor
open Go.RowKit

theorem rev_step (s : ByteArray) (k : Nat) (h : k < s.size) : txS [s[k]'h] ++ txS (s.data.toList.take k).reverse = txS (s.data.toList.take (k + 1)).reverse := by
  rw [txS_app, List.take_succ_eq_append_getElem (by rw [Array.length_toList]; exact h), List.reverse_append]
  rfl
theorem ext_one (s : ByteArray) (k : Nat) (h : k < s.size) : s.extract k (k + 1) = txS [s[k]'h] := by
  apply bytes_ext
  rw [ByteArray.data_extract]
  simp only [Array.toList_extract, List.extract_eq_take_drop]
  rw [List.drop_eq_getElem_cons (by rw [Array.length_toList]; exact h), show k + 1 - k = 1 by omega]
  rfl
set_option maxRecDepth 20000 in
set_option maxHeartbeats 800000 in
theorem back_any (s : ByteArray) (w : World) (hs : s.size ≤ 1000) :
    Calls Tryd.prog 55 #[.string s] w fun e w' => e = .returned (.string (txS s.data.toList.reverse)) ∧ Below w.heap.size w w' := by
  go_enter Tryd.func55, Tryd.ntmps55
  go_wp2_with fail
  go_loopw [3, 7] (fun t i wr => ∃ k : Nat, k ≤ s.size ∧ i = .int .i64 k ∧ t = .string (txS (s.data.toList.take k).reverse) ∧ Below w.heap.size w wr) (fun _ i _ => s.size - (intOf i).toNat)
  case atStart => exact ⟨0, Nat.zero_le _, rfl, rfl, Below.refl _ _⟩
  case round =>
    obtain ⟨k, hk, rfl, rfl, hbl⟩ := hrel
    have HB := Hid.mk' hbl
    clear hbl
    by_cases hlt : k < s.size
    · have hst := Hid.mk' (rev_step s k hlt)
      have hex := Hid.mk' (ext_one s k hlt)
      obtain ⟨x, hx⟩ : ∃ x, Hid (s.extract k (k + 1) = x) := ⟨_, Hid.mk' rfl⟩
      have hx' := hx.out
      have hst2 : Hid (x ++ txS (s.data.toList.take k).reverse = txS (s.data.toList.take (k + 1)).reverse) := by show _ = _; rw [← hst.out, ← hex.out, hx']
      have hxs : x.size = 1 := by rw [← hx', hex.out]; rfl
      have hts : (txS (s.data.toList.take k).reverse).size = k := by rw [txS_size, List.length_reverse, List.length_take, Array.length_toList]; exact Nat.min_eq_left hk
      obtain ⟨t, ht⟩ : ∃ t, Hid (txS (s.data.toList.take k).reverse = t) := ⟨_, Hid.mk' rfl⟩
      rw [ht.out] at hst2 hts ⊢
      have hcat : x.size + t.size ≤ 9223372036854775807 := by omega
      have hxs2 : x.size ≤ 1 := by omega
      have hts2 : t.size ≤ 1000 := by omega
      clear hts hxs hcat
      go_wp2_with fail
      go_roundw
      case rel => exact ⟨k + 1, by omega, by go_num, by rw [← hst2.out], HB.out⟩
      case measure => simp [intOf]; omega
    · have hks : k = s.size := by omega
      have hfin : Hid (txS (s.data.toList.take k).reverse = txS s.data.toList.reverse) := by
        show _ = _
        rw [List.take_of_length_le (by rw [Array.length_toList]; show s.size ≤ k; omega)]
      rw [hfin.out]
      clear hks
      go_wp2_with fail
      go_ret
      exact ⟨rfl, HB.out⟩
theorem rfixS1 (n : Nat) (w : World) (hn : n < 18446744073709551616) : Calls Tryd.prog 27 #[.int .u64 n, .int .i64 1] w fun e w' => e = .returned (.string (txS (fixB n 1))) ∧ Below w.heap.size w w' := rfix_in n 1 w hn (by omega) (by omega)
theorem rfixS2 (n : Nat) (w : World) (hn : n < 18446744073709551616) : Calls Tryd.prog 27 #[.int .u64 n, .int .i64 2] w fun e w' => e = .returned (.string (txS (fixB n 2))) ∧ Below w.heap.size w w' := rfix_in n 2 w hn (by omega) (by omega)
theorem rfixS4 (n : Nat) (w : World) (hn : n < 18446744073709551616) : Calls Tryd.prog 27 #[.int .u64 n, .int .i64 4] w fun e w' => e = .returned (.string (txS (fixB n 4))) ∧ Below w.heap.size w w' := rfix_in n 4 w hn (by omega) (by omega)
theorem rsum0 (s : ByteArray) (w : World) (hs : s.size ≤ maxLen) :
    Calls Tryd.prog 56 #[.int .u32 0, .string s] w fun e w' => e = .returned (.int .u32 (B (sumC s.data.toList))) ∧ w' = w := rsum_any 0 s w hs
set_option maxRecDepth 20000 in
set_option maxHeartbeats 1600000 in
theorem rseal_any (k n : Int) (b : ByteArray) (w : World) (_hb : b.size ≤ 140737488355328) :
    Calls Tryd.prog 26 #[.int .i64 k, .int .i64 n, .string b] w fun e w' => SlAns k n b e ∧ Below w.heap.size w w' := by
  have hbad : Hid (mayS k n = false → selE k n b.size = 1) := fun h => by unfold selE; rw [if_neg (by rw [h]; decide)]
  have hno : ∀ wx, Hid (selE k n b.size = 1) → Hid (SlAns k n b (Ending.returned (.tuple #[.string ⟨#[]⟩, .int .i64 1])) ∧ Below wx.heap.size wx wx) := fun wx h => ⟨.inr ⟨1, by decide, h, rfl⟩, Below.refl _ _⟩
  have hno := Hid.mk' hno
  by_cases hkk : k = 1 ∨ k = 2
  · by_cases hn0 : n < 0
    · have hq := Hid.mk' (hbad.out (decide_eq_false (fun h => by omega)))
      have tn : decide (n < 0) = true := decide_eq_true hn0
      rcases hkk with rfl | rfl
      · clear hn0
        go_enter Tryd.func26, Tryd.ntmps26
        go_wp2_with fail
        go_ret2
        exact (hno.out w hq).out
      · clear hn0
        go_enter Tryd.func26, Tryd.ntmps26
        go_wp2_with fail
        go_ret2
        exact (hno.out w hq).out
    · have tn : decide (n < 0) = false := decide_eq_false hn0
      by_cases hn1 : 2147483647 < n
      · have hq := Hid.mk' (hbad.out (decide_eq_false (fun h => by omega)))
        have tm : decide ((2147483647 : Int) < n) = true := decide_eq_true hn1
        rcases hkk with rfl | rfl
        · clear hn0 hn1
          go_enter Tryd.func26, Tryd.ntmps26
          go_wp2_with fail
          go_ret2
          exact (hno.out w hq).out
        · clear hn0 hn1
          go_enter Tryd.func26, Tryd.ntmps26
          go_wp2_with fail
          go_ret2
          exact (hno.out w hq).out
      · have tm : decide ((2147483647 : Int) < n) = false := decide_eq_false hn1
        have hm : mayS k n = true := (mayS_iff k n).2 ⟨hkk, by omega, by omega⟩
        have hd : Hid (selE k n b.size = if 1000 < b.size then 2 else 0) := by show _ = _; unfold selE; rw [if_pos hm]
        by_cases hz : 1000 < b.size
        · have hq : Hid (selE k n b.size = 2) := by show _ = _; rw [hd.out, if_pos hz]
          rcases hkk with rfl | rfl
          · clear hn0 hn1 hm
            go_enter Tryd.func26, Tryd.ntmps26
            go_wp2_with fail
            go_ret2
            exact ⟨.inr ⟨2, by decide, hq.out, rfl⟩, Below.refl _ _⟩
          · clear hn0 hn1 hm
            go_enter Tryd.func26, Tryd.ntmps26
            go_wp2_with fail
            go_ret2
            exact ⟨.inr ⟨2, by decide, hq.out, rfl⟩, Below.refl _ _⟩
        · have hq : Hid (selE k n b.size = 0) := by show _ = _; rw [hd.out, if_neg hz]
          have hz' : b.size ≤ 1000 := by omega
          obtain ⟨k', rfl⟩ := Int.eq_ofNat_of_zero_le (show 0 ≤ k by omega)
          obtain ⟨n', rfl⟩ := Int.eq_ofNat_of_zero_le (show 0 ≤ n by omega)
          have hn2 : n' ≤ 2147483647 := by omega
          have hk2 : k' = 1 ∨ k' = 2 := by omega
          have hbt := Hid.mk' (bod_text k' n' b)
          have hsl : Hid (txS (bodS k' n' b.data.toList) ++ txS (leC (bodS k' n' b.data.toList)) = txS (selS k' n' b.data.toList)) := txS_app _ _
          have s1 : (txS (fixB k' 1)).size = 1 := by rw [txS_size, fixB_length]
          have s2 : (txS (fixB n' 4)).size = 4 := by rw [txS_size, fixB_length]
          have s3 : (txS (fixB b.size 2)).size = 2 := by rw [txS_size, fixB_length]
          have s4 : (txS (bodS k' n' b.data.toList)).size = 7 + b.size := by rw [txS_size, bodS_len, Array.length_toList]; rfl
          have s5 : (txS (leC (bodS k' n' b.data.toList))).size = 4 := rfl
          have c1 := Hid.mk' (fun w => rfixS1 k' w (by omega))
          have c2 := Hid.mk' (fun w => rfixS4 n' w (by omega))
          have c3 := Hid.mk' (fun w => rfixS2 b.size w (by omega))
          have c4 := Hid.mk' (fun w => rsum0 (txS (bodS k' n' b.data.toList)) w (by rw [s4]; unfold maxLen; omega))
          rw [txS_list] at c4
          obtain ⟨c, hc⟩ : ∃ c, Hid (sumC (bodS k' n' b.data.toList) = c) := ⟨_, Hid.mk' rfl⟩
          have hBc : Hid (B c = ((c.toNat : Nat) : Int)) := rfl
          have hcl := c.isLt
          obtain ⟨m, hm'⟩ : ∃ m, Hid (c.toNat = m) := ⟨_, Hid.mk' rfl⟩
          rw [hm'.out] at hcl hBc
          rw [hc.out, hBc.out] at c4
          have c5 := Hid.mk' (fun w => rfixS4 m w (by omega))
          have c6 := Hid.mk' (fun w => back_any (txS (fixB m 4)) w (by rw [txS_size, fixB_length]; omega))
          have hrv : (fixB m 4).reverse = leC (bodS k' n' b.data.toList) := by rw [← hm'.out, ← hc.out]; exact le_rev _
          rw [txS_list, hrv] at c6
          have e1 : IntKind.u64.wrap (k' : Int) = k' := by rw [IntKind.wrap_u64]; omega
          have e2 : IntKind.u64.wrap (n' : Int) = n' := by rw [IntKind.wrap_u64]; omega
          have e3 : IntKind.u64.wrap (b.size : Int) = (b.size : Int) := by rw [IntKind.wrap_u64]; omega
          have e4 : IntKind.u64.wrap (m : Int) = m := by rw [IntKind.wrap_u64]; omega
          obtain ⟨x1, hx1⟩ : ∃ x, Hid (txS (fixB k' 1) = x) := ⟨_, Hid.mk' rfl⟩
          obtain ⟨x2, hx2⟩ : ∃ x, Hid (txS (fixB n' 4) = x) := ⟨_, Hid.mk' rfl⟩
          obtain ⟨x3, hx3⟩ : ∃ x, Hid (txS (fixB b.size 2) = x) := ⟨_, Hid.mk' rfl⟩
          obtain ⟨x4, hx4⟩ : ∃ x, Hid (txS (bodS k' n' b.data.toList) = x) := ⟨_, Hid.mk' rfl⟩
          obtain ⟨x5, hx5⟩ : ∃ x, Hid (txS (leC (bodS k' n' b.data.toList)) = x) := ⟨_, Hid.mk' rfl⟩
          obtain ⟨x6, hx6⟩ : ∃ x, Hid (txS (fixB m 4) = x) := ⟨_, Hid.mk' rfl⟩
          rw [hx1.out] at s1 hbt c1
          rw [hx2.out] at s2 hbt c2
          rw [hx3.out] at s3 hbt c3
          rw [hx4.out] at s4 hbt hsl c4
          rw [hx5.out] at s5 hsl c6
          rw [hx6.out] at c5 c6
          have hbt' := hbt.out
          have hsl' := hsl.out
          clear hrv hkk hn0 hn1 hz hm hx1 hx2 hx3 hx4 hx5 hx6 hc hBc hm'
          have HH : Hid (Calls Tryd.prog 26 #[.int .i64 (k' : Int), .int .i64 (n' : Int), .string b] w fun e w' => SlAns (k' : Int) (n' : Int) b e ∧ Below w.heap.size w w') := by
            rcases hk2 with rfl | rfl
            all_goals
              show Calls _ _ _ _ _
              go_enter Tryd.func26, Tryd.ntmps26
              go_wp2_with fail
              refine (c1.out _).mono ?_
              rintro e w2 ⟨rfl, hb2⟩
              have HB2 := Hid.mk' hb2
              clear hb2
              go_wp2_with fail
              refine (c2.out _).mono ?_
              rintro e w3 ⟨rfl, hb3⟩
              have HB3 := Hid.mk' (HB2.out.trans (hb3.mono HB2.out.size))
              clear hb3
              go_wp2_with fail
              refine (c3.out _).mono ?_
              rintro e w4 ⟨rfl, hb4⟩
              have HB4 := Hid.mk' (HB3.out.trans (hb4.mono HB3.out.size))
              clear hb4
              go_wp2_with fail
              refine (c4.out _).mono ?_
              rintro e w5 ⟨rfl, rfl⟩
              go_wp2_with fail
              refine (c5.out _).mono ?_
              rintro e w6 ⟨rfl, hb6⟩
              have HB6 := Hid.mk' (HB4.out.trans (hb6.mono HB4.out.size))
              clear hb6
              go_wp2_with fail
              refine (c6.out _).mono ?_
              rintro e w7 ⟨rfl, hb7⟩
              have HB7 := Hid.mk' (HB6.out.trans (hb7.mono HB6.out.size))
              clear hb7
              go_wp2_with fail
              go_ret2
              exact ⟨.inl ⟨hq.out, rfl⟩, HB7.out⟩
          exact HH.out
  · have t1 : (k != 1) = true := by rw [bne_iff_ne]; omega
    have t2 : (k != 2) = true := by rw [bne_iff_ne]; omega
    have hq := Hid.mk' (hbad.out (decide_eq_false (fun h => hkk h.1)))
    clear hkk
    go_enter Tryd.func26, Tryd.ntmps26
    go_wp2_with fail
    go_ret2
    exact (hno.out w hq).out
end Go.Proofs.YtbakgobgjfhhhaaDoor
