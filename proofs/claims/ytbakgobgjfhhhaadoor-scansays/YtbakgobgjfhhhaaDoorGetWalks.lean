import Derived.Test.YtbakgobgjfhhhaaDoorPsaa
import Derived.Test.YtbakgobgjfhhhaaDoorPsab
import Derived.OwnWalk

/- What num.Get answers. -/
namespace Go.Proofs.YtbakgobgjfhhhaaDoor
open Go.RowKit

theorem ret3 {a b c a' b' c' : Int} (h1 : a = a') (h2 : b = b') (h3 : c = c') : Ending.returned (.tuple #[.int .u64 a, .int .i64 b, .int .i64 c]) = .returned (.tuple #[.int .u64 a', .int .i64 b', .int .i64 c']) := by rw [h1, h2, h3]
theorem or_zero (m : Nat) (h : m < 18446744073709551616) : bits .or .u64 (m : Int) 0 = m := by
  rw [show (0 : Int) = ((0 : Nat) : Int) from rfl, u64_or_nat _ _ h (by omega), Nat.or_zero]

theorem mul0 (b k m : Nat) (h : b = 0) : (m : Int) = ((m + b % 128 * 128 ^ k : Nat) : Int) := by subst h; simp
set_option maxRecDepth 20000 in
set_option maxHeartbeats 800000 in
theorem get_any (s : ByteArray) (w : World) :
    Calls Tryd.prog 59 #[.string s] w fun e w' => e = .returned (.tuple #[.int .u64 (getA s.data.toList : Nat), .int .i64 (getK s.data.toList : Nat), .int .i64 (getE s.data.toList)]) ∧ w' = w := by
  have hlen : Hid (s.data.toList.length = s.size) := by show _ = _; rw [Array.length_toList]; rfl
  go_enter Tryd.func59, Tryd.ntmps59
  go_wp2_with fail
  go_loop [5, 10] (fun t i => ∃ k : Nat, k ≤ s.size ∧ k ≤ 9 ∧ i = .int .i64 k ∧ t = .int .u64 (v7 (s.data.toList.take k) : Nat) ∧ (∀ i, i < k → 128 ≤ (s.data.toList.getD i 0).toNat)) (fun _ i => s.size - (intOf i).toNat)
  case atStart => exact ⟨0, Nat.zero_le _, by omega, rfl, rfl, fun i hi => by omega⟩
  case round =>
    obtain ⟨k, hk, hk9, rfl, rfl, hall⟩ := hrel
    have HA := Hid.mk' hall
    clear hall
    by_cases hlt : k < s.size
    · have hm := v7_take_lt s.data.toList k
      have hst := Hid.mk' (v7_step s k hlt)
      have hgd := Hid.mk' (getD_byteN s k hlt)
      have hb256 := s[k].toNat_lt
      have hkl : Hid (k < s.data.toList.length) := by rw [hlen.out]; exact hlt
      by_cases hc : 128 ≤ s[k].toNat
      · have x0 : ¬ s[k].toNat = 0 := by omega
        have x1 : (1 : Int) < s[k].toNat := by omega
        by_cases h9 : k = 9
        · have x9 : ((k : Int) == 9) = true := by rw [beq_iff_eq]; omega
          have hld := lead_eq s.data.toList 9 k hk9 (by have := hkl.out; omega) HA.out (.inr (.inl h9))
          have hf := Hid.mk' (get_form s.data.toList k hld hkl.out (.inl ⟨h9, by rw [hgd.out]; omega⟩))
          clear hld h9 hm
          go_wp2_with fail
          go_ret3
          refine ⟨?_, rfl⟩
          rw [hf.out.1, hf.out.2.1, hf.out.2.2]
          rfl
        · have x9 : ((k : Int) == 9) = false := by rw [beq_eq_false_iff_ne]; omega
          have x128 : decide ((s[k].toNat : Int) < 128) = false := decide_eq_false (by omega)
          have hor := Hid.mk' (get_or (v7 (s.data.toList.take k)) (s[k].toNat % 128) k hm hk9 (by omega) (fun e => absurd e h9))
          have hk9' : Hid (k + 1 ≤ 9) := by show _ ≤ _; omega
          have HA2 : Hid (∀ i, i < k + 1 → 128 ≤ (s.data.toList.getD i 0).toNat) := fun i hi => by
            rcases Nat.lt_succ_iff_lt_or_eq.1 hi with h1 | h1
            · exact HA.out i h1
            · rw [h1, hgd.out]; exact hc
          generalize v7 (s.data.toList.take k) = m at *
          clear hm h9
          go_wp2_with fail
          go_round
          case rel => exact ⟨k + 1, by omega, hk9'.out, by go_num, by rw [hst.out]; exact int_eq hor.out, HA2.out⟩
          case measure => simp [intOf]; omega
      · have x128 : (s[k].toNat : Int) < 128 := by omega
        have hld := lead_eq s.data.toList 9 k hk9 (by have := hkl.out; omega) HA.out (.inr (.inr (by rw [hgd.out]; omega)))
        by_cases hz : s[k].toNat = 0 ∧ k ≠ 0
        · have x0 : s[k].toNat = 0 := hz.1
          have xk : ((k : Int) != 0) = true := by rw [bne_iff_ne]; omega
          have hf := Hid.mk' (get_form s.data.toList k hld hkl.out (.inr ⟨by omega, by rw [hgd.out]; exact hz.1⟩))
          clear hld hz hm hc x128
          go_wp2_with fail
          go_ret3
          refine ⟨?_, rfl⟩
          rw [hf.out.1, hf.out.2.1, hf.out.2.2]
          rfl
        · by_cases h9 : k = 9 ∧ 1 < s[k].toNat
          · have x0 : ¬ s[k].toNat = 0 := by omega
            have x1 : (1 : Int) < s[k].toNat := by omega
            have x9 : ((k : Int) == 9) = true := by rw [beq_iff_eq]; omega
            have hf := Hid.mk' (get_form s.data.toList k hld hkl.out (.inl ⟨h9.1, by rw [hgd.out]; exact h9.2⟩))
            clear hld hz hm hc x128 h9
            go_wp2_with fail
            go_ret3
            refine ⟨?_, rfl⟩
            rw [hf.out.1, hf.out.2.1, hf.out.2.2]
            rfl
          · have hor := Hid.mk' (get_or (v7 (s.data.toList.take k)) (s[k].toNat % 128) k hm hk9 (by omega) (fun e => by omega))
            have hf := Hid.mk' (get_ok s.data.toList k hld hkl.out (by rw [hgd.out]; omega))
            have HZ := Hid.mk' hz
            have H9 := Hid.mk' h9
            generalize v7 (s.data.toList.take k) = m at *
            clear hld hz hc h9
            by_cases y0 : s[k].toNat = 0
            · have xk : ((k : Int) != 0) = false := by rw [bne_eq_false_iff_eq]; have := HZ.out; omega
              go_wp2_with fail
              go_ret3
              refine ⟨?_, rfl⟩
              rw [hf.out.1, hf.out.2.1, hf.out.2.2, hst.out]
              exact ret3 ((or_zero _ (by have := pow128_le k hk9; omega)).trans (mul0 _ k m y0)) rfl rfl
            · by_cases y1 : 1 < s[k].toNat
              · have x1 : (1 : Int) < s[k].toNat := by omega
                have x9 : ((k : Int) == 9) = false := by rw [beq_eq_false_iff_ne]; have := H9.out; omega
                clear y1
                go_wp2_with fail
                go_ret3
                refine ⟨?_, rfl⟩
                rw [hf.out.1, hf.out.2.1, hf.out.2.2, hst.out]
                exact ret3 hor.out rfl rfl
              · have x1 : (s[k].toNat : Int) ≤ 1 := by omega
                clear y1
                go_wp2_with fail
                go_ret3
                refine ⟨?_, rfl⟩
                rw [hf.out.1, hf.out.2.1, hf.out.2.2, hst.out]
                exact ret3 hor.out rfl rfl
    · have hld := lead_eq s.data.toList 9 k hk9 (by rw [hlen.out]; exact hk) HA.out (.inl (by rw [hlen.out]; omega))
      have hf := Hid.mk' (get_short s.data.toList (by rw [hld, hlen.out]; omega))
      clear hld
      go_wp2_with fail
      go_ret3
      refine ⟨?_, rfl⟩
      rw [hf.out.1, hf.out.2.1, hf.out.2.2]
      rfl
end Go.Proofs.YtbakgobgjfhhhaaDoor
