/- What linenref.Get answers: what num.Get does. -/
import Derived.Test.YtbakgobgjfhhhaaDoorGetWalks
namespace Go.Proofs.YtbakgobgjfhhhaaDoor
open Go.RowKit

set_option maxRecDepth 20000 in
set_option maxHeartbeats 2000000 in
theorem rget_any (s : ByteArray) (w : World) :
    Calls Tryd.prog 61 #[.string s] w fun e w' => e = .returned (.tuple #[.int .u64 (getA s.data.toList : Nat), .int .i64 (getK s.data.toList : Nat), .int .i64 (getE s.data.toList)]) ∧ w' = w := by
  have hlen : Hid (s.data.toList.length = s.size) := by show _ = _; rw [Array.length_toList]; rfl
  go_enter Tryd.func61, Tryd.ntmps61
  go_wp2_with fail
  go_loop [5] (fun i => ∃ k : Nat, k ≤ s.size ∧ k ≤ 9 ∧ i = .int .i64 k ∧ (∀ i, i < k → 128 ≤ (s.data.toList.getD i 0).toNat)) (fun i => s.size - (intOf i).toNat)
  case atStart => exact ⟨0, Nat.zero_le _, by omega, rfl, fun i hi => by omega⟩
  case round =>
    obtain ⟨k, hk, hk9, rfl, hall⟩ := hrel
    have HA := Hid.mk' hall
    clear hall
    by_cases hlt : k < s.size
    · have hgd := Hid.mk' (getD_byteN s k hlt)
      have hb256 := s[k].toNat_lt
      have hkl : Hid (k < s.data.toList.length) := by rw [hlen.out]; exact hlt
      by_cases h9 : k = 9
      · subst h9
        have hld := Hid.mk' (lead_eq s.data.toList 9 9 hk9 (by have := hkl.out; omega) HA.out (.inr (.inl rfl)))
        have hff : ∀ _ : 1 < s[9].toNat ∨ s[9].toNat = 0, Hid (getE s.data.toList = 4 ∧ getA s.data.toList = 0 ∧ getK s.data.toList = 0) := fun h => Hid.mk' (get_form s.data.toList 9 hld.out hkl.out (by rw [hgd.out]; omega))
        rcases (by omega : 128 ≤ s[9].toNat ∨ (1 < s[9].toNat ∧ s[9].toNat < 128) ∨ s[9].toNat = 0 ∨ s[9].toNat = 1) with hc | ⟨hc, hd⟩ | hc | hc
        · have hf2 := hff (by omega)
          clear hff
          go_wp2_with fail
          go_ret3
          refine ⟨?_, rfl⟩
          rw [hf2.out.1, hf2.out.2.1, hf2.out.2.2]
          rfl
        · have hf2 := hff (by omega)
          clear hff
          go_wp2_with fail
          go_ret3
          refine ⟨?_, rfl⟩
          rw [hf2.out.1, hf2.out.2.1, hf2.out.2.2]
          rfl
        · have hf2 := hff (by omega)
          clear hff
          go_wp2_with fail
          any_goals (exfalso; simp only [beq_eq_false_iff_ne, ne_eq] at *; omega)
          go_ret3
          refine ⟨?_, rfl⟩
          rw [hf2.out.1, hf2.out.2.1, hf2.out.2.2]
          rfl
        · have hf2 := Hid.mk' (get_ok s.data.toList 9 hld.out hkl.out (by rw [hgd.out]; omega))
          have HBD := Hid.mk' (v7_ok_lt s.data.toList 9 hk9 hkl.out (fun _ => by rw [hgd.out]; omega))
          clear hff
          go_wp2_with fail
          any_goals (exfalso; simp only [beq_iff_eq] at *; omega)
          go_loop [6, 7] (fun t i => ∃ j : Nat, j ≤ 9 + 1 ∧ i = .int .i64 ((j : Int) - 1) ∧ t = .int .u64 (v7 ((s.data.toList.take (9 + 1)).drop j) : Nat)) (fun _ i => (intOf i + 1).toNat)
          case atStart => exact ⟨9 + 1, Nat.le_refl _, by go_num, by rw [List.drop_of_length_le (List.length_take_le _ _)]; rfl⟩
          case round =>
            obtain ⟨j, hj, rfl, rfl⟩ := hrel
            by_cases hlt2 : 0 < j
            · obtain ⟨j, rfl⟩ : ∃ i, j = i + 1 := ⟨j - 1, by omega⟩
              have hst := Hid.mk' (v7_back s 9 j hlt (by omega))
              have hle := v7_drop_le (s.data.toList.take (9 + 1)) j
              rw [hst.out] at hle
              have hjb : j < s.size := by omega
              have hj256 := s[j].toNat_lt
              have hbd2 : s[j].toNat % 128 + 128 * v7 ((s.data.toList.take (9 + 1)).drop (j + 1)) < 18446744073709551616 := Nat.lt_of_le_of_lt hle HBD.out
              generalize v7 ((s.data.toList.take (9 + 1)).drop (j + 1)) = m at *
              rw [show (((j + 1 : Nat) : Int) - 1) = (j : Int) by omega]
              clear hle
              go_wp2_with fail
              go_round
              case rel => exact ⟨j, by omega, rfl, by rw [hst.out]; exact int_eq (by omega)⟩
              case measure => simp [intOf]
            · have hj0 : Hid (j = 0) := by show _ = _; omega
              go_wp2_with fail
              go_ret3
              refine ⟨?_, rfl⟩
              rw [hf2.out.1, hf2.out.2.1, hf2.out.2.2, hj0.out]
              exact ret3 rfl rfl rfl
      · by_cases hc : 128 ≤ s[k].toNat
        · have HA2 : Hid (∀ i, i < k + 1 → 128 ≤ (s.data.toList.getD i 0).toNat) := fun i hi => by
            rcases Nat.lt_succ_iff_lt_or_eq.1 hi with h1 | h1
            · exact HA.out i h1
            · rw [h1, hgd.out]; exact hc
          have hk9' : Hid (k + 1 ≤ 9) := by show _ ≤ _; omega
          have x9 : ((k : Int) == 9) = false := by rw [beq_eq_false_iff_ne]; omega
          go_wp2_with fail
          go_round
          case rel => exact ⟨k + 1, by omega, hk9'.out, by go_num, HA2.out⟩
          case measure => simp [intOf]; omega
        · have hld := Hid.mk' (lead_eq s.data.toList 9 k hk9 (by have := hkl.out; omega) HA.out (.inr (.inr (by rw [hgd.out]; omega))))
          have x9 : ((k : Int) == 9) = false := by rw [beq_eq_false_iff_ne]; omega
          have xs : ((k : Int) == (s.size : Int)) = false := by rw [beq_eq_false_iff_ne]; omega
          have H9 := Hid.mk' h9
          by_cases hk0 : k = 0
          · have hf2 := Hid.mk' (get_ok s.data.toList k hld.out hkl.out (by omega))
            have HBD := Hid.mk' (v7_ok_lt s.data.toList k hk9 hkl.out (fun e => absurd e h9))
            have xk : ¬ (0 : Int) < k := by omega
            clear hk0 h9
            go_wp2_with fail
            go_loop [6, 7] (fun t i => ∃ j : Nat, j ≤ k + 1 ∧ i = .int .i64 ((j : Int) - 1) ∧ t = .int .u64 (v7 ((s.data.toList.take (k + 1)).drop j) : Nat)) (fun _ i => (intOf i + 1).toNat)
            case atStart => exact ⟨k + 1, Nat.le_refl _, by go_num, by rw [List.drop_of_length_le (List.length_take_le _ _)]; rfl⟩
            case round =>
              obtain ⟨j, hj, rfl, rfl⟩ := hrel
              by_cases hlt2 : 0 < j
              · obtain ⟨j, rfl⟩ : ∃ i, j = i + 1 := ⟨j - 1, by omega⟩
                have hst := Hid.mk' (v7_back s k j hlt (by omega))
                have hle := v7_drop_le (s.data.toList.take (k + 1)) j
                rw [hst.out] at hle
                have hjb : j < s.size := by omega
                have hj256 := s[j].toNat_lt
                have hbd2 : s[j].toNat % 128 + 128 * v7 ((s.data.toList.take (k + 1)).drop (j + 1)) < 18446744073709551616 := Nat.lt_of_le_of_lt hle HBD.out
                generalize v7 ((s.data.toList.take (k + 1)).drop (j + 1)) = m at *
                rw [show (((j + 1 : Nat) : Int) - 1) = (j : Int) by omega]
                clear hle
                go_wp2_with fail
                go_round
                case rel => exact ⟨j, by omega, rfl, by rw [hst.out]; exact int_eq (by omega)⟩
                case measure => simp [intOf]
              · have hj0 : Hid (j = 0) := by show _ = _; omega
                go_wp2_with fail
                go_ret3
                refine ⟨?_, rfl⟩
                rw [hf2.out.1, hf2.out.2.1, hf2.out.2.2, hj0.out]
                exact ret3 rfl rfl rfl
          · by_cases hz : s[k].toNat = 0
            · have hf2 := Hid.mk' (get_form s.data.toList k hld.out hkl.out (by rw [hgd.out]; omega))
              have xk : (0 : Int) < k := by omega
              go_wp2_with fail
              go_ret3
              refine ⟨?_, rfl⟩
              rw [hf2.out.1, hf2.out.2.1, hf2.out.2.2]
              rfl
            · have hf2 := Hid.mk' (get_ok s.data.toList k hld.out hkl.out (by rw [hgd.out]; omega))
              have HBD := Hid.mk' (v7_ok_lt s.data.toList k hk9 hkl.out (fun e => absurd e h9))
              have xk : (0 : Int) < k := by omega
              go_wp2_with fail
              go_loop [6, 7] (fun t i => ∃ j : Nat, j ≤ k + 1 ∧ i = .int .i64 ((j : Int) - 1) ∧ t = .int .u64 (v7 ((s.data.toList.take (k + 1)).drop j) : Nat)) (fun _ i => (intOf i + 1).toNat)
              case atStart => exact ⟨k + 1, Nat.le_refl _, by go_num, by rw [List.drop_of_length_le (List.length_take_le _ _)]; rfl⟩
              case round =>
                obtain ⟨j, hj, rfl, rfl⟩ := hrel
                by_cases hlt2 : 0 < j
                · obtain ⟨j, rfl⟩ : ∃ i, j = i + 1 := ⟨j - 1, by omega⟩
                  have hst := Hid.mk' (v7_back s k j hlt (by omega))
                  have hle := v7_drop_le (s.data.toList.take (k + 1)) j
                  rw [hst.out] at hle
                  have hjb : j < s.size := by omega
                  have hj256 := s[j].toNat_lt
                  have hbd2 : s[j].toNat % 128 + 128 * v7 ((s.data.toList.take (k + 1)).drop (j + 1)) < 18446744073709551616 := Nat.lt_of_le_of_lt hle HBD.out
                  generalize v7 ((s.data.toList.take (k + 1)).drop (j + 1)) = m at *
                  rw [show (((j + 1 : Nat) : Int) - 1) = (j : Int) by omega]
                  clear hle
                  go_wp2_with fail
                  go_round
                  case rel => exact ⟨j, by omega, rfl, by rw [hst.out]; exact int_eq (by omega)⟩
                  case measure => simp [intOf]
                · have hj0 : Hid (j = 0) := by show _ = _; omega
                  go_wp2_with fail
                  go_ret3
                  refine ⟨?_, rfl⟩
                  rw [hf2.out.1, hf2.out.2.1, hf2.out.2.2, hj0.out]
                  exact ret3 rfl rfl rfl
    · have hld := lead_eq s.data.toList 9 k hk9 (by rw [hlen.out]; exact hk) HA.out (.inl (by rw [hlen.out]; omega))
      have hf := Hid.mk' (get_short s.data.toList (by rw [hld, hlen.out]; omega))
      clear hld
      go_wp2_with fail
      go_ret3
      refine ⟨?_, rfl⟩
      rw [hf.out.1, hf.out.2.1, hf.out.2.2]
      rfl
end Go.Proofs.YtbakgobgjfhhhaaDoor
