/- What linenref.RunsRead answers: what runs.Read does. -/
import Derived.Test.YtpkidjledgcemaaRGetWalks
import Derived.Test.YtpkidjledgcemaaRunsReadWalks
namespace Go.Proofs.Ytpkidjledgcemaa
open Go.RowKit

set_option maxRecDepth 20000 in
set_option maxHeartbeats 2000000 in
theorem rrunsread_any (s : ByteArray) (w : World) (hsz : s.size ≤ 140737488355328) :
    Calls Try.prog 17 #[.string s] w fun e w' => (∃ v, e = .returned (.tuple #[v, .int .i64 (rdRN s.data.toList : Nat), .int .i64 (rdRE s.data.toList)]) ∧ I64s w' v (rdRL s.data.toList).length (fun i => ((rdRL s.data.toList).getD i 0 : Nat))) ∧ Below w.heap.size w w' := by
  have hlen : Hid (s.data.toList.length = s.size) := by show _ = _; rw [Array.length_toList]; rfl
  obtain ⟨i0, hi, hz0, hz1, hz2⟩ := info_parts infoI64
  have KI := Hid.mk' hi
  have KZ0 := Hid.mk' hz0
  have KZ1 := Hid.mk' hz1
  have KZ2 := Hid.mk' hz2
  clear hi hz0 hz1 hz2
  by_cases hE : getE s.data.toList = 0
  · have HE := Hid.mk' hE
    have hkl := getK_le _ hE
    rw [hlen.out] at hkl
    by_cases hA : 320 < getA s.data.toList
    · have hr := Hid.mk' (rdR_large _ hE hA)
      obtain ⟨x, ex⟩ : ∃ t, Hid (getA s.data.toList = t) := ⟨_, Hid.mk' rfl⟩
      obtain ⟨y, ey⟩ : ∃ t, Hid (getK s.data.toList = t) := ⟨_, Hid.mk' rfl⟩
      rw [ex.out] at hA
      rw [ey.out] at hkl
      clear hE
      go_enter Try.func17, Try.ntmps17
      go_wp2_with fail
      refine (rget_any _ _).mono ?_
      rintro e w ⟨rfl, rfl⟩
      rw [ex.out, ey.out, HE.out]
      go_wp2_with fail
      go_ret3
      rw [hr.out.1, hr.out.2.1, hr.out.2.2]
      exact ⟨⟨_, rfl, i64s_nil _ _⟩, Below.refl _ _⟩
    · have hr := Hid.mk' (rdR_run _ hE hA)
      obtain ⟨c, ec⟩ : ∃ t, Hid (getA s.data.toList = t) := ⟨_, Hid.mk' rfl⟩
      obtain ⟨k, ek⟩ : ∃ t, Hid (getK s.data.toList = t) := ⟨_, Hid.mk' rfl⟩
      rw [ec.out] at hA hr
      rw [ek.out] at hkl hr
      have hst0 : Hid (RdSt s.data.toList c k k 0 [] none) := rdst_start _ _ _ (by rw [hlen.out]; exact hkl.1)
      have hk0 := hkl.2
      have hks := hkl.1
      clear hE hkl
      go_enter Try.func17, Try.ntmps17
      go_wp2_with fail
      refine (rget_any _ _).mono ?_
      rintro e w ⟨rfl, rfl⟩
      rw [ec.out, ek.out, HE.out]
      go_wp2_with fail
      go_loopw [8, 9] (fun lv av wr => ∃ (p m : Nat) (acc : List Nat) (pv : Option UInt8), av = .int .i64 (p : Int) ∧ RdSt s.data.toList c k p m acc pv ∧ wr.ownsRow w.heap.size 3 1 lv m (natC acc) ∧ Below w.heap.size w wr) (fun _ av _ => s.size - (intOf av).toNat)
      case atStart => exact ⟨k, 0, [], none, rfl, hst0.out, World.ownsRow_nil _ _ _ _, Below.refl _ _⟩
      case round =>
        obtain ⟨p, m, acc, pv, rfl, hst, hown, hbl⟩ := hrel
        have HS := Hid.mk' hst
        have HO := Hid.mk' hown
        have HB := Hid.mk' hbl
        have hsz2 := hbl.size
        have hmc := hst.le
        have hps := hst.ps
        have hkp := hst.kp
        rw [hlen.out] at hps
        obtain ⟨ao, cp, rfl⟩ := own_slice' hown
        clear hst hown hbl
        by_cases hm : m = c
        · subst hm
          have hd := HS.out.done
          have hfe := Hid.mk' (hr.out.trans hd.1)
          have hfl : Hid (rdRL s.data.toList = acc ∧ rdRN s.data.toList = p) := by
            have := rdR_ok _ hfe.out
            rw [ec.out, ek.out, hd.2.1, hd.2.2] at this
            exact this
          have hal := Hid.mk' HS.out.len
          have tm : ((m : Int) == (m : Int)) = true := by simp
          clear hd
          go_wp2_with fail
          go_ret3
          rw [hfe.out, hfl.out.1, hfl.out.2]
          exact ⟨⟨_, rfl, by rw [hal.out]; exact i64s_of_natC HO.out hal.out⟩, HB.out⟩
        · have tm : ((m : Int) == (c : Int)) = false := by rw [beq_eq_false_iff_ne]; omega
          by_cases hp : p < s.size
          · have hgd := Hid.mk' (getD_byteN s p hp)
            have hb256 := s[p].toNat_lt
            obtain ⟨q, hq⟩ : ∃ q, s[p].toNat / 16 = q := ⟨_, rfl⟩
            obtain ⟨r, hr2⟩ : ∃ r, s[p].toNat % 16 = r := ⟨_, rfl⟩
            have x1 : ((s[p].toNat : Nat) : Int) / 16 = (q : Int) := by omega
            have x2 : ((s[p].toNat : Nat) : Int) % 16 = (r : Int) := by omega
            have HQ := Hid.mk' hq
            have HRm := Hid.mk' hr2
            have hr15 : r ≤ 15 := by omega
            have hq15 : q ≤ 15 := by omega
            have teq : ((p : Int) == (s.size : Int)) = false := by rw [beq_eq_false_iff_ne]; omega
            obtain ⟨n, hn⟩ : ∃ n, r + 1 = n := ⟨_, rfl⟩
            have x3 : (r : Int) + 1 = (n : Int) := by omega
            have hn16 : n ≤ 16 := by omega
            have hn1 : 1 ≤ n := by omega
            have HN := Hid.mk' hn
            clear hq hr2 hn
            by_cases hkp2 : k < p
            · obtain ⟨p1, hp1⟩ : ∃ p1, p - 1 = p1 := ⟨_, rfl⟩
              have hp1s : p1 < s.size := by omega
              have x4 : (p : Int) - 1 = (p1 : Int) := by omega
              have hgd1 := Hid.mk' (getD_byteN s p1 hp1s)
              have hb1 := s[p1].toNat_lt
              obtain ⟨y, hy⟩ : ∃ y, s[p1].toNat / 16 = y := ⟨_, rfl⟩
              obtain ⟨z, hz⟩ : ∃ z, s[p1].toNat % 16 = z := ⟨_, rfl⟩
              have x5 : ((s[p1].toNat : Nat) : Int) / 16 = (y : Int) := by omega
              have x6 : ((s[p1].toNat : Nat) : Int) % 16 = (z : Int) := by omega
              have hbad : Hid (badR pv (s.data.toList.getD p 0) = true ↔ (y = q ∧ z < 15)) := by
                show _ ↔ _
                have h8 := hgd.out; have h6 := HQ.out; have h5 := hgd1.out
                rw [HS.out.bad, hp1]
                exact ⟨fun h => by omega, fun h => by omega⟩
              have hp' : Hid (p < s.data.toList.length) := by rw [hlen.out]; exact hp
              have tk : decide ((k : Int) < (p : Int)) = true := decide_eq_true (by omega)
              have hz15 : z ≤ 15 := by omega
              have hy15 : y ≤ 15 := by omega
              clear hy hz hp1
              by_cases hyq : y = q
              · have tyq : ((y : Int) == (q : Int)) = true := by rw [beq_iff_eq]; omega
                by_cases hz2 : z < 15
                · have tz : decide ((z : Int) < 15) = true := decide_eq_true (by omega)
                  have hfe := Hid.mk' (hr.out.trans (HS.out.form hp'.out hm (.inl (hbad.out.2 ⟨hyq, hz2⟩))))
                  have hfl := Hid.mk' (rdR_bad _ _ hfe.out (by decide))
                  clear hyq hz2
                  go_wp2_with fail
                  go_quiet (fail)
                  go_wp2_with fail
                  go_ret3
                  rw [hfe.out, hfl.out.1, hfl.out.2]
                  exact ⟨⟨_, rfl, i64s_nil _ _⟩, below_dR HB.out _⟩
                · have tz : decide ((z : Int) < 15) = false := decide_eq_false (by omega)
                  have HNB : Hid (¬ badR pv (s.data.toList.getD p 0) = true) := fun h => hz2 (hbad.out.1 h).2
                  clear hyq hz2
                  have hl1 := Hid.mk' HS.out.len
                  go_wp2_with fail
                  go_quiet (fail)
                  go_wp2_with fail
                  clear x2
                  try clear x6
                  go_loopw [8, 64] (fun ov jv ws => ∃ j : Nat, j ≤ n ∧ jv = .int .i64 (j : Int) ∧ ws.ownsRow w.heap.size 3 1 ov (m + j) (natC (acc ++ List.replicate j q)) ∧ Below w.heap.size w ws) (fun _ jv _ => n - (intOf jv).toNat)
                  case atStart => exact ⟨0, Nat.zero_le _, rfl, by simpa using (own_dR HO.out _), below_dR HB.out _⟩
                  case round =>
                    obtain ⟨j, hj, rfl, hown, hbl⟩ := hrel
                    have HOj := Hid.mk' hown
                    have HBj := Hid.mk' hbl
                    have hsj := hbl.size
                    clear hown hbl
                    by_cases hjn : j < n
                    · go_wp2_with (at_builtin; refine wpList_append_own _ rfl (.tmp 66) (.tmp 72) 22 rfl w.heap.size 3 i0 (.int .i64 0) 1 8 Try.underlying22 KI.out KZ0.out KZ1.out KZ2.out rfl (by decide) u8 _ _ rfl (HOj.out.alloc _) ⟨wr.heap.size, 0, none⟩ 1 1 [.int .i64 (q : Int)] rfl rfl (cell_one_new _ _ _) (one_int _ _) (by unfold maxLen; omega) (by omega) (by simp; omega) ?_; intro v6 w6 hown6 hgrow6 _)
                      have HO6 : Hid (w6.ownsRow w.heap.size 3 1 v6 (m + (j + 1)) (natC (acc ++ List.replicate (j + 1) q))) := by
                        rw [List.replicate_succ', ← List.append_assoc, natC_append]; exact hown6
                      have HB6 : Hid (Below w.heap.size w w6) := (HBj.out.alloc hsj _).grown hgrow6 (by simp; omega) fun i hi => (HOj.out.lt i hi).1
                      clear hown6 hgrow6
                      go_wp2_with fail
                      go_roundw
                      case rel => exact ⟨j + 1, by omega, by go_num, HO6.out, HB6.out⟩
                      case measure => simp [intOf]; omega
                    · have hjn2 : j = n := by omega
                      subst hjn2
                      obtain ⟨ao, cp, rfl⟩ := own_slice' HOj.out
                      by_cases hover : c < m + j
                      · have hfe := Hid.mk' (hr.out.trans (HS.out.form hp'.out (by omega) (.inr (by have h8 := hgd.out; have h9 := HRm.out; have h7 := HN.out; omega))))
                        have hfl := Hid.mk' (rdR_bad _ _ hfe.out (by decide))
                        have tv : decide (c < m + j) = true := decide_eq_true hover
                        go_wp2_with fail
                        go_ret3
                        rw [hfe.out, hfl.out.1, hfl.out.2]
                        exact ⟨⟨_, rfl, i64s_nil _ _⟩, HBj.out⟩
                      · have tv : decide (c < m + j) = false := decide_eq_false hover
                        have HS6 : Hid (RdSt s.data.toList c k (p + 1) (m + j) (acc ++ List.replicate j q) (some (s.data.toList.getD p 0))) := by
                          have h8 := hgd.out; have h9 := HRm.out; have h7 := HN.out; have h6 := HQ.out; have hb := HNB.out
                          have := HS.out.step hp'.out (by omega) (by rintro (h | h); exact hb h; omega)
                          rw [show (s.data.toList.getD p 0).toNat % 16 + 1 = j by omega, show (s.data.toList.getD p 0).toNat / 16 = q by omega] at this
                          exact this
                        go_wp2_with fail
                        go_roundw
                        case rel => exact ⟨p + 1, m + j, _, _, by go_num, HS6.out, HOj.out, HBj.out⟩
                        case measure => simp [intOf]; omega
              · have tyq : ((y : Int) == (q : Int)) = false := by rw [beq_eq_false_iff_ne]; omega
                have HNB : Hid (¬ badR pv (s.data.toList.getD p 0) = true) := fun h => hyq (hbad.out.1 h).1
                clear hyq
                have hl1 := Hid.mk' HS.out.len
                go_wp2_with fail
                go_quiet (fail)
                go_wp2_with fail
                clear x2
                try clear x6
                go_loopw [8, 64] (fun ov jv ws => ∃ j : Nat, j ≤ n ∧ jv = .int .i64 (j : Int) ∧ ws.ownsRow w.heap.size 3 1 ov (m + j) (natC (acc ++ List.replicate j q)) ∧ Below w.heap.size w ws) (fun _ jv _ => n - (intOf jv).toNat)
                case atStart => exact ⟨0, Nat.zero_le _, rfl, by simpa using (own_dR HO.out _), below_dR HB.out _⟩
                case round =>
                  obtain ⟨j, hj, rfl, hown, hbl⟩ := hrel
                  have HOj := Hid.mk' hown
                  have HBj := Hid.mk' hbl
                  have hsj := hbl.size
                  clear hown hbl
                  by_cases hjn : j < n
                  · go_wp2_with (at_builtin; refine wpList_append_own _ rfl (.tmp 66) (.tmp 72) 22 rfl w.heap.size 3 i0 (.int .i64 0) 1 8 Try.underlying22 KI.out KZ0.out KZ1.out KZ2.out rfl (by decide) u8 _ _ rfl (HOj.out.alloc _) ⟨wr.heap.size, 0, none⟩ 1 1 [.int .i64 (q : Int)] rfl rfl (cell_one_new _ _ _) (one_int _ _) (by unfold maxLen; omega) (by omega) (by simp; omega) ?_; intro v6 w6 hown6 hgrow6 _)
                    have HO6 : Hid (w6.ownsRow w.heap.size 3 1 v6 (m + (j + 1)) (natC (acc ++ List.replicate (j + 1) q))) := by
                      rw [List.replicate_succ', ← List.append_assoc, natC_append]; exact hown6
                    have HB6 : Hid (Below w.heap.size w w6) := (HBj.out.alloc hsj _).grown hgrow6 (by simp; omega) fun i hi => (HOj.out.lt i hi).1
                    clear hown6 hgrow6
                    go_wp2_with fail
                    go_roundw
                    case rel => exact ⟨j + 1, by omega, by go_num, HO6.out, HB6.out⟩
                    case measure => simp [intOf]; omega
                  · have hjn2 : j = n := by omega
                    subst hjn2
                    obtain ⟨ao, cp, rfl⟩ := own_slice' HOj.out
                    by_cases hover : c < m + j
                    · have hfe := Hid.mk' (hr.out.trans (HS.out.form hp'.out (by omega) (.inr (by have h8 := hgd.out; have h9 := HRm.out; have h7 := HN.out; omega))))
                      have hfl := Hid.mk' (rdR_bad _ _ hfe.out (by decide))
                      have tv : decide (c < m + j) = true := decide_eq_true hover
                      go_wp2_with fail
                      go_ret3
                      rw [hfe.out, hfl.out.1, hfl.out.2]
                      exact ⟨⟨_, rfl, i64s_nil _ _⟩, HBj.out⟩
                    · have tv : decide (c < m + j) = false := decide_eq_false hover
                      have HS6 : Hid (RdSt s.data.toList c k (p + 1) (m + j) (acc ++ List.replicate j q) (some (s.data.toList.getD p 0))) := by
                        have h8 := hgd.out; have h9 := HRm.out; have h7 := HN.out; have h6 := HQ.out; have hb := HNB.out
                        have := HS.out.step hp'.out (by omega) (by rintro (h | h); exact hb h; omega)
                        rw [show (s.data.toList.getD p 0).toNat % 16 + 1 = j by omega, show (s.data.toList.getD p 0).toNat / 16 = q by omega] at this
                        exact this
                      go_wp2_with fail
                      go_roundw
                      case rel => exact ⟨p + 1, m + j, _, _, by go_num, HS6.out, HOj.out, HBj.out⟩
                      case measure => simp [intOf]; omega
            · have tk : decide ((k : Int) < (p : Int)) = false := decide_eq_false (by omega)
              have hp' : Hid (p < s.data.toList.length) := by rw [hlen.out]; exact hp
              have HNB : Hid (¬ badR pv (s.data.toList.getD p 0) = true) := fun h => hkp2 (HS.out.bad.1 h).1
              have hl1 := Hid.mk' HS.out.len
              go_wp2_with fail
              go_quiet (fail)
              go_wp2_with fail
              clear x2
              try clear x6
              go_loopw [8, 64] (fun ov jv ws => ∃ j : Nat, j ≤ n ∧ jv = .int .i64 (j : Int) ∧ ws.ownsRow w.heap.size 3 1 ov (m + j) (natC (acc ++ List.replicate j q)) ∧ Below w.heap.size w ws) (fun _ jv _ => n - (intOf jv).toNat)
              case atStart => exact ⟨0, Nat.zero_le _, rfl, by simpa using (own_dR HO.out _), below_dR HB.out _⟩
              case round =>
                obtain ⟨j, hj, rfl, hown, hbl⟩ := hrel
                have HOj := Hid.mk' hown
                have HBj := Hid.mk' hbl
                have hsj := hbl.size
                clear hown hbl
                by_cases hjn : j < n
                · go_wp2_with (at_builtin; refine wpList_append_own _ rfl (.tmp 66) (.tmp 72) 22 rfl w.heap.size 3 i0 (.int .i64 0) 1 8 Try.underlying22 KI.out KZ0.out KZ1.out KZ2.out rfl (by decide) u8 _ _ rfl (HOj.out.alloc _) ⟨wr.heap.size, 0, none⟩ 1 1 [.int .i64 (q : Int)] rfl rfl (cell_one_new _ _ _) (one_int _ _) (by unfold maxLen; omega) (by omega) (by simp; omega) ?_; intro v6 w6 hown6 hgrow6 _)
                  have HO6 : Hid (w6.ownsRow w.heap.size 3 1 v6 (m + (j + 1)) (natC (acc ++ List.replicate (j + 1) q))) := by
                    rw [List.replicate_succ', ← List.append_assoc, natC_append]; exact hown6
                  have HB6 : Hid (Below w.heap.size w w6) := (HBj.out.alloc hsj _).grown hgrow6 (by simp; omega) fun i hi => (HOj.out.lt i hi).1
                  clear hown6 hgrow6
                  go_wp2_with fail
                  go_roundw
                  case rel => exact ⟨j + 1, by omega, by go_num, HO6.out, HB6.out⟩
                  case measure => simp [intOf]; omega
                · have hjn2 : j = n := by omega
                  subst hjn2
                  obtain ⟨ao, cp, rfl⟩ := own_slice' HOj.out
                  by_cases hover : c < m + j
                  · have hfe := Hid.mk' (hr.out.trans (HS.out.form hp'.out (by omega) (.inr (by have h8 := hgd.out; have h9 := HRm.out; have h7 := HN.out; omega))))
                    have hfl := Hid.mk' (rdR_bad _ _ hfe.out (by decide))
                    have tv : decide (c < m + j) = true := decide_eq_true hover
                    go_wp2_with fail
                    go_ret3
                    rw [hfe.out, hfl.out.1, hfl.out.2]
                    exact ⟨⟨_, rfl, i64s_nil _ _⟩, HBj.out⟩
                  · have tv : decide (c < m + j) = false := decide_eq_false hover
                    have HS6 : Hid (RdSt s.data.toList c k (p + 1) (m + j) (acc ++ List.replicate j q) (some (s.data.toList.getD p 0))) := by
                      have h8 := hgd.out; have h9 := HRm.out; have h7 := HN.out; have h6 := HQ.out; have hb := HNB.out
                      have := HS.out.step hp'.out (by omega) (by rintro (h | h); exact hb h; omega)
                      rw [show (s.data.toList.getD p 0).toNat % 16 + 1 = j by omega, show (s.data.toList.getD p 0).toNat / 16 = q by omega] at this
                      exact this
                    go_wp2_with fail
                    go_roundw
                    case rel => exact ⟨p + 1, m + j, _, _, by go_num, HS6.out, HOj.out, HBj.out⟩
                    case measure => simp [intOf]; omega
          · have hpe : p = s.size := by omega
            have teq : ((p : Int) == (s.size : Int)) = true := by rw [beq_iff_eq]; omega
            have hfe := Hid.mk' (hr.out.trans (HS.out.short (by rw [hlen.out]; exact hpe) hm))
            have hfl := Hid.mk' (rdR_bad _ _ hfe.out (by decide))
            clear hpe
            go_wp2_with fail
            go_ret3
            rw [hfe.out, hfl.out.1, hfl.out.2]
            exact ⟨⟨_, rfl, i64s_nil _ _⟩, HB.out⟩
  · have hr := Hid.mk' (rdR_get _ hE)
    obtain ⟨z, ez⟩ : ∃ t, Hid (getE s.data.toList = t) := ⟨_, Hid.mk' rfl⟩
    rw [ez.out] at hE hr
    have hne : (z != 0) = true := by rw [bne_iff_ne]; exact hE
    clear hE
    go_enter Try.func17, Try.ntmps17
    go_wp2_with fail
    refine (rget_any _ _).mono ?_
    rintro e w ⟨rfl, rfl⟩
    rw [ez.out]
    go_wp2_with fail
    go_ret3
    rw [hr.out.1, hr.out.2.1, hr.out.2.2]
    exact ⟨⟨_, rfl, i64s_nil _ _⟩, Below.refl _ _⟩
end Go.Proofs.Ytpkidjledgcemaa
