import Derived.Test.YtcalbicfnhoklaaDoorSymMainCo
import Derived.Test.YtcalbicfnhoklaaDoorMsac

/- What slices.SortStableFunc does to a row of coins. -/
namespace Go.Proofs.YtcalbicfnhoklaaDoor
open Go.RowKit

set_option maxRecDepth 20000 in
set_option maxHeartbeats 4000000 in
theorem stable_co (g n cap kb : Nat) (s : Nat → Int × Bool) (w0 w : World) (hO : OrdC w0 g kb) (hR : CoRow w0 w g n s) (hn : n ≤ 1000000) :
    Calls Tryd.prog 86 #[.slice (some ⟨g, 0, none⟩) n cap, .int .i64 (n : Int), .func (.func 87) #[] #[.pointer (some ⟨kb, 0, none⟩)]] w fun e w' => e = .returned (.tuple #[]) ∧ ∃ s', CoRow w0 w' g n s' ∧ PermF 0 n s s' ∧ SortF Prod.fst s' 0 n := by
  have HO := Hid.mk' hO
  have HR := Hid.mk' hR
  clear hO hR
  go_enter Tryd.func86, Tryd.ntmps86
  go_wp2_with fail
  go_loopw [7, 8] (fun av bv wr => ∃ (a : Nat) (t : Nat → Int × Bool), Al 20 a ∧ a ≤ n ∧ av = .int .i64 (a : Int) ∧ bv = .int .i64 ((a + 20 : Nat) : Int) ∧ CoRow w0 wr g n t ∧ PermF 0 n s t ∧ (∀ x, Al 20 x → x < a → SortF Prod.fst t x (x + 20))) (fun av _ _ => n - (intOf av).toNat)
  case atStart => exact ⟨0, s, al_zero _, Nat.zero_le _, rfl, rfl, HR.out, PermF.refl _ _ _, fun x _ h => by omega⟩
  case round =>
    clear HR
    obtain ⟨a, t, hal, han, rfl, rfl, hrow, hperm, hblk⟩ := hrel
    have HA := Hid.mk' hal
    have HR := Hid.mk' hrow
    have HPm := Hid.mk' hperm
    have HB := Hid.mk' hblk
    clear hal hrow hperm hblk
    obtain ⟨b, hb⟩ : ∃ b, Hid (a + 20 = b) := ⟨_, Hid.mk' rfl⟩
    rw [hb.out]
    have hab : a < b := by have := hb.out; omega
    have hbb : b ≤ 1000020 := by have := hb.out; omega
    by_cases hbn : b ≤ n
    · go_wp2_with fail
      refine (insertion_co g n cap a b kb t w0 _ HO.out HR.out (by omega) hbn hn).mono ?_
      rintro e w2 ⟨rfl, t2, hrow, hp, hso⟩
      have HR2 := Hid.mk' hrow
      have HP2 := Hid.mk' (HPm.out.trans (hp.mono (Nat.zero_le _) hbn))
      have HB2 : Hid (∀ x, Al 20 x → x < b → SortF Prod.fst t2 x (x + 20)) := by
        intro x hx hl
        rcases al_near HA.out hx (by have := hb.out; omega) with h | h
        · exact (HB.out x hx h).stay hp (.inl (al_gap hx HA.out h))
        · rw [h, hb.out]; exact hso
      clear hrow hp hso
      go_wp2_with fail
      go_roundw
      case rel => exact ⟨b, t2, by rw [← hb.out]; exact al_add HA.out, hbn, rfl, by exact int_eq (by omega), HR2.out, HP2.out, HB2.out⟩
      case measure => simp [intOf]; omega
    · go_wp2_with fail
      refine (insertion_co g n cap a n kb t w0 _ HO.out HR.out han (Nat.le_refl _) hn).mono ?_
      rintro e w2 ⟨rfl, t2, hrow, hp, hso⟩
      have HR2 := Hid.mk' hrow
      have HP2 := Hid.mk' (HPm.out.trans (hp.mono (Nat.zero_le _) (Nat.le_refl _)))
      have HB2 : Hid (∀ x, Al 20 x → x < n → SortF Prod.fst t2 x (min (x + 20) n)) := by
        intro x hx hl
        rcases al_near HA.out hx (by have := hb.out; omega) with h | h
        · have hgap := al_gap hx HA.out h
          exact ((HB.out x hx h).stay hp (.inl hgap)).sub (Nat.le_refl _) (Nat.min_le_left _ _)
        · rw [h]; exact hso.sub (Nat.le_refl _) (Nat.min_le_right _ _)
      clear hrow hp hso
      have hb20 := Hid.mk' hbn
      clear hbn HR HPm HB
      go_wp2_with fail
      go_loopw [6] (fun sv wr => ∃ (bs : Nat) (t : Nat → Int × Bool), 0 < bs ∧ (bs ≤ 20 ∨ bs ≤ 2 * n) ∧ sv = .int .i64 (bs : Int) ∧ CoRow w0 wr g n t ∧ PermF 0 n s t ∧ (∀ x, Al bs x → x < n → SortF Prod.fst t x (min (x + bs) n))) (fun sv _ => n - (intOf sv).toNat)
      case atStart => exact ⟨20, t2, by omega, .inl (Nat.le_refl _), rfl, HR2.out, HP2.out, HB2.out⟩
      case round =>
        clear HR2 HP2 HB2
        obtain ⟨bs, t, hbs0, hbs1, rfl, hrow, hperm, hblk⟩ := hrel
        have HR := Hid.mk' hrow
        have HPm := Hid.mk' hperm
        have HB := Hid.mk' hblk
        clear hrow hperm hblk
        by_cases hlt : bs < n
        · obtain ⟨D, hD⟩ : ∃ D, Hid (2 * bs = D) := ⟨_, Hid.mk' rfl⟩
          have hDz : 2 * (bs : Int) = (D : Int) := by have := hD.out; omega
          have hDz2 : (bs : Int) * 2 = (D : Int) := by have := hD.out; omega
          have hDb : D ≤ 2000000 := by have := hD.out; omega
          have hD0 : bs < D := by have := hD.out; omega
          go_wp2_with fail
          go_loopw [7, 8] (fun av bv wr => ∃ (a : Nat) (t : Nat → Int × Bool), Al D a ∧ a ≤ n ∧ av = .int .i64 (a : Int) ∧ bv = .int .i64 ((a + D : Nat) : Int) ∧ CoRow w0 wr g n t ∧ PermF 0 n s t ∧ (∀ x, Al D x → x < a → SortF Prod.fst t x (x + D)) ∧ (∀ x, Al bs x → a ≤ x → x < n → SortF Prod.fst t x (min (x + bs) n))) (fun av _ _ => n - (intOf av).toNat)
          case atStart => exact ⟨0, t, al_zero _, Nat.zero_le _, rfl, by exact int_eq (by omega), HR.out, HPm.out, fun x _ h => by omega, fun x h1 _ h2 => HB.out x h1 h2⟩
          case round =>
            clear HR HPm HB
            obtain ⟨a, t, hal, han, rfl, rfl, hrow, hperm, hdone, hrest⟩ := hrel
            have HA2 := Hid.mk' hal
            have HR := Hid.mk' hrow
            have HPm := Hid.mk' hperm
            have HDn := Hid.mk' hdone
            have HRs := Hid.mk' hrest
            clear hal hrow hperm hdone hrest
            have HAh : Hid (Al bs a) := al_half (by rw [hD.out]; exact HA2.out)
            have HAm : Hid (Al bs (a + bs)) := al_add HAh.out
            obtain ⟨b, hb2⟩ : ∃ b, Hid (a + D = b) := ⟨_, Hid.mk' rfl⟩
            obtain ⟨m, hm2⟩ : ∃ m, Hid (a + bs = m) := ⟨_, Hid.mk' rfl⟩
            have hmz : (a : Int) + (bs : Int) = (m : Int) := by have := hm2.out; omega
            have ham : a < m := by have := hm2.out; omega
            have hmb : m < b := by have h1 := hm2.out; have h2 := hb2.out; omega
            have hmd : Hid (m + bs = b) := by show _ = _; have h1 := hm2.out; have h2 := hb2.out; have h3 := hD.out; omega
            have hbb2 : b ≤ 3000000 := by have := hb2.out; omega
            rw [hb2.out]
            rw [hm2.out] at HAm
            by_cases hbn : b ≤ n
            · have S1 : Hid (SortF Prod.fst t a m) := (HRs.out a HAh.out (Nat.le_refl _) (by omega)).sub (Nat.le_refl _) (by have := hm2.out; omega)
              have S2 : Hid (SortF Prod.fst t m b) := (HRs.out m HAm.out (by omega) (by omega)).sub (Nat.le_refl _) (by have := hmd.out; omega)
              go_wp2_with fail
              refine (symC_all g n cap kb w0 HO.out hn _ a m b t _ (Nat.le_refl _) HR.out ham hmb hbn S1.out S2.out).mono ?_
              rintro e w3 ⟨rfl, t3, hrow, hp, hso⟩
              have HR3 := Hid.mk' hrow
              have HP3 := Hid.mk' (HPm.out.trans (hp.mono (Nat.zero_le _) hbn))
              have HD3 : Hid (∀ x, Al D x → x < b → SortF Prod.fst t3 x (x + D)) := by
                intro x hx hl
                rcases al_near HA2.out hx (by have := hb2.out; omega) with h | h
                · exact (HDn.out x hx h).stay hp (.inl (al_gap hx HA2.out h))
                · rw [h, hb2.out]; exact hso
              have HS3 : Hid (∀ x, Al bs x → b ≤ x → x < n → SortF Prod.fst t3 x (min (x + bs) n)) := fun x h1 h2 h3 => (HRs.out x h1 (by omega) h3).stay hp (.inr h2)
              clear hrow hp hso
              go_wp2_with fail
              go_roundw
              case rel => exact ⟨b, t3, by rw [← hb2.out]; exact al_add HA2.out, hbn, rfl, by exact int_eq (by omega), HR3.out, HP3.out, HD3.out, HS3.out⟩
              case measure => simp [intOf]; omega
            · by_cases hmn : m < n
              · have S1 : Hid (SortF Prod.fst t a m) := (HRs.out a HAh.out (Nat.le_refl _) (by omega)).sub (Nat.le_refl _) (by have := hm2.out; omega)
                have S2 : Hid (SortF Prod.fst t m n) := (HRs.out m HAm.out (by omega) hmn).sub (Nat.le_refl _) (by have := hmd.out; omega)
                go_wp2_with fail
                refine (symC_all g n cap kb w0 HO.out hn _ a m n t _ (Nat.le_refl _) HR.out ham hmn (Nat.le_refl _) S1.out S2.out).mono ?_
                rintro e w3 ⟨rfl, t3, hrow, hp, hso⟩
                have HR3 := Hid.mk' hrow
                have HP3 := Hid.mk' (HPm.out.trans (hp.mono (Nat.zero_le _) (Nat.le_refl _)))
                have HD3 : Hid (∀ x, Al D x → x < n → SortF Prod.fst t3 x (min (x + D) n)) := by
                  intro x hx hl
                  rcases al_near HA2.out hx (by have := hb2.out; omega) with h | h
                  · exact ((HDn.out x hx h).stay hp (.inl (al_gap hx HA2.out h))).sub (Nat.le_refl _) (Nat.min_le_left _ _)
                  · rw [h]; exact hso.sub (Nat.le_refl _) (Nat.min_le_right _ _)
                clear hrow hp hso
                go_wp2_with fail
                go_roundw
                case rel => exact ⟨D, t3, by omega, .inr (by have := hD.out; omega), by first | rfl | exact int_eq (by omega), HR3.out, HP3.out, HD3.out⟩
                case measure => simp [intOf]; omega
              · have HD3 : Hid (∀ x, Al D x → x < n → SortF Prod.fst t x (min (x + D) n)) := by
                  intro x hx hl
                  rcases al_near HA2.out hx (by have := hb2.out; omega) with h | h
                  · exact (HDn.out x hx h).sub (Nat.le_refl _) (Nat.min_le_left _ _)
                  · rw [h] at hl ⊢
                    exact (HRs.out a HAh.out (Nat.le_refl _) hl).sub (Nat.le_refl _) (by have := hm2.out; omega)
                go_wp2_with fail
                go_roundw
                case rel => exact ⟨D, t, by omega, .inr (by have := hD.out; omega), by first | rfl | exact int_eq (by omega), HR.out, HPm.out, HD3.out⟩
                case measure => simp [intOf]; omega
        · have HFin : Hid (SortF Prod.fst t 0 n) := by
            by_cases h0 : 0 < n
            · exact (HB.out 0 (al_zero _) h0).sub (Nat.le_refl _) (by omega)
            · exact fun i j k1 k2 k3 => by omega
          go_wp2_with fail
          go_end0
          exact ⟨rfl, t, HR.out, HPm.out, HFin.out⟩

theorem sort_co (g n cap kb : Nat) (s : Nat → Int × Bool) (w : World) (hO : OrdC w g kb) (hR : RowCo w g n s) (hn : n ≤ 1000000) :
    Calls Tryd.prog 75 #[.slice (some ⟨g, 0, none⟩) n cap, .func (.func 87) #[] #[.pointer (some ⟨kb, 0, none⟩)]] w fun e w' => e = .returned (.tuple #[]) ∧ ∃ s', CoRow w w' g n s' ∧ PermF 0 n s s' ∧ SortF Prod.fst s' 0 n := by
  have H := Hid.mk' (stable_co g n cap kb s w w hO ⟨hR, grown_refl _ _⟩ hn)
  clear hO hR
  go_enter Tryd.func75, Tryd.ntmps75
  go_wp2_with fail
  refine H.out.mono ?_
  rintro e w2 ⟨rfl, s', h1, h2, h3⟩
  go_wp2_with fail
  go_end0
  exact ⟨rfl, s', h1, h2, h3⟩
end Go.Proofs.YtcalbicfnhoklaaDoor
