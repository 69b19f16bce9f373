import Derived.Test.YtcalbicfnhoklaaDoorMsai
import Derived.Test.YtcalbicfnhoklaaDoorMsac
import Derived.BigRegion

/- What slices' swapRange and rotate do to a row of ints. -/
namespace Go.Proofs.YtcalbicfnhoklaaDoor
open Go.RowKit

theorem Row64.swap {w : World} {g n : Nat} {f : Nat → Int} (h : Row64 w g n f) (i j : Nat) (hi : i < n) (hj : j < n) :
    Row64 ((w.setCell ⟨g, i, none⟩ (.int .i64 (f j))).setCell ⟨g, j, none⟩ (.int .i64 (f i))) g n (swF f i j) :=
  ((h.set i hi (f j)).set j hj (f i)).congr fun x hx => by
    unfold swF
    by_cases e : x = j
    · rw [if_pos e]
      by_cases e2 : x = i
      · rw [if_pos e2, ← e, ← e2]
      · rw [if_neg e2, if_pos e]
    · rw [if_neg e, if_neg e]
theorem Row64.drew {w : World} {g n : Nat} {f : Nat → Int} (h : Row64 w g n f) : Row64 w.drew g n f := ⟨h.cell, h.open', h.lt⟩

set_option maxRecDepth 20000 in
set_option maxHeartbeats 2000000 in
theorem swapRange_int (g n cap a b m : Nat) (f : Nat → Int) (cv : Value) (w : World) (hR : Row64 w g n f) (hab : a + m ≤ b) (hb : b + m ≤ n) (hn : n ≤ 1000000) :
    Calls Tryd.prog 101 #[.slice (some ⟨g, 0, none⟩) n cap, .int .i64 (a : Int), .int .i64 (b : Int), .int .i64 (m : Int), cv] w fun e w' => e = .returned (.tuple #[]) ∧ Row64 w' g n (swR f a b m) ∧ w.grownBy w' (some g) := by
  have HR := Hid.mk' hR
  clear hR
  go_enter Tryd.func101, Tryd.ntmps101
  go_wp2_with fail
  go_loopw [10] (fun i wr => ∃ k : Nat, k ≤ m ∧ i = .int .i64 (k : Int) ∧ Row64 wr g n (swR f a b k) ∧ w.grownBy wr (some g)) (fun i _ => m - (intOf i).toNat)
  case atStart => exact ⟨0, Nat.zero_le _, rfl, by rw [swR_zero]; exact HR.out, grown_refl _ _⟩
  case round =>
    clear HR
    obtain ⟨k, hk, rfl, hrow, hgr⟩ := hrel
    have HR := Hid.mk' hrow
    have HGr := Hid.mk' hgr
    clear hrow hgr
    by_cases hlt : k < m
    · obtain ⟨i, hi⟩ : ∃ i, Hid (a + k = i) := ⟨_, Hid.mk' rfl⟩
      obtain ⟨j, hj⟩ : ∃ j, Hid (b + k = j) := ⟨_, Hid.mk' rfl⟩
      have hiz : (a : Int) + (k : Int) = (i : Int) := by have := hi.out; omega
      have hjz : (b : Int) + (k : Int) = (j : Int) := by have := hj.out; omega
      have hin : i < n := by have := hi.out; omega
      have hjn : j < n := by have := hj.out; omega
      have hij : i ≠ j := by have h1 := hi.out; have h2 := hj.out; omega
      have ci := HR.out.cell i hin
      have cj := HR.out.cell j hjn
      have fi := HR.out.open' i hin
      have fj := HR.out.open' j hjn
      have HS := Hid.mk' (HR.out.swap i j hin hjn)
      have hst := Hid.mk' (swR_step f a b k (by omega))
      rw [hi.out, hj.out] at hst
      obtain ⟨x, hx⟩ : ∃ x, Hid (swR f a b k i = x) := ⟨_, Hid.mk' rfl⟩
      obtain ⟨y, hy⟩ : ∃ y, Hid (swR f a b k j = y) := ⟨_, Hid.mk' rfl⟩
      rw [hx.out] at ci HS
      rw [hy.out] at cj HS
      rw [hst.out] at HS
      have i0 : (0 : Int) ≤ (i : Int) := by omega
      have i1 : (i : Int) < (n : Int) := by omega
      have j0 : (0 : Int) ≤ (j : Int) := by omega
      have j1 : (j : Int) < (n : Int) := by omega
      have wi : IntKind.i64.wrap (i : Int) = (i : Int) := by rw [IntKind.wrap_i64]; omega
      have wj : IntKind.i64.wrap (j : Int) = (j : Int) := by rw [IntKind.wrap_i64]; omega
      go_wp2_with fail
      go_region
      all_goals
        go_wp2_with fail
        go_roundw
        case rel => exact ⟨k + 1, by omega, by go_num, HS.out.drew, grown_drew (grown_swap HGr.out i j _ _)⟩
        case measure => simp [intOf]; omega
    · have hkm := Hid.mk' (show k = m by omega)
      go_wp2_with fail
      go_end0
      refine ⟨rfl, ?_, HGr.out⟩
      have := HR.out
      rwa [hkm.out] at this

set_option maxRecDepth 20000 in
set_option maxHeartbeats 2000000 in
theorem rotate_int (g n cap a m b : Nat) (f : Nat → Int) (cv : Value) (w : World) (hR : Row64 w g n f) (hab : a < m) (hmb : m < b) (hb : b ≤ n) (hn : n ≤ 1000000) :
    Calls Tryd.prog 99 #[.slice (some ⟨g, 0, none⟩) n cap, .int .i64 (a : Int), .int .i64 (m : Int), .int .i64 (b : Int), cv] w fun e w' => e = .returned (.tuple #[]) ∧ Row64 w' g n (rotF f a m b) ∧ w.grownBy w' (some g) := by
  have HR := Hid.mk' hR
  clear hR
  go_enter Tryd.func99, Tryd.ntmps99
  go_wp2_with fail
  go_loopw [10, 11] (fun iv jv wr => ∃ (i j : Nat) (f' : Nat → Int), 0 < i ∧ 0 < j ∧ a + i ≤ m ∧ m + j ≤ b ∧ iv = .int .i64 (i : Int) ∧ jv = .int .i64 (j : Int) ∧ Row64 wr g n f' ∧ rotF f' (m - i) m (m + j) = rotF f a m b ∧ w.grownBy wr (some g)) (fun iv jv _ => (intOf iv).toNat + (intOf jv).toNat)
  case atStart =>
    refine ⟨m - a, b - m, f, by omega, by omega, by omega, by omega, by exact int_eq (by omega), by exact int_eq (by omega), HR.out, ?_, grown_refl _ _⟩
    rw [show m - (m - a) = a by omega, show m + (b - m) = b by omega]
  case round =>
    clear HR
    obtain ⟨i, j, f', hi0, hj0, him, hjb, rfl, rfl, hrow, hrot, hgr⟩ := hrel
    have HR := Hid.mk' hrow
    have HT := Hid.mk' hrot
    have HGr := Hid.mk' hgr
    clear hrow hrot hgr
    obtain ⟨p, hp⟩ : ∃ p, Hid (m - i = p) := ⟨_, Hid.mk' rfl⟩
    have hpz : (m : Int) - (i : Int) = (p : Int) := by have := hp.out; omega
    by_cases hij : i = j
    · have t0 : ((i : Int) != (j : Int)) = false := by rw [hij]; simp
      have hev := Hid.mk' (rotF_even f' m i (by omega))
      rw [hp.out] at hev
      have hfin : Hid (swR f' p m i = rotF f a m b) := by
        show _ = _
        rw [hev.out, ← HT.out, hp.out, hij]
      have hmi : m + i ≤ n := by omega
      clear hij
      go_wp2_with fail
      refine (swapRange_int g n cap p m i f' cv _ HR.out (by have := hp.out; omega) hmi hn).mono ?_
      rintro e w2 ⟨rfl, hrow, hgr⟩
      rw [hfin.out] at hrow
      have HR2 := Hid.mk' hrow
      have HG2 := Hid.mk' (grown_trans HGr.out hgr)
      clear hrow hgr
      go_wp2_with fail
      go_end0
      exact ⟨rfl, HR2.out, HG2.out⟩
    · have t0 : ((i : Int) != (j : Int)) = true := by rw [bne_iff_ne]; omega
      by_cases hlt : j < i
      · have hlong := Hid.mk' (rotF_long f' m i j (by omega) hlt)
        rw [HT.out, hp.out] at hlong
        have t1 : decide (j < i) = true := decide_eq_true hlt
        clear hij
        go_wp2_with fail
        refine (swapRange_int g n cap p m j f' cv _ HR.out (by have := hp.out; omega) (by omega) hn).mono ?_
        rintro e w2 ⟨rfl, hrow, hgr⟩
        have HR2 := Hid.mk' hrow
        have HG2 := Hid.mk' (grown_trans HGr.out hgr)
        clear hrow hgr
        go_wp2_with fail
        go_roundw
        case rel => exact ⟨i - j, j, _, by omega, by omega, by omega, by omega, by exact int_eq (by omega), rfl, HR2.out, hlong.out, HG2.out⟩
        case measure => simp [intOf]; omega
      · have hshort := Hid.mk' (rotF_short f' m i j (by omega) (by omega))
        rw [HT.out, hp.out] at hshort
        have t1 : decide (j < i) = false := decide_eq_false hlt
        obtain ⟨r, hr⟩ : ∃ r, Hid (m + j - i = r) := ⟨_, Hid.mk' rfl⟩
        have hrz : (m : Int) + (j : Int) - (i : Int) = (r : Int) := by have := hr.out; omega
        rw [hr.out] at hshort
        have hlt2 : i < j := by omega
        clear hij hlt
        go_wp2_with fail
        refine (swapRange_int g n cap p r i f' cv _ HR.out (by have h1 := hp.out; have h2 := hr.out; omega) (by have h2 := hr.out; omega) hn).mono ?_
        rintro e w2 ⟨rfl, hrow, hgr⟩
        have HR2 := Hid.mk' hrow
        have HG2 := Hid.mk' (grown_trans HGr.out hgr)
        clear hrow hgr
        go_wp2_with fail
        go_roundw
        case rel => exact ⟨i, j - i, _, by omega, by omega, by omega, by omega, rfl, by exact int_eq (by omega), HR2.out, by rw [hp.out]; exact hshort.out, HG2.out⟩
        case measure => simp [intOf]; omega
end Go.Proofs.YtcalbicfnhoklaaDoor
