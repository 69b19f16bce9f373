/- What slices.Reverse does to ops in a row of the call's own: they stay in it. -/
import Derived.Test.YtdolbgbgnplfhaaReverseWalks
import Derived.Laws.OwnMore
namespace Go.Proofs.Ytdolbgbgnplfhaa
open Go.RowKit

set_option maxRecDepth 20000 in
set_option maxHeartbeats 2000000 in
theorem reverse_rowO (g n cap N : Nat) (xs : List Value) (f : Nat → Opp) (w : World) (hR : RowOp w g n f) (hO : w.ownsRow N 29 3 (.slice (some ⟨g, 0, none⟩) n cap) n xs) (hn : n ≤ 8796093022208) :
    Calls Try.prog 37 #[.slice (some ⟨g, 0, none⟩) n cap] w fun e w' => e = .returned (.tuple #[]) ∧ RowOp w' g n (fun i => f (n - 1 - i)) ∧ (∃ xs, w'.ownsRow N 29 3 (.slice (some ⟨g, 0, none⟩) n cap) n xs) ∧ w.grownBy w' (some g) := by
  have HR := Hid.mk' hR
  have HO := Hid.mk' hO
  clear hR hO
  go_enter Try.func37, Try.ntmps37
  go_wp2_with fail
  go_loopw [2, 3] (fun iv jv wr => ∃ k : Nat, k ≤ n ∧ iv = .int .i64 (k : Int) ∧ jv = .int .i64 ((n : Int) - 1 - (k : Int)) ∧ RowOp wr g n (revF n f k) ∧ (∃ xs, wr.ownsRow N 29 3 (.slice (some ⟨g, 0, none⟩) n cap) n xs) ∧ w.grownBy wr (some g)) (fun iv _ _ => n - (intOf iv).toNat)
  case atStart => exact ⟨0, Nat.zero_le _, rfl, by go_num, HR.out.congr (fun i hi => (revF_zero n f i hi).symm), ⟨_, HO.out⟩, grown_refl _ _⟩
  case round =>
    clear HR HO
    obtain ⟨k, hk, rfl, rfl, hrow, ⟨ys, hys⟩, hgr⟩ := hrel
    have HO := Hid.mk' hys
    have HR := Hid.mk' hrow
    have HGr := Hid.mk' hgr
    clear hrow hgr hys
    by_cases hlt : k + 1 < n - k
    · obtain ⟨j, hj⟩ : ∃ j, Hid (j + k + 1 = n) := ⟨n - k - 1, Hid.mk' (by omega)⟩
      have ej : (n : Int) - 1 - (k : Int) = (j : Int) := by have := hj.out; omega
      rw [ej]
      have hkj : k < j := by have := hj.out; omega
      have hkn : k < n := by omega
      have hjn : j < n := by have := hj.out; omega
      have a0 := HR.out.c0 k hkn
      have a1 := HR.out.c1 k hkn
      have a2 := HR.out.c2 k hkn
      have b0 := HR.out.c0 j hjn
      have b1 := HR.out.c1 j hjn
      have b2 := HR.out.c2 j hjn
      have af0 := HR.out.f0 k hkn
      have af1 := HR.out.f1 k hkn
      have af2 := HR.out.f2 k hkn
      have bf0 := HR.out.f0 j hjn
      have bf1 := HR.out.f1 j hjn
      have bf2 := HR.out.f2 j hjn
      obtain ⟨x, hx⟩ : ∃ x, revF n f k k = x := ⟨_, rfl⟩
      obtain ⟨y, hy⟩ : ∃ y, revF n f k j = y := ⟨_, rfl⟩
      have HS := Hid.mk' (HR.out.turn hj.out hkj hx hy)
      have HG2 := Hid.mk' (grown_set3 HGr.out k j x y)
      rw [hx] at a0 a1 a2
      rw [hy] at b0 b1 b2
      have HO2 : Hid (∃ xs, (set3 (set3 wr g k y) g j x).ownsRow N 29 3 (.slice (some ⟨g, 0, none⟩) n cap) n xs) := ⟨_, (((((HO.out.stored _ _).1.stored _ _).1.stored _ _).1.stored _ _).1.stored _ _).1.stored _ _ |>.1⟩
      clear hx hy hlt
      obtain ⟨x0, x1, x2⟩ := x
      obtain ⟨y0, y1, y2⟩ := y
      simp only [set3] at HS HG2 HO2
      simp only at a0 a1 a2 b0 b1 b2
      have i0 : (0 : Int) ≤ (k : Int) := by omega
      have i1 : (k : Int) < (n : Int) := by omega
      have j0 : (0 : Int) ≤ (j : Int) := by omega
      have j1 : (j : Int) < (n : Int) := by omega
      have wi : IntKind.i64.wrap (k : Int) = (k : Int) := by rw [IntKind.wrap_i64]; omega
      have wj : IntKind.i64.wrap (j : Int) = (j : Int) := by rw [IntKind.wrap_i64]; omega
      go_wp2_with fail
      go_region
      all_goals
        go_wp2_with fail
        go_roundw
        case rel => exact ⟨k + 1, by omega, by go_num, by have := hj.out; go_num, HS.out.drew, (by obtain ⟨zs, hz⟩ := HO2.out; exact ⟨zs, hz.drew⟩), grown_drew HG2.out⟩
        case measure => simp [intOf]; omega
    · have hfin := Hid.mk' (HR.out.congr (fun i hi => revF_end n f k i hi (by omega)))
      go_wp2_with fail
      go_end0
      exact ⟨rfl, hfin.out, ⟨_, HO.out⟩, HGr.out⟩
theorem reverse_anyO (v : Value) (N n : Nat) (R : List Opp) (w : World) (h : w.ownsRow N 29 3 v n (opC R)) (hn : R.length = n) (hb : n ≤ 8796093022208) (hN : N ≤ w.heap.size) :
    Calls Try.prog 37 #[v] w fun e w' => e = .returned (.tuple #[]) ∧ (∃ ao cap, v = .slice ao n cap ∧ Rd w' ao n 3 (opC R.reverse) ∧ n ≤ cap ∧ cap ≤ maxLen ∧ (ao = none → cap = 0)) ∧ (∃ xs, w'.ownsRow N 29 3 v n xs) ∧ w.grownBy w' v.ownBlock := by
  rcases h.2 with ⟨rfl, rfl⟩ | ⟨g, cap, cur, rfl, _⟩
  · refine (reverse_nil w).mono ?_
    rintro e w' ⟨rfl, rfl⟩
    obtain rfl := List.length_eq_zero_iff.1 hn
    exact ⟨rfl, ⟨none, 0, rfl, Rd.nil _ _ _, Nat.le_refl _, Nat.zero_le _, fun _ => rfl⟩, ⟨_, h⟩, grown_refl _ _⟩
  · obtain ⟨h1, h2, h3, h4⟩ := rowop_of_own h hn
    refine (reverse_rowO g n cap N _ _ w h1 h hb).mono ?_
    rintro e w' ⟨rfl, hr, hx, hg⟩
    exact ⟨rfl, ⟨_, cap, rfl, rd_of_rowop hr hn, h3, h4, fun e => by cases e⟩, hx, hg⟩
end Go.Proofs.Ytdolbgbgnplfhaa
