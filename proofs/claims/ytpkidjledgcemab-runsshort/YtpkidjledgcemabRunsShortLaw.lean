/- The law RunsShort, walked. -/
import Derived.Test.YtpkidjledgcemabRunsWriteWalks
import Derived.Test.YtpkidjledgcemabRunsBackMath
import Derived.Test.YtpkidjledgcemabI64s
import Derived.Deep.QuietTactic
import Derived.BigQuiet
namespace Go.Proofs.Ytpkidjledgcemab
open Go.RowKit

theorem wds_made (w : World) (t : TypeId) : Wds (w.alloc (.cells (madeCells #[.int .i64 0] 320) t)) (some ⟨w.heap.size, 0, none⟩) 320 (fun _ => 0) :=
  ⟨by omega, fun _ => ⟨w.heap.size, 0, rfl, (row64_made w 320 t).lt, fun i hi => by rw [Nat.zero_add]; exact (row64_made w 320 t).cell i hi⟩, fun _ _ => by omega⟩
theorem zeros_len : fillE (fun _ => 0) 320 = 0 ∧ (rwB (fun _ => 0) 320).length = 22 := by
  have h : fillE (fun _ => (0 : Int)) 320 = 0 := (fill_ok _ _ (by omega) (all_mk fun i _ => by decide)).1
  refine ⟨h, ?_⟩
  have e : rwB (fun _ => 0) 320 = putB 320 ++ rnB (lsF (fun _ => 0) 0 320) := by unfold rwB; rw [if_pos h]
  rw [e, putB_hi 320 (by omega), putB_lo (320 / 128) (by omega), List.length_append]
  have : (rnB (lsF (fun _ => 0) 0 320)).length = 20 := by decide +kernel
  rw [this]; rfl
theorem make_320 (w : World) :
    (Instr.makeSlice 22 (.int .i64 320) (.int .i64 320)).run Try.prog w = .ok (.slice (some ⟨w.heap.size, 0, none⟩) 320 320) (w.alloc (.cells (madeCells #[.int .i64 0] 320) 3)) := by
  obtain ⟨i, hi, hzz⟩ := Option.map_eq_some_iff.1 infoI64
  simp only [Prod.mk.injEq] at hzz
  obtain ⟨hz, hs, hb⟩ := hzz
  have hr := run_make (P := Try.prog) w 22 3 i _ Try.underlying22 hi hz .i64 .i64 320 320 (by omega) (Int.le_refl _) (by rw [hb]; omega) (by omega)
  rw [hs] at hr
  exact hr
theorem below_dS {B : Nat} {a w : World} (h : Below B a w) (q : Nat) : Below B a (w.drewN q) := ⟨h.os, h.tape, h.output, h.size, h.block⟩

set_option maxRecDepth 20000 in
set_option maxHeartbeats 1000000 in
theorem runsShort_walk (a0 : Option Addr) (len cap : Nat) (X : Nat → Int) (w : World) (w0 : Wds w a0 len X) (q0 : len ≤ cap ∧ cap ≤ maxLen) :
    Calls Try.prog 8 #[.slice a0 len cap] w fun e w' => e = .returned (.bool true) ∧ Below w.heap.size w w' := by
  have HP := Hid.mk' w0
  have HQ := Hid.mk' q0
  have hlen := w0.lenB
  clear w0 q0
  obtain ⟨t0, et0⟩ : ∃ t, Hid (ByteArray.mk (rwB (fun _ => 0) 320).toArray = t) := ⟨_, Hid.mk' rfl⟩
  have hsz0 : t0.size = 22 := by rw [← et0.out]; exact zeros_len.2
  have hz0 := Hid.mk' zeros_len.1
  have hmk := make_320 w
  obtain ⟨w1, hw1⟩ : ∃ w1, Hid (w.alloc (.cells (madeCells #[.int .i64 0] 320) 3) = w1) := ⟨_, Hid.mk' rfl⟩
  have HB1 : Hid (Below w.heap.size w w1) := by rw [← hw1.out]; exact (Below.refl _ _).alloc (Nat.le_refl _) _
  have HW1 : Hid (Wds w1 (some ⟨w.heap.size, 0, none⟩) 320 (fun _ => 0)) := by rw [← hw1.out]; exact wds_made w _
  rw [hw1.out] at hmk
  go_enter Try.func8, Try.ntmps8
  go_wp2_with fail
  refine (rwrite_any _ 320 320 (fun _ => 0) _ HW1.out ⟨Nat.le_refl _, by unfold maxLen; omega⟩).mono ?_
  rintro e w2 ⟨rfl, hb⟩
  have HB2 := Hid.mk' (HB1.out.trans (hb.mono HB1.out.size))
  have HP2 := Hid.mk' (wds_below HP.out HB2.out)
  clear hb hmk
  rw [et0.out, hz0.out]
  go_wp2_with fail
  refine (rwrite_any a0 len cap X _ HP2.out HQ.out).mono ?_
  rintro e w3 ⟨rfl, hb⟩
  have HB3 := Hid.mk' (HB2.out.trans (hb.mono HB2.out.size))
  have HP3 := Hid.mk' (wds_below HP2.out hb)
  clear hb
  by_cases hE : fillE X len = 0
  · have hsh := runs_short hE
    have hl := (fill_good hE).1
    rw [hE]
    clear hE
    obtain ⟨t, et⟩ : ∃ t, Hid (ByteArray.mk (rwB X len).toArray = t) := ⟨_, Hid.mk' rfl⟩
    have hts : (rwB X len).length = t.size := by rw [← et.out]; rfl
    rw [hts] at hsh
    rw [et.out]
    clear hts
    go_wp2_with fail
    go_loopw [7, 32] (fun tv iv wr => ∃ k q : Nat, k ≤ len ∧ iv = .int .i64 (k : Int) ∧ tv = .int .i64 (trnF X k : Nat) ∧ wr = w3.drewN q) (fun _ iv _ => len - (intOf iv).toNat)
    case atStart => exact ⟨0, 0, Nat.zero_le _, rfl, rfl, rfl⟩
    case round =>
      obtain ⟨k, q, hk, rfl, rfl, rfl⟩ := hrel
      have htl := trnF_le X k
      by_cases hlt : k < len
      · obtain ⟨b, off, rfl, hb, hc⟩ := HP3.out.at' (by omega)
        have c0 := hc k hlt
        have hS : Hid (trnF X (k + 1) = trnF X k + if k = 0 ∨ X k ≠ X (k - 1) then 1 else 0) := rfl
        obtain ⟨y, hy⟩ : ∃ y, trnF X k = y := ⟨_, rfl⟩
        rw [hy] at htl hS
        rw [hy]
        clear hy
        by_cases h0 : k = 0
        · subst h0
          clear hc
          have hS2 : Hid (trnF X (0 + 1) = y + 1) := hS.out
          go_wp2_with fail
          go_quiet (fail)
          go_wp2_with fail
          go_roundw
          case rel => exact ⟨0 + 1, _, by omega, by go_num, by rw [hS2.out]; go_num, rfl⟩
          case measure => simp [intOf]; omega
        · have c1 := hc (k - 1) (by omega)
          have hkk : (k : Int) - 1 = ((k - 1 : Nat) : Int) := by omega
          have tk0 : ((k : Int) == 0) = false := by rw [beq_eq_false_iff_ne]; omega
          have HK0 := Hid.mk' h0
          obtain ⟨k', hk'⟩ : ∃ k', k - 1 = k' := ⟨_, rfl⟩
          have hk'l : k' < len := by omega
          rw [hk'] at c1 hkk hS
          clear hc h0 hk'
          by_cases he : X k = X k'
          · have te : (X k != X k') = false := by rw [bne_eq_false_iff_eq]; exact he
            have hS2 : Hid (trnF X (k + 1) = y) := by
              show _ = _
              rw [hS.out, if_neg (by have := HK0.out; omega)]; rfl
            clear he
            generalize X k = xa at *
            generalize X k' = xb at *
            go_wp2_with fail
            go_quiet (fail)
            go_wp2_with fail
            go_roundw
            case rel => exact ⟨k + 1, _, by omega, by go_num, by rw [hS2.out], rfl⟩
            case measure => simp [intOf]; omega
          · have te : (X k != X k') = true := by rw [bne_iff_ne]; exact he
            have hS2 : Hid (trnF X (k + 1) = y + 1) := by
              show _ = _
              rw [hS.out, if_pos (.inr he)]
            clear he
            generalize X k = xa at *
            generalize X k' = xb at *
            go_wp2_with fail
            go_quiet (fail)
            go_wp2_with fail
            go_roundw
            case rel => exact ⟨k + 1, _, by omega, by go_num, by rw [hS2.out]; go_num, rfl⟩
            case measure => simp [intOf]; omega
      · have hkl : k = len := by omega
        subst hkl
        obtain ⟨y, hy⟩ : ∃ y, trnF X k = y := ⟨_, rfl⟩
        rw [hy] at htl hsh
        rw [hy]
        clear hy
        obtain ⟨z, hz⟩ : ∃ z, k / 16 = z := ⟨_, rfl⟩
        rw [hz] at hsh
        have x1 : (k : Int) / 16 = (z : Int) := by omega
        have hzl : z ≤ 20 := by omega
        have h1 := hsh.1
        have h2 := hsh.2
        have t1 : decide (t.size ≤ 2 + y + z) = true := decide_eq_true h1
        have t2 : Hid (decide ((t.size : Int) ≤ 2 + (k : Int)) = true) := decide_eq_true (by omega)
        clear hz hsh
        go_wp2_with fail
        go_ret
        refine ⟨?_, below_dS HB3.out _⟩
        rw [t2.out]
        rfl
  · have hr := Hid.mk' (rw_large X len hE)
    have hne : (fillE X len != 0) = true := by rw [bne_iff_ne]; exact hE
    obtain ⟨z, ez⟩ : ∃ z, Hid (fillE X len = z) := ⟨_, Hid.mk' rfl⟩
    rw [hr.out, ez.out]
    rw [ez.out] at hne
    clear hE
    go_wp2_with fail
    go_ret
    exact ⟨rfl, HB3.out⟩
end Go.Proofs.Ytpkidjledgcemab
