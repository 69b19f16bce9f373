import Derived.Test.YtcalbicfnhoklaaDoorCmpCoins
import Derived.Test.YtcalbicfnhoklaaDoorMsac
import Derived.Deep.QuietTactic
import Derived.BigQuiet
import Derived.Deep.DrawnRows

/- What slices' insertionSort does to a row of coins. -/
namespace Go.Proofs.YtcalbicfnhoklaaDoor
open Go.RowKit

attribute [local go_sem] Go.wp_at_zero Go.wp_at_succ
set_option maxRecDepth 20000 in
set_option maxHeartbeats 2000000 in
theorem insertion_co (g n cap a b kb : Nat) (s : Nat → Int × Bool) (w0 w : World) (hO : OrdC w0 g kb) (hR : CoRow w0 w g n s) (hab : a ≤ b) (hb : b ≤ n) (hn : n ≤ 1000000) :
    Calls Tryd.prog 94 #[.slice (some ⟨g, 0, none⟩) n cap, .int .i64 (a : Int), .int .i64 (b : Int), .func (.func 87) #[] #[.pointer (some ⟨kb, 0, none⟩)]] w fun e w' => e = .returned (.tuple #[]) ∧ ∃ s', CoRow w0 w' g n s' ∧ PermF a b s s' ∧ SortF Prod.fst s' a b := by
  have HO := Hid.mk' hO
  have HR := Hid.mk' hR
  clear hO hR
  go_enter Tryd.func94, Tryd.ntmps94
  go_wp2_with fail
  go_loopw [8] (fun iv wr => ∃ (i : Nat) (t : Nat → Int × Bool), a + 1 ≤ i ∧ i ≤ b + 1 ∧ iv = .int .i64 (i : Int) ∧ CoRow w0 wr g n t ∧ PermF a b s t ∧ SortF Prod.fst t a i) (fun iv _ => b + 1 - (intOf iv).toNat)
  case atStart => exact ⟨a + 1, s, Nat.le_refl _, by omega, by exact int_eq (by omega), HR.out, PermF.refl _ _ _, SortF.one _ _ _ _ (Nat.le_refl _)⟩
  case round =>
    clear HR
    obtain ⟨i, t, hi1, hi2, rfl, hrow, hperm, hsort⟩ := hrel
    have HR := Hid.mk' hrow
    have HPm := Hid.mk' hperm
    have HS := Hid.mk' hsort
    clear hrow hperm hsort
    by_cases hlt : i < b
    · go_wp2_with fail
      go_loopw [9] (fun jv wr => ∃ (j : Nat) (u : Nat → Int × Bool), jv = .int .i64 (j : Int) ∧ CoRow w0 wr g n u ∧ PermF a b s u ∧ InsAt Prod.fst u a j i) (fun jv _ => (intOf jv).toNat)
      case atStart => exact ⟨i, t, rfl, HR.out, HPm.out, InsAt.start HS.out (by omega)⟩
      case round =>
        clear HR HPm HS
        obtain ⟨j, u, rfl, hrow, hperm, hins⟩ := hrel
        have HR := Hid.mk' hrow
        have HPm := Hid.mk' hperm
        have HI := Hid.mk' hins
        have hja := hins.lo
        have hji := hins.hi
        clear hrow hperm hins
        by_cases hj : a < j
        · obtain ⟨p, rfl⟩ : ∃ p, j = p + 1 := ⟨j - 1, by omega⟩
          have cj := HR.out.row.c0 (p + 1) (by omega)
          have cj1 := HR.out.row.c1 (p + 1) (by omega)
          have cp := HR.out.row.c0 p (by omega)
          have cp1 := HR.out.row.c1 p (by omega)
          have HST := Hid.mk' (fun hl => HI.out.step (by omega) hl)
          have HDN := Hid.mk' (fun hs => HI.out.done hs)
          have HP2 := Hid.mk' (HPm.out.trans (swF_perm u a b (p + 1) p ⟨by omega, by omega⟩ ⟨by omega, by omega⟩))
          rw [show p + 1 - 1 = p from rfl] at HST HDN
          obtain ⟨⟨x, x1⟩, hxe⟩ : ∃ x, Hid (u (p + 1) = x) := ⟨_, Hid.mk' rfl⟩
          obtain ⟨⟨y, y1⟩, hye⟩ : ∃ y, Hid (u p = y) := ⟨_, Hid.mk' rfl⟩
          rw [hxe.out] at cj cj1 HST HDN
          rw [hye.out] at cp cp1 HST HDN
          have t0 : decide (a < p + 1) = true := decide_eq_true hj
          have t0z : decide ((a : Int) < (p : Int) + 1) = true := decide_eq_true (by omega)
          have p0 : (0 : Int) ≤ (p : Int) := by omega
          have p1 : (p : Int) + 1 < (n : Int) := by omega
          have p2 : (p : Int) < (n : Int) := by omega
          have p3 : (0 : Int) ≤ (p : Int) + 1 := by omega
          have wp1 : IntKind.i64.wrap (p : Int) = (p : Int) := by rw [IntKind.wrap_i64]; omega
          have wp2 : IntKind.i64.wrap ((p : Int) + 1 - 1) = (p : Int) := by rw [IntKind.wrap_i64]; omega
          have wp3 : IntKind.i64.wrap ((p : Int) + 1) = (p : Int) + 1 := by rw [IntKind.wrap_i64]; omega
          have HOr := Hid.mk' (HO.out.grown HR.out.gr)
          have hgl := HR.out.row.lt
          have hpn1 : p + 1 < n := by omega
          have hpn : p < n := by omega
          obtain ⟨cv, hcv⟩ : ∃ cv, Hid (cmpV x y = cv) := ⟨_, Hid.mk' rfl⟩
          by_cases hl : x < y
          · have hcb : cv < 0 := by rw [← hcv.out]; exact (cmpV_lt _ _).2 hl
            have hc : decide (cv < 0) = true := decide_eq_true hcb
            have HI2 := Hid.mk' (HST.out hl)
            go_wp2_with fail
            go_region_held3 (fun X => X.cell? ⟨g, (p + 1) * 2, none⟩ = some (.int .i64 x) ∧ X.cell? ⟨g, (p + 1) * 2 + 1, none⟩ = some (.bool x1) ∧ X.cell? ⟨g, p * 2, none⟩ = some (.int .i64 y) ∧ X.cell? ⟨g, p * 2 + 1, none⟩ = some (.bool y1)) (first | exact ⟨ej, ej1, ep, ep1⟩ | exact ⟨cj, cj1, cp, cp1⟩) (first | (go_at_call 87; refine (cmpC_at kb x y x1 y1 wr.drew HOr.out.k HOr.out.kl).mono ?_; rintro e w2 ⟨rfl, hb⟩; rw [hcv.out]; have HR2 := Hid.mk' (HR.out.drew.below hb); have ej := HR2.out.row.c0 (p + 1) hpn1; have ej1 := HR2.out.row.c1 (p + 1) hpn1; have ep := HR2.out.row.c0 p hpn; have ep1 := HR2.out.row.c1 p hpn; rw [hxe.out] at ej ej1; rw [hye.out] at ep ep1; clear hb) | fail)
            all_goals
              have fj := HR2.out.row.f0 (p + 1) hpn1
              have fj1 := HR2.out.row.f1 (p + 1) hpn1
              have fp := HR2.out.row.f0 p hpn
              have fp1 := HR2.out.row.f1 p hpn
              have HSW := Hid.mk' (HR2.out.swap (p + 1) p hpn1 hpn)
              rw [hxe.out, hye.out] at HSW
              clear cj cj1 cp cp1
              go_wp2_with fail
              go_region
              all_goals
                go_wp2_with fail
                go_roundw
                case rel => exact ⟨p, _, by first | rfl | exact int_eq (by omega), HSW.out, HP2.out, HI2.out⟩
                case measure => simp [intOf]
          · have hc : decide (cv < 0) = false := by rw [← hcv.out]; exact decide_eq_false (fun h => hl ((cmpV_lt _ _).1 h))
            have HS2 := Hid.mk' (HDN.out (.inr (by show y ≤ x; omega)))
            go_wp2_with fail
            go_region_held3 (fun X => X.cell? ⟨g, (p + 1) * 2, none⟩ = some (.int .i64 x) ∧ X.cell? ⟨g, (p + 1) * 2 + 1, none⟩ = some (.bool x1) ∧ X.cell? ⟨g, p * 2, none⟩ = some (.int .i64 y) ∧ X.cell? ⟨g, p * 2 + 1, none⟩ = some (.bool y1)) (first | exact ⟨ej, ej1, ep, ep1⟩ | exact ⟨cj, cj1, cp, cp1⟩) (first | (go_at_call 87; refine (cmpC_at kb x y x1 y1 wr.drew HOr.out.k HOr.out.kl).mono ?_; rintro e w2 ⟨rfl, hb⟩; rw [hcv.out]; have HR2 := Hid.mk' (HR.out.drew.below hb); have ej := HR2.out.row.c0 (p + 1) hpn1; have ej1 := HR2.out.row.c1 (p + 1) hpn1; have ep := HR2.out.row.c0 p hpn; have ep1 := HR2.out.row.c1 p hpn; rw [hxe.out] at ej ej1; rw [hye.out] at ep ep1; clear hb) | fail)
            all_goals
              go_wp2_with fail
              go_roundw
              case rel => exact ⟨i + 1, u, by omega, by omega, by go_num, HR2.out, HPm.out, HS2.out⟩
              case measure => simp [intOf]; omega
        · have t0 : decide (a < j) = false := decide_eq_false hj
          have HS2 := Hid.mk' (HI.out.done (.inl (by omega)))
          go_wp2_with fail
          go_quiet (fail)
          go_wp2_with fail
          go_roundw
          case rel => exact ⟨i + 1, u, by omega, by omega, by go_num, (by exact ⟨⟨HR.out.row.c0, HR.out.row.c1, HR.out.row.f0, HR.out.row.f1, HR.out.row.lt⟩, ⟨HR.out.gr.os, HR.out.gr.tape, HR.out.gr.output, HR.out.gr.size, HR.out.gr.block⟩⟩), HPm.out, HS2.out⟩
          case measure => simp [intOf]; omega
    · go_wp2_with fail
      go_end0
      refine ⟨rfl, t, HR.out, HPm.out, HS.out.sub (Nat.le_refl _) (by omega)⟩
end Go.Proofs.YtcalbicfnhoklaaDoor
