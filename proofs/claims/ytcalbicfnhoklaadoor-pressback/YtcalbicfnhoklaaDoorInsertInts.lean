import Derived.Test.YtcalbicfnhoklaaDoorCmpInts
import Derived.Test.YtcalbicfnhoklaaDoorMsac

/- What slices' insertionSort does to a row of signs. -/
namespace Go.Proofs.YtcalbicfnhoklaaDoor
open Go.RowKit

/-- a row of signs that is sorted, as it stands -/
structure SgnRow (w wr : World) (g n : Nat) (s : Nat → Nat) : Prop where
  row : Row64 wr g n (fun i => (s i : Int))
  gr : w.grownBy wr (some g)
theorem SgnRow.drewN {w wr : World} {g n : Nat} {s : Nat → Nat} (h : SgnRow w wr g n s) (q : Nat) : SgnRow w (wr.drewN q) g n s := ⟨⟨h.row.cell, h.row.open', h.row.lt⟩, ⟨h.gr.os, h.gr.tape, h.gr.output, h.gr.size, h.gr.block⟩⟩
theorem SgnRow.swap {w wr : World} {g n : Nat} {s : Nat → Nat} (h : SgnRow w wr g n s) (i j : Nat) (hi : i < n) (hj : j < n) :
    SgnRow w ((wr.setCell ⟨g, i, none⟩ (.int .i64 (s j : Int))).setCell ⟨g, j, none⟩ (.int .i64 (s i : Int))).drew g n (swF s i j) := by
  refine ⟨?_, grown_drew (grown_swap h.gr i j _ _)⟩
  have := (h.row.swap i j hi hj).drew
  rw [swF_map (fun x : Nat => (x : Int)) s i j] at this
  exact this
theorem drewN_addS (w : World) (q r : Nat) : (w.drewN q).drewN r = w.drewN (q + r) := by simp [World.drewN, Nat.add_assoc]

set_option maxRecDepth 20000 in
set_option maxHeartbeats 2000000 in
theorem insertion_int (g n cap a b kb fb : Nat) (a0 : Option Addr) (len fcap : Nat) (F : Nat → Int) (s : Nat → Nat) (w0 w : World) (hO : OrdI w0 g kb fb a0 len fcap F) (hR : SgnRow w0 w g n s) (hs : ∀ i, i < n → s i < len) (hab : a ≤ b) (hb : b ≤ n) (hn : n ≤ 1000000) :
    Calls Tryd.prog 91 #[.slice (some ⟨g, 0, none⟩) n cap, .int .i64 (a : Int), .int .i64 (b : Int), .func (.func 84) #[] #[.pointer (some ⟨kb, 0, none⟩)]] w fun e w' => e = .returned (.tuple #[]) ∧ ∃ s', SgnRow w0 w' g n s' ∧ PermF a b s s' ∧ SortF F s' a b := by
  have HO := Hid.mk' hO
  have HR := Hid.mk' hR
  have HL := Hid.mk' hs
  clear hO hR hs
  go_enter Tryd.func91, Tryd.ntmps91
  go_wp2_with fail
  go_loopw [8] (fun iv wr => ∃ (i : Nat) (t : Nat → Nat), a + 1 ≤ i ∧ i ≤ b + 1 ∧ iv = .int .i64 (i : Int) ∧ SgnRow w0 wr g n t ∧ PermF a b s t ∧ SortF F t a i) (fun iv _ => b + 1 - (intOf iv).toNat)
  case atStart => exact ⟨a + 1, s, Nat.le_refl _, by omega, by exact int_eq (by omega), HR.out, PermF.refl _ _ _, SortF.one _ _ _ _ (Nat.le_refl _)⟩
  case round =>
    clear HR
    obtain ⟨i, t, hi1, hi2, rfl, hrow, hperm, hsort⟩ := hrel
    have HR := Hid.mk' hrow
    have HPm := Hid.mk' hperm
    have HS := Hid.mk' hsort
    clear hrow hperm hsort
    by_cases hlt : i < b
    · go_wp2_with fail
      go_loopw [9] (fun jv wr => ∃ (j : Nat) (u : Nat → Nat), jv = .int .i64 (j : Int) ∧ SgnRow w0 wr g n u ∧ PermF a b s u ∧ InsAt F u a j i) (fun jv _ => (intOf jv).toNat)
      case atStart => exact ⟨i, t, rfl, HR.out, HPm.out, InsAt.start HS.out (by omega)⟩
      case round =>
        clear HR HPm HS
        obtain ⟨j, u, rfl, hrow, hperm, hins⟩ := hrel
        have HR := Hid.mk' hrow
        have HPm := Hid.mk' hperm
        have HI := Hid.mk' hins
        have hja := hins.lo
        have hji := hins.hi
        clear hrow hperm hins
        by_cases hj : a < j
        · obtain ⟨p, rfl⟩ : ∃ p, j = p + 1 := ⟨j - 1, by omega⟩
          have cj := HR.out.row.cell (p + 1) (by omega)
          have cp := HR.out.row.cell p (by omega)
          have fj := HR.out.row.open' (p + 1) (by omega)
          have fp := HR.out.row.open' p (by omega)
          have memb : ∀ z, a ≤ z → z < b → u z < len := fun z h1 h2 => by
            obtain ⟨y, y1, y2, y3⟩ := HPm.out.mem z h1 h2
            rw [y3]; exact HL.out y (by omega)
          have hx := memb (p + 1) (by omega) (by omega)
          have hy := memb p (by omega) (by omega)
          have HSW := Hid.mk' (fun q => (HR.out.drewN q).swap (p + 1) p (by omega) (by omega))
          have HST := Hid.mk' (fun hl => HI.out.step (by omega) hl)
          have HDN := Hid.mk' (fun hs => HI.out.done hs)
          have HP2 := Hid.mk' (HPm.out.trans (swF_perm u a b (p + 1) p ⟨by omega, by omega⟩ ⟨by omega, by omega⟩))
          rw [show p + 1 - 1 = p from rfl] at HST HDN
          obtain ⟨x, hxe⟩ : ∃ x, Hid (u (p + 1) = x) := ⟨_, Hid.mk' rfl⟩
          obtain ⟨y, hye⟩ : ∃ y, Hid (u p = y) := ⟨_, Hid.mk' rfl⟩
          rw [hxe.out] at cj hx HSW HST HDN
          rw [hye.out] at cp hy HSW HST HDN
          have t0 : decide (a < p + 1) = true := decide_eq_true hj
          have t0z : decide ((a : Int) < (p : Int) + 1) = true := decide_eq_true (by omega)
          have p0 : (0 : Int) ≤ (p : Int) := by omega
          have p1 : (p : Int) + 1 < (n : Int) := by omega
          have p2 : (p : Int) < (n : Int) := by omega
          have wp1 : IntKind.i64.wrap (p : Int) = (p : Int) := by rw [IntKind.wrap_i64]; omega
          have HCM : Hid (∀ q, Calls Tryd.prog 84 #[.int .i64 (x : Int), .int .i64 (y : Int), .pointer (some ⟨kb, 0, none⟩)] (wr.drewN q) fun e w' => e = .returned (.int .i64 (cmpV (F x) (F y))) ∧ ∃ r, w' = (wr.drewN q).drewN r) := fun q => cmpI_at g kb fb a0 len fcap F x y _ ((HO.out.grown HR.out.gr).drewN q) hx hy
          by_cases hl : F x < F y
          · have hc : decide (cmpV (F x) (F y) < 0) = true := decide_eq_true ((cmpV_lt _ _).2 hl)
            have hcb : cmpV (F x) (F y) < 0 := (cmpV_lt _ _).2 hl
            have HI2 := Hid.mk' (HST.out hl)
            generalize cmpV (F x) (F y) = cv at *
            go_wp2_with fail
            go_quiet ((first | (go_at_call 84; refine (HCM.out _).mono ?_; rintro e w' ⟨rfl, r, rfl⟩; exact ⟨rfl, _, drewN_addS _ _ _⟩) | fail))
            have HSW2 := Hid.mk' (HSW.out nq)
            have cj2 : (wr.drewN nq).cell? ⟨g, p + 1, none⟩ = _ := cj
            have cp2 : (wr.drewN nq).cell? ⟨g, p, none⟩ = _ := cp
            have fj2 : (wr.drewN nq).frozen? ⟨g, p + 1, none⟩ = _ := fj
            have fp2 : (wr.drewN nq).frozen? ⟨g, p, none⟩ = _ := fp
            clear cj cp fj fp
            obtain ⟨W2, hW2⟩ : ∃ W2, Hid (wr.drewN nq = W2) := ⟨_, Hid.mk' rfl⟩
            rw [hW2.out] at HSW2 cj2 cp2 fj2 fp2 ⊢
            go_wp2_with fail
            go_region
            all_goals
              go_wp2_with fail
              go_roundw
              case rel => exact ⟨p, _, by first | rfl | exact int_eq (by omega), HSW2.out, HP2.out, HI2.out⟩
              case measure => simp [intOf]
          · have hc : decide (cmpV (F x) (F y) < 0) = false := decide_eq_false (fun h => hl ((cmpV_lt _ _).1 h))
            have HS2 := Hid.mk' (HDN.out (.inr (by omega)))
            generalize cmpV (F x) (F y) = cv at *
            go_wp2_with fail
            go_quiet ((first | (go_at_call 84; refine (HCM.out _).mono ?_; rintro e w' ⟨rfl, r, rfl⟩; exact ⟨rfl, _, drewN_addS _ _ _⟩) | fail))
            go_wp2_with fail
            go_roundw
            case rel => exact ⟨i + 1, u, by omega, by omega, by go_num, HR.out.drewN _, HPm.out, HS2.out⟩
            case measure => simp [intOf]; omega
        · have t0 : decide (a < j) = false := decide_eq_false hj
          have HS2 := Hid.mk' (HI.out.done (.inl (by omega)))
          go_wp2_with fail
          go_quiet (fail)
          go_wp2_with fail
          go_roundw
          case rel => exact ⟨i + 1, u, by omega, by omega, by go_num, HR.out.drewN _, HPm.out, HS2.out⟩
          case measure => simp [intOf]; omega
    · go_wp2_with fail
      go_end0
      refine ⟨rfl, t, HR.out, HPm.out, HS.out.sub (Nat.le_refl _) (by omega)⟩
end Go.Proofs.YtcalbicfnhoklaaDoor
