/- What lens.Canon answers. -/
import Derived.Test.YtganplceeapjcaaFillWalks
import Derived.Test.YtganplceeapjcaaCanonMath
import Derived.Test.YtganplceeapjcaaI64s
namespace Go.Proofs.Ytganplceeapjcaa
open Go.RowKit

set_option maxRecDepth 20000 in
set_option maxHeartbeats 1000000 in
theorem canon_any (a0 : Option Addr) (len cap : Nat) (W : Nat → Int) (w : World) (hP : Wds w a0 len W) :
    Calls Try.prog 39 #[.slice a0 len cap] w fun e w' => (∃ v, e = .returned (.tuple #[v, .int .i64 (canE W len)]) ∧ I64s w' v (canL W len) (fun i => (codeN W len i : Int))) ∧ Below w.heap.size w w' := by
  have hlen := hP.lenB
  have HP := Hid.mk' hP
  clear hP
  by_cases hE : fillE W len = 0
  · obtain ⟨hL, hB, hA⟩ := fillE_zero W len hE
    have HG := Hid.mk' (fun i hi => all_of hB i hi)
    clear hB
    by_cases hF : 32768 < fillN W len
    · have hco := Hid.mk' (can_over W len hE hF)
      have HE := Hid.mk' hE
      have HA := Hid.mk' hA
      have hfb := sumP_le W (fun _ _ => true) len
      rw [← fillN] at hfb
      clear hE hA
      go_enter Try.func39, Try.ntmps39
      go_wp2_with fail
      refine (fill_any a0 len cap W _ HP.out).mono ?_
      rintro e w' ⟨rfl, rfl⟩
      rw [HE.out, HA.out]
      generalize fillN W len = x at *
      go_wp2_with fail
      go_ret2
      refine ⟨⟨.slice none 0 0, ?_, ?_⟩, Below.refl _ _⟩
      · rw [hco.out.1]; rfl
      · rw [hco.out.2]; exact i64s_nil _ _
    · have hco := Hid.mk' (can_ok W len hE (by omega))
      have HE := Hid.mk' hE
      have HA := Hid.mk' hA
      have HF := Hid.mk' (show fillN W len ≤ 32768 by omega)
      clear hE hA
      have hmk := fun w => run_make_row' (P := Try.prog) 43 3 (.int .i64 0) 8 Try.underlying43 infoI64 rfl .i64 .i64 len (by omega) (by omega) w
      go_enter Try.func39, Try.ntmps39
      go_wp2_with fail
      refine (fill_any a0 len cap W _ HP.out).mono ?_
      rintro e w' ⟨rfl, rfl⟩
      rw [HE.out, HA.out]
      generalize fillN W len = x at hF ⊢
      go_wp2_with fail
      clear hmk
      go_loopw [7, 8] (fun n i wr => ∃ t : Nat, t ≤ 15 ∧ i = .int .i64 ((t + 1 : Nat) : Int) ∧ n = .int .i64 (nx W len t : Nat) ∧ Row64 wr w'.heap.size len (fun i => (stN W len (t + 1) 0 i : Int)) ∧ Below w'.heap.size w' wr) (fun _ i _ => 16 - (intOf i).toNat)
      case atStart => exact ⟨0, by omega, rfl, rfl, (row64_made _ _ _).congr fun i hi => by rw [st_start W len i (HG.out i hi)]; rfl, (Below.refl _ _).alloc (Nat.le_refl _) _⟩
      case round =>
        obtain ⟨t, ht, rfl, rfl, hrow, hbl⟩ := hrel
        have HR := Hid.mk' hrow
        have HB := Hid.mk' hbl
        have hnx := nx_le W len t (by omega) HF.out
        clear hrow hbl
        by_cases ht15 : t < 15
        · have hnn : Hid (nx W len (t + 1) = 2 * nx W len t + cnt W (t + 1) len) := rfl
          have hset := Hid.mk' (fun k i => st_set W len t k i)
          generalize nx W len t = q at *
          go_wp2_with fail
          go_loopw [7, 32] (fun n i wr => ∃ k : Nat, k ≤ len ∧ i = .int .i64 k ∧ n = .int .i64 ((2 * q + cnt W (t + 1) k : Nat) : Int) ∧ Row64 wr w'.heap.size len (fun i => (stN W len (t + 1) k i : Int)) ∧ Below w'.heap.size w' wr) (fun _ i _ => len - (intOf i).toNat)
          case atStart => exact ⟨0, Nat.zero_le _, rfl, by exact int_eq (by rw [cnt]; omega), HR.out, HB.out⟩
          case round =>
            obtain ⟨k, hk, rfl, rfl, hrow, hbl⟩ := hrel
            have HR2 := Hid.mk' hrow
            have HB2 := Hid.mk' hbl
            have hcn := cnt_le W (t + 1) k
            clear hrow hbl
            by_cases hlt : k < len
            · obtain ⟨b, off, rfl, hb, hc⟩ := HP.out.at' (by omega)
              have c0 := (HB2.out.cell (p := ⟨b, off + k, none⟩) hb).trans (hc k hlt)
              clear hc
              by_cases hw : W k = ((t + 1 : Nat) : Int)
              · rw [hw] at c0
                have hc1 := Hid.mk' (cnt_yes W (t + 1) k hw)
                have hcc := HR2.out.cell k hlt
                have hff := HR2.out.open' k hlt
                have HS : Hid (Row64 (wr.setCell ⟨w'.heap.size, k, none⟩ (.int .i64 (2 * (q : Int) + (cnt W (t + 1) k : Int)))) w'.heap.size len (fun i => (stN W len (t + 1) (k + 1) i : Int))) :=
                  (HR2.out.set k hlt _).congr fun i hi => by
                    rw [hset.out k i hw]
                    by_cases e : i = k
                    · rw [if_pos e, if_pos e]; omega
                    · rw [if_neg e, if_neg e]
                clear hw
                generalize cnt W (t + 1) k = c at *
                go_wp2_with fail
                go_roundw
                case rel => exact ⟨k + 1, by omega, by go_num, by rw [hc1.out]; exact int_eq (by omega), HS.out, HB2.out.setCell (Nat.le_refl _) _⟩
                case measure => simp [intOf]; omega
              · have hw' : (W k == ((t + 1 : Nat) : Int)) = false := by rw [beq_eq_false_iff_ne]; exact hw
                have hc1 := Hid.mk' (cnt_no W (t + 1) k hw)
                have HS : Hid (Row64 wr w'.heap.size len (fun i => (stN W len (t + 1) (k + 1) i : Int))) :=
                  HR2.out.congr fun i hi => by rw [st_skip W len (t + 1) k i hw]
                clear hw
                generalize cnt W (t + 1) k = c at *
                go_wp2_with fail
                go_roundw
                case rel => exact ⟨k + 1, by omega, by go_num, by rw [hc1.out], HS.out, HB2.out⟩
                case measure => simp [intOf]; omega
            · have hkl := Hid.mk' (show k = len by omega)
              have HS : Hid (Row64 wr w'.heap.size len (fun i => (stN W len (t + 1 + 1) 0 i : Int))) :=
                HR2.out.congr fun i hi => by rw [hkl.out, st_next W len (t + 1) i hi]
              go_wp2_with fail
              go_roundw
              case rel => exact ⟨t + 1, by omega, by go_num, by rw [hnn.out, hkl.out], HS.out, HB2.out⟩
              case measure => simp [intOf]; omega
        · have ht' := Hid.mk' (show t = 15 by omega)
          have HS : Hid (Row64 wr w'.heap.size len (fun i => (codeN W len i : Int))) :=
            HR.out.congr fun i hi => by rw [ht'.out, st_end W len i (HG.out i hi)]
          go_wp2_with fail
          go_ret2
          refine ⟨⟨.slice (some ⟨w'.heap.size, 0, none⟩) len len, ?_, ?_⟩, HB.out⟩
          · rw [hco.out.1]; rfl
          · rw [hco.out.2]; exact HS.out.i64s
  · have hce := Hid.mk' (can_err W len hE)
    go_enter Try.func39, Try.ntmps39
    go_wp2_with fail
    refine (fill_any a0 len cap W _ HP.out).mono ?_
    rintro e w' ⟨rfl, rfl⟩
    have hE' : (fillE W len != 0) = true := by rw [bne_iff_ne]; exact hE
    obtain ⟨er, eer⟩ : ∃ er, Hid (fillE W len = er) := ⟨_, Hid.mk' rfl⟩
    rw [eer.out] at hE' hE ⊢
    generalize fillA W len = x
    go_wp2_with fail
    go_ret2
    refine ⟨⟨.slice none 0 0, ?_, ?_⟩, Below.refl _ _⟩
    · rw [hce.out.1, eer.out]; rfl
    · rw [hce.out.2]; exact i64s_nil _ _
end Go.Proofs.Ytganplceeapjcaa
