/- The law LensFree, walked. -/
import Derived.Test.YtgecdldahgfncabCanonWalks
import Derived.Test.YtgecdldahgfncabEqualInts
import Derived.Test.YtgecdldahgfncabFreeMath
namespace Go.Proofs.Ytgecdldahgfncab
open Go.RowKit

def three (a b c : Int) (i : Nat) : Int := if i = 0 then a else if i = 1 then b else c
theorem can_212 : canE (three 2 1 2) 3 = 0 ∧ canL (three 2 1 2) 3 = 3 := by decide
theorem code_212 : ∀ i, i < 3 → ((codeN (three 2 1 2) 3 i : Nat) : Int) = three 2 0 3 i := by
  intro i hi
  rcases (by omega : i = 0 ∨ i = 1 ∨ i = 2) with rfl | rfl | rfl <;> decide
theorem cells_three (w : World) (t : TypeId) (a b c : Int) : ∀ i, i < 3 → (w.alloc (.cells #[.int .i64 a, .int .i64 b, .int .i64 c] t)).cell? ⟨w.heap.size, 0 + i, none⟩ = some (.int .i64 (three a b c i)) := by
  intro i hi
  rw [Nat.zero_add, World.cell?_alloc_new]
  rcases (by omega : i = 0 ∨ i = 1 ∨ i = 2) with rfl | rfl | rfl <;> rfl
theorem wds_three (w : World) (t : TypeId) : Wds (w.alloc (.cells #[.int .i64 2, .int .i64 1, .int .i64 2] t)) (some ⟨w.heap.size, 0, none⟩) 3 (three 2 1 2) := by
  refine ⟨by omega, fun _ => ⟨w.heap.size, 0, rfl, by simp, cells_three w t 2 1 2⟩, fun i hi => ?_⟩
  unfold three; split <;> (try split) <;> omega
theorem i64s_three (w : World) (t : TypeId) (a b c : Int) : I64s (w.alloc (.cells #[.int .i64 a, .int .i64 b, .int .i64 c] t)) (.slice (some ⟨w.heap.size, 0, none⟩) 3 3) 3 (three a b c) :=
  ⟨_, _, rfl, fun _ => ⟨w.heap.size, 0, rfl, by simp, cells_three w t a b c⟩⟩

set_option maxRecDepth 20000 in
set_option maxHeartbeats 2000000 in
theorem lensFree_walk (a0 : Option Addr) (len cap : Nat) (X : Nat → Int) (w : World) (w0 : Wds w a0 len X) :
    Calls Try.prog 6 #[.slice a0 len cap] w fun e w' => e = .returned (.bool true) ∧ Below w.heap.size w w' := by
  have hlen := w0.lenB
  have HP := Hid.mk' w0
  clear w0
  go_enter Try.func6, Try.ntmps6
  go_wp2_with fail
  refine (canon_any a0 len cap X _ HP.out).mono ?_
  rintro e w1 ⟨⟨v1, rfl, h1⟩, hb1⟩
  have H1 := Hid.mk' h1
  have HB1 := Hid.mk' hb1
  have HP1 := Hid.mk' (wds_below HP.out hb1)
  have hsz := hb1.size
  clear h1 hb1
  by_cases hE : canE X len = 0
  · obtain ⟨hF0, _, hcl⟩ := can_zero X len hE
    obtain ⟨hL, hB, _⟩ := fillE_zero X len hF0
    have hh := H1.out
    rw [hcl] at hh
    obtain ⟨ao, cp, rfl, hc⟩ := hh.is
    have HC := Hid.mk' hc
    have HG := Hid.mk' (fun i hi => all_of hB i hi)
    rw [hE]
    clear hE hF0 hcl hB hc hh H1
    go_wp2_with fail
    go_loopw [27] (fun i wr => ∃ j q : Nat, j ≤ len ∧ i = .int .i64 j ∧ wr = w1.drewN q) (fun i _ => len - (intOf i).toNat)
    case atStart => exact ⟨0, 0, Nat.zero_le _, rfl, rfl⟩
    case round =>
      obtain ⟨j, q, hj, rfl, rfl⟩ := hrel
      by_cases hlt : j < len
      · obtain ⟨b, off, rfl, hb, hc⟩ := HP1.out.at' (by omega)
        obtain ⟨b2, off2, rfl, hb2, hc2⟩ := HC.out (by omega)
        have HX := Hid.mk' hc
        have HY := Hid.mk' hc2
        clear hc hc2
        have c0 := HX.out j hlt
        have d0 := HY.out j hlt
        have hv2 := len_of (HG.out j hlt)
        obtain ⟨v, ev⟩ := Int.eq_ofNat_of_zero_le hv2.1
        rw [ev] at c0 hv2
        have EV := Hid.mk' ev
        have hv15 := hv2.2
        clear ev hv2
        obtain ⟨ci, eci⟩ : ∃ c, Hid (codeN X len j = c) := ⟨_, Hid.mk' rfl⟩
        rw [eci.out] at d0
        go_wp2_with fail
        go_loopw [34] (fun i wr => ∃ k q : Nat, k ≤ len ∧ i = .int .i64 k ∧ wr = w1.drewN q) (fun i _ => len - (intOf i).toNat)
        case atStart => exact ⟨0, q, Nat.zero_le _, rfl, rfl⟩
        case round =>
          obtain ⟨k, q2, hk, rfl, rfl⟩ := hrel
          by_cases hlt2 : k < len
          · have c1 := HX.out k hlt2
            have d1 := HY.out k hlt2
            have hs2 := len_of (HG.out k hlt2)
            obtain ⟨s, es⟩ := Int.eq_ofNat_of_zero_le hs2.1
            rw [es] at c1 hs2
            have ES := Hid.mk' es
            have hs15 := hs2.2
            clear es hs2
            obtain ⟨ck, eck⟩ : ∃ c, Hid (codeN X len k = c) := ⟨_, Hid.mk' rfl⟩
            rw [eck.out] at d1
            by_cases hjk : j = k
            · have t1 : ((j : Int) != (k : Int)) = false := by rw [bne_eq_false_iff_eq]; omega
              clear hjk
              go_wp2_with fail
              go_quiet (fail)
              go_wp2_with fail
              go_roundw
              case rel => exact ⟨k + 1, _, by omega, by go_num, rfl⟩
              case measure => simp [intOf]; omega
            · have t1 : ((j : Int) != (k : Int)) = true := by rw [bne_iff_ne]; omega
              by_cases hv0 : 0 < v
              · have t2 : decide (0 < v) = true := decide_eq_true (by omega)
                by_cases hvs : v ≤ s
                · have t3 : decide (v ≤ s) = true := decide_eq_true (by omega)
                  have hfree := free X len j k v s hlt hlt2 EV.out ES.out hv0 hvs (by omega) hjk
                  rw [eck.out, eci.out] at hfree
                  have hcs : (s : Int) - v = ((s - v : Nat) : Int) := by omega
                  have t4 : ((ck : Int) / 2 ^ (s - v) == (ci : Int)) = false := by
                    rw [beq_eq_false_iff_ne, cast_div_pow]; omega
                  clear hjk hv0 hvs hfree
                  go_wp2_with fail
                  go_quiet (fail)
                  go_wp2_with fail
                  go_roundw
                  case rel => exact ⟨k + 1, _, by omega, by go_num, rfl⟩
                  case measure => simp [intOf]; omega
                · have t3 : decide (v ≤ s) = false := decide_eq_false (by omega)
                  clear hjk hv0 hvs
                  go_wp2_with fail
                  go_quiet (fail)
                  go_wp2_with fail
                  go_roundw
                  case rel => exact ⟨k + 1, _, by omega, by go_num, rfl⟩
                  case measure => simp [intOf]; omega
              · have t2 : decide (0 < v) = false := decide_eq_false (by omega)
                clear hjk hv0
                go_wp2_with fail
                go_quiet (fail)
                go_wp2_with fail
                go_roundw
                case rel => exact ⟨k + 1, _, by omega, by go_num, rfl⟩
                case measure => simp [intOf]; omega
          · go_wp2_with fail
            go_roundw
            case rel => exact ⟨j + 1, _, by omega, by go_num, rfl⟩
            case measure => simp [intOf]; omega
      · go_wp2_with fail
        refine (canon_any _ 3 3 (three 2 1 2) _ (wds_three (w1.drewN q) _)).mono ?_
        rintro e w3 ⟨⟨v3, rfl, h3⟩, hb3⟩
        rw [can_212.1]
        rw [can_212.2] at h3
        have H3 := Hid.mk' h3
        have HB2 := Hid.mk' ((below_drewN HB1.out q).alloc hsz (.cells #[.int .i64 2, .int .i64 1, .int .i64 2] 3))
        have HB3 := Hid.mk' (HB2.out.trans (hb3.mono HB2.out.size))
        have hs3 := HB3.out.size
        clear h3 hb3
        go_wp2_with fail
        have HN : Hid (I64s (w3.alloc (.cells #[.int .i64 2, .int .i64 0, .int .i64 3] 3)) v3 3 (fun i => (codeN (three 2 1 2) 3 i : Int))) := i64s_below H3.out ((Below.refl _ _).alloc (Nat.le_refl _) _)
        refine (equalI_any v3 _ 3 3 _ _ _ (by omega) (by omega) HN.out (i64s_three w3 _ 2 0 3)).mono ?_
        rintro e w4 ⟨rfl, q4, rfl⟩
        have heq : Hid (eqI 3 3 (fun i => (codeN (three 2 1 2) 3 i : Int)) (three 2 0 3) = true) := by
          show _ = _
          unfold eqI
          rw [sameI_of _ _ _ code_212]
          rfl
        rw [heq.out]
        go_wp2_with fail
        go_ret
        exact ⟨rfl, below_drewN (HB3.out.alloc hs3 _) q4⟩
  · have hcl : canL X len = 0 := by unfold canL; rw [if_neg hE]
    have hh := H1.out
    rw [hcl] at hh
    obtain ⟨ao, cp, rfl, _⟩ := hh.is
    generalize canE X len = er at *
    have t : (er != 0) = true := by rw [bne_iff_ne]; exact hE
    clear hh hcl hE H1
    go_wp2_with fail
    go_ret
    exact ⟨rfl, HB1.out⟩
end Go.Proofs.Ytgecdldahgfncab
