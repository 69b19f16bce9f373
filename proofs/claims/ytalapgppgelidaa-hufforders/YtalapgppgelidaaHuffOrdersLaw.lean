/- The law HuffOrders, walked. -/
import Derived.Test.YtalapgppgelidaaHLensWalks
import Derived.Test.YtalapgppgelidaaLnFacts
import Derived.Test.YtalapgppgelidaaEqualInts
import Derived.SizedLaws
namespace Go.Proofs.Ytalapgppgelidaa
open Go.RowKit

def f3011 (i : Nat) : Int := if i = 0 then 3 else if i = 1 then 0 else 1
def l1022 (i : Nat) : Int := if i = 0 then 1 else if i = 1 then 0 else 2
theorem wds_3011 (w : World) (t : TypeId) : Wds (w.alloc (.cells #[.int .i64 3, .int .i64 0, .int .i64 1, .int .i64 1] t)) (some ⟨w.heap.size, 0, none⟩) 4 f3011 := by
  refine ⟨by omega, fun _ => ⟨w.heap.size, 0, rfl, by simp, fun i hi => ?_⟩, fun i hi => ?_⟩
  · rw [Nat.zero_add, World.cell?_alloc_new]
    rcases (by omega : i = 0 ∨ i = 1 ∨ i = 2 ∨ i = 3) with rfl | rfl | rfl | rfl <;> rfl
  · unfold f3011; split
    · omega
    · split <;> omega
theorem i64s_1022 (w : World) (t : TypeId) : I64s (w.alloc (.cells #[.int .i64 1, .int .i64 0, .int .i64 2, .int .i64 2] t)) (.slice (some ⟨w.heap.size, 0, none⟩) 4 4) 4 l1022 := by
  refine ⟨_, _, rfl, fun _ => ⟨w.heap.size, 0, rfl, by simp, fun i hi => ?_⟩⟩
  rw [Nat.zero_add, World.cell?_alloc_new]
  rcases (by omega : i = 0 ∨ i = 1 ∨ i = 2 ∨ i = 3) with rfl | rfl | rfl | rfl <;> rfl
theorem cm_3011 : cmL f3011 4 = [0, 2, 3] := by decide +kernel
theorem lens_3011 : lensE f3011 4 2 = 0 := by decide +kernel
theorem ok_3011 {T : Nat → Nat} (h : LnOk f3011 4 2 T) : ∀ i, i < 4 → (T i : Int) = l1022 i := by
  have e1 := h.out 1 (by omega) (by decide)
  have a0 := h.lo 0 (by omega) (by decide)
  have a2 := h.lo 2 (by omega) (by decide)
  have a3 := h.lo 3 (by omega) (by decide)
  have hB := h.best
  rw [cm_3011] at hB
  have hc := hB.2 [(3, 1), (1, 2), (1, 2)] (List.Perm.refl _) ⟨fun p hp => by simp at hp; rcases hp with rfl | rfl <;> decide, fun p hp => by simp at hp; rcases hp with rfl | rfl <;> decide, by decide⟩
  have hk := hB.1.room
  have hc' : 3 * T 0 + (1 * T 2 + (1 * T 3 + 0)) ≤ 7 := hc
  have hk' : 2 ^ (15 - T 0) + (2 ^ (15 - T 2) + (2 ^ (15 - T 3) + 0)) ≤ 32768 := hk
  have h0 : T 0 = 1 := by omega
  have h2 : T 2 = 2 := by
    rcases (by omega : T 2 = 1 ∨ T 2 = 2) with h2 | h2
    · rw [h0, h2] at hk'
      have := Nat.two_pow_pos (15 - T 3)
      omega
    · exact h2
  have h3 : T 3 = 2 := by
    rcases (by omega : T 3 = 1 ∨ T 3 = 2) with h3 | h3
    · rw [h0, h3] at hk'
      have := Nat.two_pow_pos (15 - T 2)
      omega
    · exact h3
  intro i hi
  rcases (by omega : i = 0 ∨ i = 1 ∨ i = 2 ∨ i = 3) with rfl | rfl | rfl | rfl
  · rw [h0]; rfl
  · rw [e1]; rfl
  · rw [h2]; rfl
  · rw [h3]; rfl
theorem eq_1022 : eqI 4 4 l1022 l1022 = true := by decide +kernel

set_option maxRecDepth 20000 in
set_option maxHeartbeats 2000000 in
theorem huffOrders_walk (a0 : Option Addr) (len cap : Nat) (F : Nat → Int) (a1 : Int) (w : World) (w0 : Wds w a0 len F) (w1 : (Lit.int .i64 a1).wf = true) :
    Calls Try.prog 5 #[.slice a0 len cap, .int .i64 a1] w fun e w' => e = .returned (.bool true) ∧ Below w.heap.size w w' := by
  have HB := Hid.mk' (bounds_i64 w1)
  have HP := Hid.mk' w0
  have hlen := w0.lenB
  clear w0 w1
  go_enter Try.func5, Try.ntmps5
  go_wp2_with fail
  refine (hlens_any _ 4 4 f3011 2 _ (wds_3011 w 3) (by omega)).mono ?_
  rintro e wa ⟨⟨v, rfl, hans⟩, hb⟩
  rw [lens_3011]
  rcases hans with ⟨hne, _⟩ | ⟨_, T, g, rfl, hg, hrow, hok⟩
  · exact absurd lens_3011 hne
  have HI := Hid.mk' ((hrow.congr (ok_3011 hok)).i64s (cap := 4))
  have HBa : Hid (Below w.heap.size w wa) := ((Below.refl _ _).alloc (Nat.le_refl _) _).trans (hb.mono (by simp))
  clear hrow hok hb hg
  go_wp2_with fail
  refine (equalI_any _ _ 4 4 l1022 l1022 _ (by omega) (by omega) (i64s_below HI.out ((Below.refl _ _).alloc (Nat.le_refl _) _)) (i64s_1022 wa 3)).mono ?_
  rintro e w' ⟨rfl, q, rfl⟩
  rw [eq_1022]
  have HB2 : Hid (Below w.heap.size w ((wa.alloc (.cells #[.int .i64 1, .int .i64 0, .int .i64 2, .int .i64 2] 3)).drewN q)) := below_drewN (HBa.out.alloc HBa.out.size _) q
  obtain ⟨w2, hw2⟩ : ∃ w2, Hid ((wa.alloc (.cells #[.int .i64 1, .int .i64 0, .int .i64 2, .int .i64 2] 3)).drewN q = w2) := ⟨_, Hid.mk' rfl⟩
  rw [hw2.out] at HB2 ⊢
  clear HI HBa hw2
  go_wp2_with fail
  refine (hlens_any a0 len cap F a1 _ (wds_below HP.out HB2.out) HB.out).mono ?_
  rintro e w3 ⟨⟨v, rfl, hans⟩, hb3⟩
  have HB3 : Hid (Below w.heap.size w w3) := HB2.out.trans (hb3.mono HB2.out.size)
  clear hb3
  have his := lensE_is F len a1
  rcases hans with ⟨hne, rfl⟩ | ⟨h0, T, g, rfl, hg, hrow, hok⟩
  · have hn2 : (lensE F len a1 != 0) = true := by rw [bne_iff_ne]; exact hne
    obtain ⟨x, hx⟩ : ∃ x, Hid (lensE F len a1 = x) := ⟨_, Hid.mk' rfl⟩
    rw [hx.out] at his hn2 ⊢
    clear hne
    go_wp2_with fail
    go_ret
    exact ⟨rfl, HB3.out⟩
  · have HR := Hid.mk' hrow
    have HO : Hid (∀ i k, i < len → k < len → 0 < F k → F k < F i → ¬ T k < T i) := fun i k hi hk h1 h2 => by have := hok.order i k hi hk h1 h2; omega
    have HT : Hid (∀ i, i < len → T i ≤ 15) := by
      obtain ⟨_, h2, h3, _⟩ := lensE_zero h0
      exact fun i hi => hok.le (by omega) i hi
    have HP3 : Hid (Wds w3 a0 len F) := wds_below HP.out HB3.out
    have hne : ((len : Int) != (len : Int)) = false := by simp
    rw [h0]
    clear hrow hok h0 his
    go_wp2_with fail
    go_loopw [48] (fun i wr => ∃ k q : Nat, k ≤ len ∧ i = .int .i64 k ∧ wr = w3.drewN q) (fun i _ => len - (intOf i).toNat)
    case atStart => exact ⟨0, 0, Nat.zero_le _, rfl, rfl⟩
    case round =>
      obtain ⟨i, q, hi, rfl, rfl⟩ := hrel
      by_cases hlt : i < len
      · obtain ⟨b, off, rfl, hb, hc⟩ := HP3.out.at' (by omega)
        have HC := Hid.mk' hc
        clear hc
        go_wp2_with fail
        go_loopw [53] (fun i wr => ∃ k q : Nat, k ≤ len ∧ i = .int .i64 k ∧ wr = w3.drewN q) (fun i _ => len - (intOf i).toNat)
        case atStart => exact ⟨0, q, Nat.zero_le _, rfl, rfl⟩
        case round =>
          obtain ⟨k, r, hk, rfl, rfl⟩ := hrel
          by_cases hkt : k < len
          · have c1 := HC.out i hlt
            have c2 := HC.out k hkt
            have c3 := HR.out.cell i hlt
            have c4 := HR.out.cell k hkt
            have t3 := HT.out i hlt
            have t4 := HT.out k hkt
            have ho := HO.out i k hlt hkt
            generalize F i = x at *
            generalize F k = y at *
            generalize T i = s at *
            generalize T k = t at *
            by_cases h1 : 0 < y
            · by_cases h2 : y < x
              · have h3 := ho h1 h2
                clear ho
                go_wp2_with fail
                go_quiet (fail)
                go_wp2_with fail
                go_roundw
                case rel => exact ⟨k + 1, _, by omega, by go_num, rfl⟩
                case measure => simp [intOf]; omega
              · have d2 : decide (y < x) = false := decide_eq_false h2
                clear ho h2
                go_wp2_with fail
                go_quiet (fail)
                go_wp2_with fail
                go_roundw
                case rel => exact ⟨k + 1, _, by omega, by go_num, rfl⟩
                case measure => simp [intOf]; omega
            · have d2 : decide (0 < y) = false := decide_eq_false h1
              clear ho h1
              go_wp2_with fail
              go_quiet (fail)
              go_wp2_with fail
              go_roundw
              case rel => exact ⟨k + 1, _, by omega, by go_num, rfl⟩
              case measure => simp [intOf]; omega
          · go_wp2_with fail
            go_roundw
            case rel => exact ⟨i + 1, _, by omega, by go_num, rfl⟩
            case measure => simp [intOf]; omega
      · go_wp2_with fail
        go_ret
        exact ⟨rfl, below_drewN HB3.out _⟩
end Go.Proofs.Ytalapgppgelidaa
