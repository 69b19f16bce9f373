/- The law LensTiles, walked. -/
import Derived.Test.YtgecdldahgfncabCanonWalks
import Derived.Test.YtgecdldahgfncabTilesMath
namespace Go.Proofs.Ytgecdldahgfncab
open Go.RowKit

def two115 (i : Nat) : Int := if i = 0 then 1 else 15
theorem fill_115 : fillA two115 2 = 16385 ∧ fillE two115 2 = 0 := by decide
theorem wds_two (w : World) (t : TypeId) : Wds (w.alloc (.cells #[.int .i64 1, .int .i64 15] t)) (some ⟨w.heap.size, 0, none⟩) 2 two115 := by
  refine ⟨by omega, fun _ => ⟨w.heap.size, 0, rfl, by simp, fun i hi => ?_⟩, fun i hi => ?_⟩
  · rw [Nat.zero_add, World.cell?_alloc_new]
    rcases (by omega : i = 0 ∨ i = 1) with rfl | rfl <;> rfl
  · unfold two115; split <;> omega

set_option maxRecDepth 20000 in
set_option maxHeartbeats 2000000 in
theorem lensTiles_walk (a0 : Option Addr) (len cap : Nat) (X : Nat → Int) (w : World) (w0 : Wds w a0 len X) :
    Calls Try.prog 7 #[.slice a0 len cap] w fun e w' => e = .returned (.bool true) ∧ Below w.heap.size w w' := by
  have hlen := w0.lenB
  have HP := Hid.mk' w0
  clear w0
  go_enter Try.func7, Try.ntmps7
  go_wp2_with fail
  refine (canon_any a0 len cap X _ HP.out).mono ?_
  rintro e w1 ⟨⟨v1, rfl, h1⟩, hb1⟩
  have H1 := Hid.mk' h1
  have HB1 := Hid.mk' hb1
  have HP1 := Hid.mk' (wds_below HP.out hb1)
  have hsz := hb1.size
  clear h1 hb1
  go_wp2_with fail
  refine (fill_any a0 len cap X _ HP1.out).mono ?_
  rintro e w2 ⟨rfl, rfl⟩
  by_cases hE : canE X len = 0
  · obtain ⟨hF0, hF, hcl⟩ := can_zero X len hE
    obtain ⟨hL, hB, hA⟩ := fillE_zero X len hF0
    have hh := H1.out
    rw [hcl] at hh
    obtain ⟨ao, cp, rfl, hc⟩ := hh.is
    have HC := Hid.mk' hc
    have HG := Hid.mk' (fun i hi => all_of hB i hi)
    rw [hE, hF0, hA]
    obtain ⟨n, en⟩ : ∃ n, Hid (fillN X len = n) := ⟨_, Hid.mk' rfl⟩
    rw [en.out] at hF ⊢
    clear hE hF0 hcl hB hA hc hh H1
    go_wp2_with fail
    go_loop [7, 8] (fun x i => ∃ s : Nat, 0 < s ∧ s ≤ 16 ∧ i = .int .i64 s ∧ x = .int .i64 (lowN X (s - 1) len : Nat)) (fun _ i => 16 - (intOf i).toNat)
    case atStart => exact ⟨1, by omega, by omega, rfl, by rw [show 1 - 1 = 0 from rfl, lowN_zero]; rfl⟩
    case round =>
      obtain ⟨s, hs0, hs16, rfl, rfl⟩ := hrel
      by_cases hs : s ≤ 15
      · have hlo := sumP_le X (fun _ x => decide (x ≤ ((s - 1 : Nat) : Int))) len
        rw [← lowN] at hlo
        have hnext := Hid.mk' (low_next X s len hs0)
        have htile := Hid.mk' (fun k hw => tile X len k s hw hs0 hs)
        generalize lowN X (s - 1) len = g at *
        go_wp2_with fail
        go_loop [7, 50] (fun x i => ∃ k : Nat, k ≤ len ∧ i = .int .i64 k ∧ x = .int .i64 (g + eqN X s k : Nat)) (fun _ i => len - (intOf i).toNat)
        case atStart => exact ⟨0, Nat.zero_le _, rfl, rfl⟩
        case round =>
          obtain ⟨k, hk, rfl, rfl⟩ := hrel
          have hle := eqN_le X s k
          by_cases hlt : k < len
          · obtain ⟨b, off, rfl, hb, hc⟩ := HP1.out.at' (by omega)
            have c0 := hc k hlt
            obtain ⟨b2, off2, rfl, hb2, hc2⟩ := HC.out (by omega)
            have c1 := hc2 k hlt
            clear hc hc2
            by_cases hw : X k = (s : Int)
            · rw [hw] at c0
              have hst := Hid.mk' (eqN_yes X s k hw hs0)
              have htl := htile.out k hw
              have hcs : (15 : Int) - s = ((15 - s : Nat) : Int) := by omega
              have hpb : 2 ^ (15 - s) ≤ 16384 := by
                have : 2 ^ (15 - s) ≤ 2 ^ 14 := Nat.pow_le_pow_right (by decide) (by omega)
                omega
              clear hw
              generalize eqN X s k = y at *
              generalize codeN X len k = c at *
              obtain ⟨p, ep⟩ : ∃ p, Hid (2 ^ (15 - s) = p) := ⟨_, Hid.mk' rfl⟩
              have hB : (2 : Int) ^ (15 - s) = (p : Int) := by rw [← ep.out]; simp
              rw [ep.out] at hpb hst htl
              have hA : (c : Int) * (p : Int) = (g : Int) + (y : Int) := by rw [← Int.natCast_mul, htl]; omega
              clear htl
              go_wp2_with fail
              go_round
              case rel => exact ⟨k + 1, by omega, by go_num, by rw [hst.out]; exact int_eq (by omega)⟩
              case measure => simp [intOf]; omega
            · have hst := Hid.mk' (eqN_no X s k (by omega))
              have hw' : (X k == (s : Int)) = false := by rw [beq_eq_false_iff_ne]; exact hw
              clear hw
              generalize eqN X s k = y at *
              go_wp2_with fail
              go_round
              case rel => exact ⟨k + 1, by omega, by go_num, by rw [hst.out]⟩
              case measure => simp [intOf]; omega
          · have hkl := Hid.mk' (show k = len by omega)
            go_wp2_with fail
            go_round
            case rel => exact ⟨s + 1, by omega, by omega, by go_num, by rw [show s + 1 - 1 = s by omega, hnext.out, hkl.out]⟩
            case measure => simp [intOf]; omega
      · have hs' : Hid (lowN X (s - 1) len = n) := by show _ = _; rw [show s - 1 = 15 by omega, lowN_all X len HG.out, en.out]
        rw [hs'.out]
        go_wp2_with fail
        refine (fill_any _ 2 2 two115 _ (wds_two _ _)).mono ?_
        rintro e w3 ⟨rfl, rfl⟩
        rw [fill_115.1, fill_115.2]
        rw [show ((16385 : Nat) : Int) = 16385 from rfl]
        go_wp2_with fail
        go_ret
        exact ⟨rfl, HB1.out.alloc hsz _⟩
  · rcases can_not X len hE with ⟨h1, h2⟩ | ⟨h1, h2, h3⟩
    · rw [h1]
      generalize fillA X len = g
      generalize fillE X len = er at *
      have t : (er != 0) = true := by rw [bne_iff_ne]; exact h2
      clear hE h1
      go_wp2_with fail
      go_ret
      exact ⟨rfl, HB1.out⟩
    · have h4 := (fillE_zero X len h2).2.2
      have h5 := (fillE_zero X len h2).1
      have h6 := sumP_le X (fun _ _ => true) len
      rw [← fillN] at h6
      rw [h1, h2, h4]
      generalize fillN X len = n at *
      have t : decide ((32768 : Int) < n) = true := decide_eq_true (by omega)
      clear hE h1 h2 h4
      go_wp2_with fail
      go_ret
      exact ⟨rfl, HB1.out⟩
end Go.Proofs.Ytgecdldahgfncab
