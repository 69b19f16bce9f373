/- The law LzFewest, walked. -/
import Derived.Test.YtpkidjledgcemacFindWalks
import Derived.Test.YtpkidjledgcemacExpandWalks
namespace Go.Proofs.Ytpkidjledgcemac
open Go.RowKit

def s8 : List UInt8 := [97, 97, 97, 97, 97, 97, 97, 97]
theorem few8 : FewIs s8 2 := by
  refine ⟨way_cons (n := 1) (.inl rfl) (by decide) (way_cons (n := 7) (.inr ⟨by omega, by omega, 0, by omega, fun j hj => ?_⟩) (by decide) (way_nil _ _)), fun k hk => ?_⟩
  · have : ∀ j, j < 7 → s8.getD (0 + j) 0 = s8.getD (0 + 1 + j) 0 := by decide
    exact this j hj
  · have h8 : s8.length = 8 := rfl
    rw [h8] at hk
    match k, hk with
    | 0, hk =>
      have e : (0 : Nat) = 8 := hk
      omega
    | 1, hk =>
      obtain ⟨n, h1, h2, h3⟩ := hk
      have e : 0 + n = 8 := h3
      rcases h1 with h1 | ⟨_, _, k, hk, _⟩
      · omega
      · omega
    | k + 2, _ => omega

set_option maxRecDepth 20000 in
set_option maxHeartbeats 1000000 in
theorem lzFewest_walk (a0 : Option Addr) (len cap : Nat) (M : Nat → Mk) (w : World) (w0 : Mks w a0 len M) :
    Calls Try.prog 4 #[.slice a0 len cap] w fun e w' => e = .returned (.bool true) ∧ Below w.heap.size w w' := by
  have HP := Hid.mk' w0
  have hlen := w0.lenB
  clear w0
  go_enter Try.func4, Try.ntmps4
  go_wp2_with fail
  refine (find_any ⟨#[97, 97, 97, 97, 97, 97, 97, 97]⟩ _ (by decide)).mono ?_
  rintro e w1 ⟨⟨v1, ms1, rfl, ho1, hf1⟩, hb1⟩
  have hl2 : ms1.length = 2 := hf1.few.one few8
  rw [hl2] at ho1
  obtain ⟨ao1, cp1, rfl⟩ := own_slice' ho1
  have HB1 := Hid.mk' hb1
  have HP1 := Hid.mk' (mks_below HP.out hb1)
  clear ho1 hf1 hl2 hb1
  go_wp2_with fail
  refine (expand_any a0 len cap M _ HP1.out).mono ?_
  rintro e w2 ⟨rfl, hb⟩
  have HB2 := Hid.mk' (HB1.out.trans (hb.mono HB1.out.size))
  clear hb
  by_cases hE : exE (mkL M 0 len) [] = 0
  · have hway := way_marks (mkL M 0 len) [] hE
    have hle := exT_le (mkL M 0 len) [] hE (by simp)
    have hA := exA_ok _ hE
    rw [mkL_length, Nat.sub_zero] at hway
    obtain ⟨S, eS⟩ : ∃ t, Hid (ByteArray.mk (exA (mkL M 0 len)).toArray = t) := ⟨_, Hid.mk' rfl⟩
    have hSl : Hid (S.data.toList = exT (mkL M 0 len) []) := by show _ = _; rw [← eS.out, hA]
    have hSs : S.size ≤ 512 := by rw [← sz_listC, hSl.out]; exact hle
    have HW : Hid (Way S.data.toList len 0 S.data.toList.length) := by rw [hSl.out]; exact hway
    rw [hE, eS.out]
    clear hE hway hle hA
    go_wp2_with fail
    refine (find_any S _ hSs).mono ?_
    rintro e w3 ⟨⟨v3, ms3, rfl, ho3, hf3⟩, hb3⟩
    have hfew := hf3.few.2 len HW.out
    obtain ⟨ao3, cp3, rfl⟩ := own_slice' ho3
    have HB3 := Hid.mk' (HB2.out.trans (hb3.mono HB2.out.size))
    have tl : decide (ms3.length ≤ len) = true := decide_eq_true hfew
    have tl2 : Hid (decide ((ms3.length : Int) ≤ (len : Int)) = true) := decide_eq_true (by omega)
    clear ho3 hf3 hb3
    go_wp2_with fail
    go_ret
    exact ⟨by first | rfl | (rw [tl2.out]; rfl), HB3.out⟩
  · have hA := exA_bad _ _ rfl hE
    have hne : (exE (mkL M 0 len) [] != 0) = true := by rw [bne_iff_ne]; exact hE
    obtain ⟨z, ez⟩ : ∃ z, Hid (exE (mkL M 0 len) [] = z) := ⟨_, Hid.mk' rfl⟩
    rw [hA, ez.out]
    rw [ez.out] at hne
    clear hE hA
    go_wp2_with fail
    go_ret
    exact ⟨rfl, HB2.out⟩
end Go.Proofs.Ytpkidjledgcemac
