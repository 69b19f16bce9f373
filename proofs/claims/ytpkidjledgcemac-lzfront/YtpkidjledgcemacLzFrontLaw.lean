/- The law LzFront, walked. -/
import Derived.Test.YtpkidjledgcemacExpandWalks
import Derived.Test.YtpkidjledgcemacWithinWalks
namespace Go.Proofs.Ytpkidjledgcemac
open Go.RowKit

theorem mks_one (w : World) (x y : Int) (z : Nat) (t : TypeId) (hx : -9223372036854775808 ≤ x ∧ x ≤ 9223372036854775807) (hy : -9223372036854775808 ≤ y ∧ y ≤ 9223372036854775807) (hz : z < 256) : Mks (w.alloc (.cells #[.int .i64 x, .int .i64 y, .int .u8 (z : Int)] t)) (some ⟨w.heap.size, 0, none⟩) 1 (fun _ => ⟨x, y, z⟩) :=
  ⟨by omega, fun _ => ⟨w.heap.size, 0, rfl, by simp, fun i hi => by
    obtain rfl : i = 0 := by omega
    exact box_cells w _ _ _ t⟩, fun _ _ => hx, fun _ _ => hy, fun _ _ => hz⟩
theorem mks_pre {w : World} {a0 : Option Addr} {len m : Nat} {M : Nat → Mk} (h : Mks w a0 len M) (hm : m ≤ len) : Mks w a0 m M :=
  ⟨by have := h.lenB; omega, fun hp => by
    obtain ⟨b, off, h1, h2, h3⟩ := h.at' (by omega)
    exact ⟨b, off, h1, h2, fun i hi => h3 i (by omega)⟩, fun i hi => h.lB i (by omega), fun i hi => h.dB i (by omega), fun i hi => h.bB i (by omega)⟩
theorem known_z : exE (mkL (fun _ => ⟨0, 0, 122⟩) 0 1) [] = 0 ∧ exA (mkL (fun _ => ⟨0, 0, 122⟩) 0 1) = [122] := by decide
theorem exE_le (l : List Mk) : ∀ out, 0 ≤ exE l out ∧ exE l out ≤ 8 := by
  induction l with
  | nil => intro out; simp [exE]
  | cons m t ih =>
    intro out
    rw [exE]
    split
    · split
      · omega
      · split
        · omega
        · exact ih _
    · omega
theorem front_math (a b : List Mk) :
    (exE a [] ≠ 0 → exE (a ++ b) [] = exE a [] ∧ exA (a ++ b) = [] ∧ exA a = []) ∧
    (exE a [] = 0 → exE (a ++ b) [] = 0 → (exA a).length ≤ (exA (a ++ b)).length ∧ (exA (a ++ b)).take (exA a).length = exA a) := by
  constructor
  · intro h
    have e : exE (a ++ b) [] = exE a [] := by rw [exE_cat, if_neg h]
    exact ⟨e, exA_bad _ _ e h, exA_bad _ _ rfl h⟩
  · intro h h2
    rw [exA_ok _ h, exA_ok _ h2, exT_cat]
    obtain ⟨more, hm⟩ := exT_pre b (exT a [])
    rw [hm]
    simp
theorem cut_isF (s : ByteArray) (k : Nat) : s.extract 0 k = ByteArray.mk (s.data.toList.take k).toArray := by
  apply bytes_ext
  rw [ByteArray.data_extract]; simp

set_option maxRecDepth 20000 in
set_option maxHeartbeats 1000000 in
theorem lzFront_walk (a0 : Option Addr) (len cap : Nat) (M : Nat → Mk) (a1 : Int) (w : World) (w0 : Mks w a0 len M) (q0 : len ≤ cap ∧ cap ≤ maxLen) (w1 : (Lit.int .i64 a1).wf = true) :
    Calls Try.prog 6 #[.slice a0 len cap, .int .i64 a1] w fun e w' => e = .returned (.bool true) ∧ Below w.heap.size w w' := by
  obtain ⟨k1, k2⟩ := bounds_i64 w1
  have hlen := w0.lenB
  have HP := Hid.mk' w0
  have hc1 := q0.1
  have hc3 : cap ≤ 9223372036854775807 := by have := q0.2; unfold maxLen at this; omega
  clear w0 q0 w1
  have hkn := Hid.mk' known_z
  obtain ⟨W1, hW1⟩ : ∃ W1, Hid (w.alloc (.cells #[.int .i64 0, .int .i64 0, .int .u8 122] 28) = W1) := ⟨_, Hid.mk' rfl⟩
  have HB1 : Hid (Below w.heap.size w W1) := by rw [← hW1.out]; exact (Below.refl _ _).alloc (Nat.le_refl _) _
  have HM1 : Hid (Mks W1 (some ⟨w.heap.size, 0, none⟩) 1 (fun _ => ⟨0, 0, 122⟩)) := by rw [← hW1.out]; exact mks_one w 0 0 122 _ (by omega) (by omega) (by omega)
  go_enter Try.func6, Try.ntmps6
  go_wp2_with fail
  rw [hW1.out]
  refine (expand_any _ 1 1 _ _ HM1.out).mono ?_
  rintro e w2 ⟨rfl, hb⟩
  have HB2 := Hid.mk' (HB1.out.trans (hb.mono HB1.out.size))
  have HP2 := Hid.mk' (mks_below HP.out HB2.out)
  clear hb
  rw [hkn.out.1, hkn.out.2]
  go_wp2_with fail
  refine (expand_any a0 len cap M _ HP2.out).mono ?_
  rintro e w3 ⟨rfl, hb⟩
  have HB3 := Hid.mk' (HB2.out.trans (hb.mono HB2.out.size))
  have HP3 := Hid.mk' (mks_below HP2.out hb)
  clear hb
  obtain ⟨S, eS⟩ : ∃ t, Hid (ByteArray.mk (exA (mkL M 0 len)).toArray = t) := ⟨_, Hid.mk' rfl⟩
  obtain ⟨u, eu⟩ : ∃ t, Hid (exE (mkL M 0 len) [] = t) := ⟨_, Hid.mk' rfl⟩
  have hub := exE_le (mkL M 0 len) []
  rw [eu.out] at hub
  rw [eS.out, eu.out]
  go_wp2_with fail
  refine (within_at a1 _ _ k1 k2 (by omega) (by omega)).mono ?_
  rintro e w4 ⟨⟨m, rfl, hm⟩, rfl⟩
  have hml : m ≤ len := by omega
  have HP4 := Hid.mk' (mks_pre HP3.out hml)
  have hfm := front_math (mkL M 0 m) (mkL M m len)
  rw [← mkL_take M m len hml, eu.out] at hfm
  clear hm
  go_wp2_with fail
  refine (expand_any _ m cap M _ HP4.out).mono ?_
  rintro e w5 ⟨rfl, hb⟩
  have HB5 := Hid.mk' (HB3.out.trans (hb.mono HB3.out.size))
  clear hb
  obtain ⟨T, eT⟩ : ∃ t, Hid (ByteArray.mk (exA (mkL M 0 m)).toArray = t) := ⟨_, Hid.mk' rfl⟩
  obtain ⟨v, ev⟩ : ∃ t, Hid (exE (mkL M 0 m) [] = t) := ⟨_, Hid.mk' rfl⟩
  rw [eT.out, ev.out]
  rw [ev.out] at hfm
  by_cases hv : v = 0
  · subst hv
    by_cases hu : u = 0
    · subst hu
      have h2 := hfm.2 rfl rfl
      have hTs : T.size = (exA (mkL M 0 m)).length := by rw [← eT.out]; rfl
      have hSs : S.size = (exA (mkL M 0 len)).length := by rw [← eS.out]; rfl
      have hle : T.size ≤ S.size := by rw [hTs, hSs]; exact h2.1
      have hcut : S.extract 0 T.size = T := by
        rw [cut_isF, ← eS.out, ← eT.out]
        exact congrArg (fun l => ByteArray.mk (List.toArray l)) h2.2
      have tl : decide (T.size ≤ S.size) = true := decide_eq_true hle
      clear hTs hSs h2 hfm
      go_wp2_with fail
      go_ret
      exact ⟨rfl, HB5.out⟩
    · have hne : (u != 0) = true := by rw [bne_iff_ne]; exact hu
      clear hfm hu
      go_wp2_with fail
      go_ret
      exact ⟨rfl, HB5.out⟩
  · have hne : (v != 0) = true := by rw [bne_iff_ne]; exact hv
    have h1 := hfm.1 hv
    have h2 := h1.1
    have hS0 : S = ⟨#[]⟩ := by rw [← eS.out, h1.2.1]
    have hT0 : T = ⟨#[]⟩ := by rw [← eT.out, h1.2.2]
    clear hfm hv h1
    subst hS0 hT0 h2
    go_wp2_with fail
    go_ret
    exact ⟨rfl, HB5.out⟩
end Go.Proofs.Ytpkidjledgcemac
