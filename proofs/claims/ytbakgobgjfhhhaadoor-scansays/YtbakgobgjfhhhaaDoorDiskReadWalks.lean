import Derived.Test.YtbakgobgjfhhhaaDoorPsad
import Derived.Test.YtbakgobgjfhhhaaDoorCloneText

/- What disk.Read answers. -/
namespace Go.Proofs.YtbakgobgjfhhhaaDoor
open Go.RowKit

/-- what Read answers of a right disk -/
def rdD (C : List ByteArray) (P : List Pt) (x : Int) : Int := if chkD C P = 0 then (if hasB C.length x = true then 0 else 1) else chkD C P
set_option maxRecDepth 20000 in
set_option maxHeartbeats 1600000 in
theorem dread_any (a0 a1 : Option Addr) (n c m d : Nat) (C : List ByteArray) (P : List Pt) (x : Int) (w : World) (h : Dk w a0 n a1 m C P) :
    Calls Tryd.prog 37 #[.agg #[.slice a0 n c, .slice a1 m d], .int .i64 x] w fun e w' => ((rdD C P x = 0 ∧ e = .returned (.tuple #[.string (cellL allL x P 0 (C.getD x.toNat ⟨#[]⟩)), .int .i64 0])) ∨ (∃ q, q ≠ 0 ∧ Hid (rdD C P x = q) ∧ e = .returned (.tuple #[.string ⟨#[]⟩, .int .i64 q]))) ∧ Below w.heap.size w w' := by
  have HB0 : Hid (Below w.heap.size w (w.alloc (.cells #[.slice a0 n c, .slice a1 m d] 39))) := (Below.refl _ _).alloc (Nat.le_refl _) _
  have hz0 : w.heap.size ≤ (w.alloc (.cells #[.slice a0 n c, .slice a1 m d] 39)).heap.size := by simp
  have HK := Hid.mk' h
  have nB := h.nB
  have hN := Hid.mk' h.nC
  have hM := Hid.mk' h.mP
  have hrange := chkD_range C P
  have hdef : Hid (rdD C P x = if chkD C P = 0 then (if hasB n x = true then 0 else 1) else chkD C P) := by show _ = _; unfold rdD; rw [hN.out]
  have hok0 := Hid.mk' (@chkD_ok C P)
  clear h
  go_enter Tryd.func37, Tryd.ntmps37
  go_wp2_with fail
  refine (dchk_any a0 a1 n c m d C P _ (HK.out.below HB0.out)).mono ?_
  rintro e w1 ⟨rfl, hb1⟩
  obtain ⟨q, hq⟩ : ∃ q, Hid (chkD C P = q) := ⟨_, Hid.mk' rfl⟩
  have hbd : Below (w.heap.size + 1) (w.alloc (.cells #[.slice a0 n c, .slice a1 m d] 39)) w1 := by
    have e : (w.alloc (.cells #[.slice a0 n c, .slice a1 m d] 39)).heap.size = w.heap.size + 1 := by simp
    rw [e] at hb1; exact hb1
  obtain ⟨d0, d1, hz⟩ := boxD2 hbd
  have HBd := Hid.mk' hbd
  have HB1 := Hid.mk' (HB0.out.trans (hb1.mono hz0))
  rw [hq.out] at hrange hok0 hdef ⊢
  clear hb1 hbd
  by_cases h0 : q = 0
  · subst h0
    have HOk := Hid.mk' (hok0.out rfl)
    clear hok0
    go_wp2_with fail
    refine (has_any a0 a1 n c m d x _ nB).mono ?_
    rintro e w2 ⟨rfl, hb2⟩
    have HBd2 := Hid.mk' (HBd.out.trans (hb2.mono (by exact hz)))
    have HB2 := Hid.mk' (HB1.out.trans (hb2.mono HB1.out.size))
    obtain ⟨g0, g1, gz⟩ := boxD2 HBd2.out
    clear hb2 d0 d1 hz
    obtain ⟨p, hp⟩ : ∃ p, Hid (hasB n x = p) := ⟨_, Hid.mk' rfl⟩
    rw [hp.out] at hdef ⊢
    cases p with
    | false =>
      have HQ : Hid (rdD C P x = 1) := by show _ = _; rw [hdef.out]; rfl
      clear hdef
      go_wp2_with fail
      go_ret2
      exact ⟨.inr ⟨1, by decide, HQ.out, rfl⟩, HB2.out⟩
    | true =>
      have HQ : Hid (rdD C P x = 0) := by show _ = _; rw [hdef.out]; rfl
      have hxx : 0 ≤ x ∧ x < (n : Int) := of_decide_eq_true hp.out
      obtain ⟨y, rfl⟩ : ∃ y : Nat, x = y := ⟨x.toNat, by omega⟩
      have hy : y < n := by omega
      obtain ⟨b, off, rfl, hb, hx⟩ := (HK.out.below HB2.out).cell y hy
      have hsB := HK.out.sB _ (getD_mem C y (⟨#[]⟩ : ByteArray) (by rw [hN.out]; exact hy))
      obtain ⟨s0, hs0⟩ : ∃ s, Hid (C.getD y ⟨#[]⟩ = s) := ⟨_, Hid.mk' rfl⟩
      rw [hs0.out] at hx hsB
      clear hdef hxx hrange
      go_wp2_with fail
      obtain ⟨T, hT⟩ : ∃ T, Hid (cellL allL (y : Int) P 0 s0 = T) := ⟨_, Hid.mk' rfl⟩
      have hm2 := HK.out.mB
      go_loopw [7, 27] (fun t i wr => ∃ (k : Nat) (s : ByteArray), k ≤ m ∧ i = .int .i64 k ∧ t = .string s ∧ s.size ≤ 140737488355328 ∧ cellL allL (y : Int) (P.drop k) k s = T ∧ Below w.heap.size w wr) (fun _ i _ => m - (intOf i).toNat)
      case atStart => exact ⟨0, s0, Nat.zero_le _, rfl, rfl, hsB, hT.out, HB2.out⟩
      case round =>
        obtain ⟨k, s, hk, rfl, rfl, hsz, hce, hbl⟩ := hrel
        have HC := Hid.mk' hce
        have HB := Hid.mk' hbl
        have hzr := hbl.size
        clear hce hbl
        by_cases hlt : k < m
        · obtain ⟨b2, off2, rfl, hb2, hx1, hx2⟩ := (HK.out.below HB.out).put k hlt
          have hdr := drop_at P k noPt (by rw [hM.out]; exact hlt)
          have htB := HK.out.tB _ (getD_mem P k noPt (by rw [hM.out]; exact hlt))
          generalize P.getD k noPt = p at *
          obtain ⟨z, t⟩ := p
          simp only at hx1 hx2 htB
          have HC1 : Hid (cellL allL (y : Int) (P.drop (k + 1)) (k + 1) (if z = (y : Int) ∧ allL k = true then t else s) = T) := by
            have h := HC.out
            rw [hdr, cellL] at h; exact h
          have HBa : Hid (Below w.heap.size w (wr.alloc (.cells #[.int .i64 z, .string t] 99))) := HB.out.alloc hzr _
          clear hdr
          by_cases hzy : z = (y : Int)
          · subst hzy
            have HC2 : Hid (cellL allL (y : Int) (P.drop (k + 1)) (k + 1) t = T) := by
              have h := HC1.out
              rw [if_pos ⟨rfl, rfl⟩] at h; exact h
            have tz : ((y : Int) == (y : Int)) = true := by simp
            go_wp2_with fail
            go_roundw
            case rel => exact ⟨k + 1, _, by omega, by go_num, rfl, htB, HC2.out, HBa.out⟩
            case measure => simp [intOf]; omega
          · have HC2 : Hid (cellL allL (y : Int) (P.drop (k + 1)) (k + 1) s = T) := by
              have h := HC1.out
              rw [if_neg (fun h => hzy h.1)] at h; exact h
            have tz : (z == (y : Int)) = false := by rw [beq_eq_false_iff_ne]; exact hzy
            clear hzy
            go_wp2_with fail
            go_roundw
            case rel => exact ⟨k + 1, _, by omega, by go_num, rfl, hsz, HC2.out, HBa.out⟩
            case measure => simp [intOf]; omega
        · have hfin : Hid (s = T) := by
            show _ = _
            rw [← HC.out, List.drop_of_length_le (by rw [hM.out]; omega)]; rfl
          go_wp2_with fail
          refine (tclone_any s _ hsz).mono ?_
          rintro e w3 ⟨rfl, hb3⟩
          have HB3 := Hid.mk' (HB.out.trans (hb3.mono HB.out.size))
          clear hb3
          go_wp2_with fail
          go_ret2
          refine ⟨.inl ⟨HQ.out, ?_⟩, HB3.out⟩
          rw [Int.toNat_natCast, hs0.out, hT.out, ← hfin.out]; rfl
  · have HQ : Hid (rdD C P x = q) := by show _ = _; rw [hdef.out, if_neg h0]
    have tq : (q != 0) = true := by rw [bne_iff_ne]; exact h0
    clear hok0 hdef
    go_wp2_with fail
    go_ret2
    exact ⟨.inr ⟨q, h0, HQ.out, rfl⟩, HB1.out⟩
end Go.Proofs.YtbakgobgjfhhhaaDoor
