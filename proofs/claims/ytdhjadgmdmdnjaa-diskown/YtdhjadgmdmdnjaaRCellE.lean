/- What linenref.Cell answers: every write lands. -/
import Derived.Test.YtdhjadgmdmdnjaaCheckDWalks
import Derived.Test.YtdhjadgmdmdnjaaBos
namespace Go.Proofs.Ytdhjadgmdmdnjaa
open Go.RowKit

set_option maxRecDepth 20000 in
set_option maxHeartbeats 400000 in
theorem keepE_any (i : Nat) (w : World) :
    Calls Try.prog 24 #[.int .i64 (i : Int)] w fun e w' => e = .returned (.bool (allL i)) ∧ w' = w := by
  go_enter Try.func24, Try.ntmps24
  go_wp2_with fail
  go_ret
  exact ⟨rfl, rfl⟩

set_option maxRecDepth 20000 in
set_option maxHeartbeats 1600000 in
theorem rcellE_any (a0 a1 : Option Addr) (n c m d : Nat) (C : List ByteArray) (P : List Pt) (y : Nat) (w : World) (h : Dk w a0 n a1 m C P) (hy : y < n) :
    Calls Try.prog 45 #[.agg #[.slice a0 n c, .slice a1 m d], .int .i64 (y : Int), .func (.func 24) #[] #[]] w fun e w' => e = .returned (.string (cellL allL (y : Int) P 0 (C.getD y ⟨#[]⟩))) ∧ Below w.heap.size w w' := by
  have HB0 : Hid (Below w.heap.size w (w.alloc (.cells #[.slice a0 n c, .slice a1 m d] 25))) := (Below.refl _ _).alloc (Nat.le_refl _) _
  have HK := Hid.mk' h
  have nB := h.nB
  have mB := h.mB
  have hN := Hid.mk' h.nC
  have hM := Hid.mk' h.mP
  clear h
  obtain ⟨b, off, rfl, hb, hx⟩ := (HK.out.below HB0.out).cell y hy
  obtain ⟨s0, hs0⟩ : ∃ s, Hid (C.getD y ⟨#[]⟩ = s) := ⟨_, Hid.mk' rfl⟩
  rw [hs0.out] at hx ⊢
  obtain ⟨T, hT⟩ : ∃ T, Hid (cellL allL (y : Int) P 0 s0 = T) := ⟨_, Hid.mk' rfl⟩
  rw [hT.out]
  go_enter Try.func45, Try.ntmps45
  go_wp2_with fail
  clear hx hb
  go_loopw [7, 18] (fun t i wr => ∃ (k : Nat) (s : ByteArray), k ≤ m ∧ i = .int .i64 k ∧ t = .string s ∧ cellL allL (y : Int) (P.drop k) k s = T ∧ Below w.heap.size w wr) (fun _ i _ => m - (intOf i).toNat)
  case atStart => exact ⟨0, s0, Nat.zero_le _, rfl, rfl, hT.out, HB0.out⟩
  case round =>
    obtain ⟨k, s, hk, rfl, rfl, hce, hbl⟩ := hrel
    have HC := Hid.mk' hce
    have HB := Hid.mk' hbl
    have hzr := hbl.size
    clear hce hbl
    by_cases hlt : k < m
    · obtain ⟨b2, off2, rfl, hb2, hx1, hx2⟩ := (HK.out.below HB.out).put k hlt
      have hdr := drop_at P k noPt (by rw [hM.out]; exact hlt)
      generalize P.getD k noPt = p at *
      obtain ⟨z, t⟩ := p
      simp only at hx1 hx2
      have HC1 : Hid (cellL allL (y : Int) (P.drop (k + 1)) (k + 1) (if z = (y : Int) ∧ allL k = true then t else s) = T) := by
        have h := HC.out
        rw [hdr, cellL] at h; exact h
      have HBa : Hid (Below w.heap.size w (wr.alloc (.cells #[.int .i64 z, .string t] 46))) := HB.out.alloc hzr _
      clear hdr
      by_cases hzy : z = (y : Int)
      · subst hzy
        have tz : ((y : Int) == (y : Int)) = true := by simp
        go_wp2_with fail
        obtain ⟨wa, hwa⟩ : ∃ x, Hid (wr.alloc (.cells #[.int .i64 (y : Int), .string t] 46) = x) := ⟨_, Hid.mk' rfl⟩
        have cb1 : (wr.alloc (.cells #[.int .i64 (y : Int), .string t] 46)).cell? ⟨wr.heap.size, 1, none⟩ = some (.string t) := by rw [World.cell?_alloc_new]; rfl
        rw [hwa.out] at HBa cb1 ⊢
        refine (keepE_any k _).mono ?_
        rintro e w2 ⟨rfl, hw2⟩; obtain rfl := hw2.symm
        obtain ⟨q, hq⟩ : ∃ q, Hid (allL k = q) := ⟨_, Hid.mk' rfl⟩
        rw [hq.out]
        rw [hq.out] at HC1
        cases q with
        | true =>
          have HC2 : Hid (cellL allL (y : Int) (P.drop (k + 1)) (k + 1) t = T) := by
            have h := HC1.out
            rw [if_pos (by simp)] at h; exact h
          go_wp2_with fail
          go_roundw
          case rel => exact ⟨k + 1, _, by omega, by go_num, rfl, HC2.out, HBa.out⟩
          case measure => simp [intOf]; omega
        | false =>
          have HC2 : Hid (cellL allL (y : Int) (P.drop (k + 1)) (k + 1) s = T) := by
            have h := HC1.out
            rw [if_neg (by simp)] at h; exact h
          go_wp2_with fail
          go_roundw
          case rel => exact ⟨k + 1, _, by omega, by go_num, rfl, HC2.out, HBa.out⟩
          case measure => simp [intOf]; omega
      · have HC2 : Hid (cellL allL (y : Int) (P.drop (k + 1)) (k + 1) s = T) := by
          have h := HC1.out
          rw [if_neg (fun h => hzy h.1)] at h; exact h
        have tz : (z == (y : Int)) = false := by rw [beq_eq_false_iff_ne]; exact hzy
        clear hzy
        go_wp2_with fail
        go_roundw
        case rel => exact ⟨k + 1, _, by omega, by go_num, rfl, HC2.out, HBa.out⟩
        case measure => simp [intOf]; omega
    · have hfin : Hid (s = T) := by
        show _ = _
        rw [← HC.out, List.drop_of_length_le (by rw [hM.out]; omega)]; rfl
      go_wp2_with fail
      go_ret
      exact ⟨by rw [← hfin.out]; rfl, HB.out⟩
end Go.Proofs.Ytdhjadgmdmdnjaa
