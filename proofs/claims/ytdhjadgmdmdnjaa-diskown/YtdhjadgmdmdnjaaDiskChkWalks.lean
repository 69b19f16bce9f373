/- What disk.Check answers: the loops. -/
import Derived.Test.YtdhjadgmdmdnjaaCheckDWalks
namespace Go.Proofs.Ytdhjadgmdmdnjaa
open Go.RowKit

set_option maxRecDepth 20000 in
set_option maxHeartbeats 1600000 in
theorem dchk_any (a0 a1 : Option Addr) (n c m d : Nat) (C : List ByteArray) (P : List Pt) (w : World) (h : Dk w a0 n a1 m C P) :
    Calls Try.prog 49 #[.agg #[.slice a0 n c, .slice a1 m d]] w fun e w' => e = .returned (.int .i64 (chkD C P)) ∧ Below w.heap.size w w' := by
  have nB := h.nB
  have mB := h.mB
  have HK := Hid.mk' h
  have HB0 : Hid (Below w.heap.size w (w.alloc (.cells #[.slice a0 n c, .slice a1 m d] 25))) := (Below.refl _ _).alloc (Nat.le_refl _) _
  have hN := Hid.mk' h.nC
  clear h
  by_cases h1 : n < 1
  · have hc : Hid (chkD C P = 1) := by show _ = _; unfold chkD; rw [hN.out, if_pos (.inl h1)]
    have t1 : decide ((n : Int) < 1) = true := decide_eq_true (by omega)
    go_enter Try.func49, Try.ntmps49
    go_wp2_with fail
    go_ret
    exact ⟨by rw [hc.out]; rfl, HB0.out⟩
  by_cases h2 : 128 < n
  · have hc : Hid (chkD C P = 1) := by show _ = _; unfold chkD; rw [hN.out, if_pos (.inr h2)]
    have t1 : decide ((n : Int) < 1) = false := decide_eq_false (by omega)
    go_enter Try.func49, Try.ntmps49
    go_wp2_with fail
    go_ret
    exact ⟨by rw [hc.out]; rfl, HB0.out⟩
  have hc : Hid (chkD C P = if celE C = 0 then (if putsE n P = 0 then (if 400 < m then 2 else 0) else putsE n P) else celE C) := by
    show _ = _; unfold chkD; rw [hN.out, HK.out.mP, if_neg (by omega)]
  have t1 : decide ((n : Int) < 1) = false := decide_eq_false (by omega)
  go_enter Try.func49, Try.ntmps49
  go_wp2_with fail
  clear t1
  go_loop [21] (fun i => ∃ k : Nat, k ≤ n ∧ i = .int .i64 k ∧ celE (C.drop k) = celE C) (fun i => n - (intOf i).toNat)
  case atStart => exact ⟨0, Nat.zero_le _, rfl, rfl⟩
  case round =>
    obtain ⟨k, hk, rfl, hcel⟩ := hrel
    have HC := Hid.mk' hcel
    clear hcel
    by_cases hlt : k < n
    · obtain ⟨b, off, rfl, hb, hcl⟩ := HK.out.cell k hlt
      have hdr := drop_at C k ⟨#[]⟩ (by rw [hN.out]; exact hlt)
      generalize C.getD k ⟨#[]⟩ = s at *
      by_cases hs : 1024 < s.size
      · have he : Hid (celE C = 2) := by show _ = _; rw [← HC.out, hdr, celE, if_pos hs]
        clear hdr
        go_wp2_with fail
        go_ret
        exact ⟨by rw [hc.out, he.out]; rfl, HB0.out⟩
      · have hs' : s.size ≤ 1024 := by omega
        have HC1 : Hid (celE (C.drop (k + 1)) = celE C) := by show _ = _; rw [← HC.out, hdr, celE, if_neg hs]
        clear hdr hs
        go_wp2_with fail
        go_round
        case rel => exact ⟨k + 1, by omega, by go_num, HC1.out⟩
        case measure => simp [intOf]; omega
    · have he : Hid (celE C = 0) := by
        show _ = _
        rw [← HC.out, List.drop_of_length_le (by rw [hN.out]; omega)]; rfl
      have hw0 : (w.alloc (.cells #[.slice a0 n c, .slice a1 m d] 25)).heap.size = w.heap.size + 1 := by simp
      have HK0 := Hid.mk' (HK.out.below HB0.out)
      go_wp2_with fail
      go_loopw [32] (fun i wr => ∃ k : Nat, k ≤ m ∧ i = .int .i64 k ∧ putsE n (P.drop k) = putsE n P ∧ Below (w.heap.size + 1) (w.alloc (.cells #[.slice a0 n c, .slice a1 m d] 25)) wr) (fun i _ => m - (intOf i).toNat)
      case atStart => exact ⟨0, Nat.zero_le _, rfl, rfl, Below.refl _ _⟩
      case round =>
        obtain ⟨k, hk, rfl, hput, hbl⟩ := hrel
        have HP := Hid.mk' hput
        have HB := Hid.mk' hbl
        obtain ⟨d0, d1, hz⟩ := boxD2 hbl
        clear hput hbl
        by_cases hlt : k < m
        · obtain ⟨b, off, rfl, hb, hx, hs⟩ := (HK0.out.below (by rw [hw0]; exact HB.out)).put k hlt
          have hdr := drop_at P k noPt (by rw [HK.out.mP]; exact hlt)
          generalize P.getD k noPt = p at *
          obtain ⟨x, s⟩ := p
          simp only at hx hs
          have hpe : Hid (putsE n P = if putE n ⟨x, s⟩ = 0 then putsE n (P.drop (k + 1)) else putE n ⟨x, s⟩) := by show _ = _; rw [← HP.out, hdr, putsE]
          clear hdr
          go_wp2_with fail
          refine (cput_any a0 (some ⟨b, off, none⟩) n c m d ⟨x, s⟩ _ nB).mono ?_
          rintro e w2 ⟨rfl, hb2⟩
          have HB2 : Hid (Below (w.heap.size + 1) (w.alloc (.cells #[.slice a0 n c, .slice (some ⟨b, off, none⟩) m d] 25)) w2) := HB.out.trans ((((Below.refl _ wr).alloc (Nat.le_refl _) _).trans (hb2.mono (by simp))).mono (by omega))
          obtain ⟨hcc, hff⟩ := bcell hb2
          have hz2 : wr.heap.size < w2.heap.size := by have := hb2.size; simp at this; omega
          have hpc := putE_cases n ⟨x, s⟩
          generalize putE n ⟨x, s⟩ = q at *
          have HQ := Hid.mk' hpc
          have hq0 : 0 ≤ q ∧ q ≤ 2 := by omega
          clear hb2 hpc
          by_cases h0 : q = 0
          · subst h0
            have HP1 : Hid (putsE n (P.drop (k + 1)) = putsE n P) := by show _ = _; rw [hpe.out, if_pos rfl]
            go_wp2_with fail
            go_roundw
            case rel => exact ⟨k + 1, by omega, by go_num, HP1.out, HB2.out⟩
            case measure => simp [intOf]; omega
          · have he2 : Hid (chkD C P = q) := by show _ = _; rw [hc.out, if_pos he.out, hpe.out, if_neg h0, if_neg h0]
            have tq : (q != 0) = true := by rw [bne_iff_ne]; exact h0
            go_wp2_with fail
            go_ret
            exact ⟨by rw [he2.out]; rfl, below_boxD _ _ HB2.out⟩
        · have hp0 : Hid (putsE n P = 0) := by
            show _ = _
            rw [← HP.out, List.drop_of_length_le (by rw [HK.out.mP]; omega)]; rfl
          by_cases h4 : 400 < m
          · have he2 : Hid (chkD C P = 2) := by show _ = _; rw [hc.out, if_pos he.out, if_pos hp0.out, if_pos h4]
            go_wp2_with fail
            go_ret
            exact ⟨by rw [he2.out]; rfl, below_boxD _ _ HB.out⟩
          · have he2 : Hid (chkD C P = 0) := by show _ = _; rw [hc.out, if_pos he.out, if_pos hp0.out, if_neg h4]
            have h4' : m ≤ 400 := by omega
            clear h4
            go_wp2_with fail
            go_ret
            exact ⟨by rw [he2.out]; rfl, below_boxD _ _ HB.out⟩
end Go.Proofs.Ytdhjadgmdmdnjaa
