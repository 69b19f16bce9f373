import Derived.Test.YtbakgobgjfhhhaaDoorPsad

/- What linenref.Disk answers. -/
namespace Go.Proofs.YtbakgobgjfhhhaaDoor
open Go.RowKit

set_option maxRecDepth 20000 in
set_option maxHeartbeats 1600000 in
theorem rdisk_any (a0 a1 : Option Addr) (n c m d : Nat) (C : List ByteArray) (P : List Pt) (w : World) (h : Dk w a0 n a1 m C P) :
    Calls Tryd.prog 38 #[.agg #[.slice a0 n c, .slice a1 m d]] w fun e w' => e = .returned (.int .i64 (chkD C P)) ∧ Below w.heap.size w w' := by
  have nB := h.nB
  have mB := h.mB
  have HB0 : Hid (Below w.heap.size w (w.alloc (.cells #[.slice a0 n c, .slice a1 m d] 39))) := (Below.refl _ _).alloc (Nat.le_refl _) _
  have HK := Hid.mk' (h.below HB0.out)
  have hN := Hid.mk' h.nC
  clear h
  by_cases h1 : n = 0
  · have hc : Hid (chkD C P = 1) := by show _ = _; unfold chkD; rw [hN.out, if_pos (.inl (by omega))]
    have t1 : ((n : Int) == 0) = true := by rw [beq_iff_eq]; omega
    clear h1
    go_enter Tryd.func38, Tryd.ntmps38
    go_wp2_with fail
    go_ret
    exact ⟨by rw [hc.out]; rfl, HB0.out⟩
  have t1 : ((n : Int) == 0) = false := by rw [beq_eq_false_iff_ne]; omega
  by_cases h2 : 128 < n
  · have hc : Hid (chkD C P = 1) := by show _ = _; unfold chkD; rw [hN.out, if_pos (.inr h2)]
    clear h1
    go_enter Tryd.func38, Tryd.ntmps38
    go_wp2_with fail
    go_ret
    exact ⟨by rw [hc.out]; rfl, HB0.out⟩
  have hc : Hid (chkD C P = if celE C = 0 then (if putsE n P = 0 then (if 400 < m then 2 else 0) else putsE n P) else celE C) := by
    show _ = _; unfold chkD; rw [hN.out, HK.out.mP, if_neg (by omega)]
  have h2' : n ≤ 128 := by omega
  clear h1 h2
  go_enter Tryd.func38, Tryd.ntmps38
  go_wp2_with fail
  clear t1
  go_loop [20] (fun i => ∃ k : Nat, k ≤ n ∧ i = .int .i64 k ∧ celE (C.drop k) = celE C) (fun i => n - (intOf i).toNat)
  case atStart => exact ⟨0, Nat.zero_le _, rfl, rfl⟩
  case round =>
    obtain ⟨k, hk, rfl, hcel⟩ := hrel
    have HC := Hid.mk' hcel
    clear hcel
    by_cases hlt : k < n
    · obtain ⟨b, off, rfl, hb, hcl⟩ := HK.out.cell k hlt
      have hdr := drop_at C k ⟨#[]⟩ (by rw [hN.out]; exact hlt)
      generalize C.getD k ⟨#[]⟩ = s at *
      by_cases hs : 1024 < s.size
      · have he : Hid (celE C = 2) := by show _ = _; rw [← HC.out, hdr, celE, if_pos hs]
        clear hdr
        go_wp2_with fail
        go_ret
        exact ⟨by rw [hc.out, he.out]; rfl, HB0.out⟩
      · have hs' : s.size ≤ 1024 := by omega
        have HC1 : Hid (celE (C.drop (k + 1)) = celE C) := by show _ = _; rw [← HC.out, hdr, celE, if_neg hs]
        clear hdr hs
        go_wp2_with fail
        go_round
        case rel => exact ⟨k + 1, by omega, by go_num, HC1.out⟩
        case measure => simp [intOf]; omega
    · have he : Hid (celE C = 0) := by
        show _ = _
        rw [← HC.out, List.drop_of_length_le (by rw [hN.out]; omega)]; rfl
      have hw0 : (w.alloc (.cells #[.slice a0 n c, .slice a1 m d] 39)).heap.size = w.heap.size + 1 := by simp
      go_wp2_with fail
      go_loopw [31] (fun i wr => ∃ k : Nat, k ≤ m ∧ i = .int .i64 k ∧ putsE n (P.drop k) = putsE n P ∧ Below (w.heap.size + 1) (w.alloc (.cells #[.slice a0 n c, .slice a1 m d] 39)) wr) (fun i _ => m - (intOf i).toNat)
      case atStart => exact ⟨0, Nat.zero_le _, rfl, rfl, Below.refl _ _⟩
      case round =>
        obtain ⟨k, hk, rfl, hput, hbl⟩ := hrel
        have HP := Hid.mk' hput
        have HB := Hid.mk' hbl
        obtain ⟨d0, d1, hz⟩ := boxD2 hbl
        clear hput hbl
        by_cases hlt : k < m
        · obtain ⟨b, off, rfl, hb, hx, hs⟩ := (HK.out.below (by rw [hw0]; exact HB.out)).put k hlt
          have hdr := drop_at P k noPt (by rw [HK.out.mP]; exact hlt)
          generalize P.getD k noPt = p at *
          obtain ⟨x, s⟩ := p
          simp only at hx hs
          have hpe : Hid (putsE n P = if putE n ⟨x, s⟩ = 0 then putsE n (P.drop (k + 1)) else putE n ⟨x, s⟩) := by show _ = _; rw [← HP.out, hdr, putsE]
          clear hdr
          have HB2 : Hid (Below (w.heap.size + 1) (w.alloc (.cells #[.slice a0 n c, .slice (some ⟨b, off, none⟩) m d] 39)) (wr.alloc (.cells #[.int .i64 x, .string s] 99))) := HB.out.alloc (by omega) _
          have hpc := putE_cases n ⟨x, s⟩
          generalize putE n ⟨x, s⟩ = q at *
          simp only at hpc
          rcases hpc with ⟨rfl, g1, g2, g3⟩ | ⟨rfl, g1⟩ | ⟨rfl, g1, g2, g3⟩
          · have HP1 : Hid (putsE n (P.drop (k + 1)) = putsE n P) := by show _ = _; rw [hpe.out, if_pos rfl]
            have s0 : decide (x < 0) = false := decide_eq_false (by omega)
            have s1 : decide ((n : Int) ≤ x) = false := decide_eq_false (by omega)
            go_wp2_with fail
            go_roundw
            case rel => exact ⟨k + 1, by omega, by go_num, HP1.out, HB2.out⟩
            case measure => simp [intOf]; omega
          · have he2 : Hid (chkD C P = 1) := by show _ = _; rw [hc.out, if_pos he.out, hpe.out]; rfl
            by_cases g0 : x < 0
            · have s0 : decide (x < 0) = true := decide_eq_true g0
              go_wp2_with fail
              go_ret
              exact ⟨by rw [he2.out]; rfl, below_boxD _ _ HB2.out⟩
            · have s0 : decide (x < 0) = false := decide_eq_false g0
              have s1 : decide ((n : Int) ≤ x) = true := decide_eq_true (by omega)
              go_wp2_with fail
              go_ret
              exact ⟨by rw [he2.out]; rfl, below_boxD _ _ HB2.out⟩
          · have he2 : Hid (chkD C P = 2) := by show _ = _; rw [hc.out, if_pos he.out, hpe.out]; rfl
            have s0 : decide (x < 0) = false := decide_eq_false (by omega)
            have s1 : decide ((n : Int) ≤ x) = false := decide_eq_false (by omega)
            go_wp2_with fail
            go_ret
            exact ⟨by rw [he2.out]; rfl, below_boxD _ _ HB2.out⟩
        · have hp0 : Hid (putsE n P = 0) := by
            show _ = _
            rw [← HP.out, List.drop_of_length_le (by rw [HK.out.mP]; omega)]; rfl
          by_cases h4 : 400 < m
          · have he2 : Hid (chkD C P = 2) := by show _ = _; rw [hc.out, if_pos he.out, if_pos hp0.out, if_pos h4]
            go_wp2_with fail
            go_ret
            exact ⟨by rw [he2.out]; rfl, below_boxD _ _ HB.out⟩
          · have he2 : Hid (chkD C P = 0) := by show _ = _; rw [hc.out, if_pos he.out, if_pos hp0.out, if_neg h4]
            have h4' : m ≤ 400 := by omega
            clear h4
            go_wp2_with fail
            go_ret
            exact ⟨by rw [he2.out]; rfl, below_boxD _ _ HB.out⟩
end Go.Proofs.YtbakgobgjfhhhaaDoor
