import Derived.Test.YtbakgobgjfhhhaaDoorPmaf
import Derived.Test.YtbakgobgjfhhhaaDoorPmab
import Derived.Test.YtbakgobgjfhhhaaDoorPmad

/- What imap.Check answers. -/
namespace Go.Proofs.YtbakgobgjfhhhaaDoor
open Go.RowKit

set_option maxRecDepth 20000 in
set_option maxHeartbeats 3200000 in
theorem imcheck_any (a0 : Option Addr) (n c : Nat) (a1 : Option Addr) (m e : Nat) (P : List Pla) (G : List Int) (w : World) (h : Pls w a0 n c P) (h' : Its w a1 m e G) :
    Calls Tryd.prog 48 #[.agg #[.slice a0 n c, .slice a1 m e]] w fun e w' => e = .returned (.int .i64 (chkM P G)) ∧ Below w.heap.size w w' := by
  have hv := boxV_new w [.slice a0 n c, .slice a1 m e] 25
  have HB : Hid (Below w.heap.size w (w.alloc (.cells #[.slice a0 n c, .slice a1 m e] 25))) := below_boxP _ _
  obtain ⟨W0, hW0⟩ : ∃ W, Hid (w.alloc (.cells #[.slice a0 n c, .slice a1 m e] 25) = W) := ⟨_, Hid.mk' rfl⟩
  have e0 : (w.alloc (.cells [.slice a0 n c, .slice a1 m e].toArray 25)) = W0 := hW0.out
  rw [e0] at hv
  rw [hW0.out] at HB
  have HL := Hid.mk' (h.below HB.out)
  have HG := Hid.mk' (h'.below HB.out)
  have hnL := Hid.mk' h.nL
  have hmL := Hid.mk' h'.nL
  have nB := h.nB
  have mB := h'.nB
  have hz0 := HB.out.size
  have c0 := hv.c 0 _ rfl
  have c1 := hv.c 1 _ rfl
  have HV := Hid.mk' hv
  clear h h' hv e0
  by_cases h1 : n = 48
  rotate_left
  · have hc : Hid (chkM P G = 4) := chkM_len (by rw [hnL.out]; exact fun h => h1 h.1)
    have t1 : ((n : Int) != 48) = true := by rw [bne_iff_ne]; omega
    clear h1
    go_enter Tryd.func48, Tryd.ntmps48
    go_wp2_with fail
    rw [hW0.out]
    go_wp2_with fail
    go_ret
    exact ⟨by rw [hc.out]; rfl, HB.out⟩
  by_cases h2 : m = 48
  rotate_left
  · have hc : Hid (chkM P G = 4) := chkM_len (by rw [hmL.out]; exact fun h => h2 h.2)
    have t1 : ((n : Int) != 48) = false := by rw [h1]; rfl
    have t2 : ((m : Int) != 48) = true := by rw [bne_iff_ne]; omega
    clear h1 h2
    go_enter Tryd.func48, Tryd.ntmps48
    go_wp2_with fail
    rw [hW0.out]
    go_wp2_with fail
    go_ret
    exact ⟨by rw [hc.out]; rfl, HB.out⟩
  subst h1 h2
  have hc : Hid (chkM P G = if rowM P G then 0 else 4) := chkM_row hnL.out hmL.out
  go_enter Tryd.func48, Tryd.ntmps48
  go_wp2_with fail
  rw [hW0.out]
  go_wp2_with fail
  go_loopw [18] (fun i wr => ∃ k : Nat, k ≤ 48 ∧ i = .int .i64 k ∧ rowM (P.drop k) (G.drop k) = rowM P G ∧ Below W0.heap.size W0 wr) (fun i _ => 48 - (intOf i).toNat)
  case atStart => exact ⟨0, by omega, rfl, rfl, Below.refl _ _⟩
  case round =>
    obtain ⟨k, hk, rfl, hcel, hbl⟩ := hrel
    have HC := Hid.mk' hcel
    have HBr := Hid.mk' hbl
    have hzr := hbl.size
    have hvr := HV.out.below hbl
    have q0 := hvr.c 0 _ rfl
    have q1 := hvr.c 1 _ rfl
    have HVr := Hid.mk' hvr
    clear hcel hbl hvr
    by_cases hlt : k < 48
    · obtain ⟨b, off, rfl, hb, hx1, hx2⟩ := (HL.out.below HBr.out).at k hlt
      obtain ⟨b1, off1, rfl, hb1, hy1⟩ := (HG.out.below HBr.out).at k hlt
      have hdr := Hid.mk' (rowM_drop (P := P) (G := G) (k := k) (by rw [hnL.out]; exact hlt) (by rw [hmL.out]; exact hlt))
      generalize P.getD k noPl = o at *
      generalize G.getD k 0 = g at *
      have hbx := below_boxP (w := wr) #[.int .i64 o.cl, .int .i64 o.nh] 67
      have HBa := Hid.mk' (HBr.out.alloc hzr (.cells #[.int .i64 o.cl, .int .i64 o.nh] 67))
      go_wp2_with fail
      refine (right_any o _).mono ?_
      rintro e w2 ⟨rfl, hb2⟩
      have HB2 : Hid (Below W0.heap.size W0 w2) := (HBa.out.trans (hb2.mono (by first | exact HBa.out.size | omega)))
      have hba := hbx.trans (hb2.mono hbx.size)
      have hv2 := HVr.out.below hba
      have q0 := hv2.c 0 _ rfl
      have q1 := hv2.c 1 _ rfl
      have hy1 := (hba.cell (p := ⟨b1, off1 + k, none⟩) hb1).trans hy1
      clear hb2 hv2 hba hbx
      obtain ⟨q2, hq2⟩ : ∃ q, Hid (rtB o = q) := ⟨_, Hid.mk' rfl⟩
      rw [hq2.out] at hdr ⊢
      cases q2 with
      | false =>
        have hf : Hid (rowM P G = false) := by show _ = _; rw [← HC.out, hdr.out]; rfl
        go_wp2_with fail
        go_ret
        exact ⟨by rw [hc.out, hf.out]; rfl, HB.out.trans (HB2.out.mono hz0)⟩
      | true =>
        by_cases h3 : g < 0
        · have t3 : decide (g < 0) = true := decide_eq_true h3
          have hf : Hid (rowM P G = false) := by show _ = _; rw [← HC.out, hdr.out, gnB_lo h3]; rfl
          clear h3
          go_wp2_with fail
          go_ret
          exact ⟨by rw [hc.out, hf.out]; rfl, HB.out.trans (HB2.out.mono hz0)⟩
        have t3 : decide (g < 0) = false := decide_eq_false h3
        by_cases h4 : 2147483647 < g
        · have t4 : decide ((2147483647 : Int) < g) = true := decide_eq_true h4
          have hf : Hid (rowM P G = false) := by show _ = _; rw [← HC.out, hdr.out, gnB_hi h4]; rfl
          clear h3 h4
          go_wp2_with fail
          go_ret
          exact ⟨by rw [hc.out, hf.out]; rfl, HB.out.trans (HB2.out.mono hz0)⟩
        have t4 : decide ((2147483647 : Int) < g) = false := decide_eq_false h4
        have HC2 : Hid (rowM (P.drop (k + 1)) (G.drop (k + 1)) = rowM P G) := by show _ = _; rw [← HC.out, hdr.out, gnB_in h3 h4]; rfl
        clear h3 h4
        go_wp2_with fail
        go_roundw
        case rel => exact ⟨k + 1, by omega, by go_num, HC2.out, HB2.out⟩
        case measure => simp [intOf]; omega
    · have hf : Hid (rowM P G = true) := by
        show _ = _
        rw [← HC.out, List.drop_of_length_le (by rw [hnL.out]; omega)]
        exact rowM_nil _
      go_wp2_with fail
      go_ret
      exact ⟨by rw [hc.out, hf.out]; rfl, HB.out.trans (HBr.out.mono hz0)⟩
end Go.Proofs.YtbakgobgjfhhhaaDoor
