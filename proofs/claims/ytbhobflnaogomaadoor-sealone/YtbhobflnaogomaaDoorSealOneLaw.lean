/- The law SealOne, walked. -/
import Derived.Test.YtbhobflnaogomaaDoorOpenWalks
namespace Go.Proofs.YtbhobflnaogomaaDoor
open Go.RowKit

theorem digits_short : opn4 (⟨#[48, 49, 50, 51, 52, 53, 54, 55, 56, 57]⟩ : ByteArray).data.toList = ((0, 0), (⟨#[]⟩, 3)) := by
  have h : opE (⟨#[48, 49, 50, 51, 52, 53, 54, 55, 56, 57]⟩ : ByteArray).data.toList = 3 := by unfold opE; rw [if_pos (by decide)]
  unfold opn4
  rw [h, if_neg (by decide)]
/-- what is opened is sealed as just that text -/
theorem sel_opn {s : ByteArray} (h : opE s.data.toList = 0) : selE (kiS s.data.toList : Nat) (srS s.data.toList : Nat) (txS (bdS s.data.toList)).size = 0 ∧ slT (kiS s.data.toList : Nat) (srS s.data.toList : Nat) (txS (bdS s.data.toList)) = s := by
  obtain ⟨⟨h1, h2⟩, hg, _⟩ := opE_ok h
  obtain ⟨h3, h4⟩ := (open_iff h1 h2 hg).2 h
  have h5 : selE (kiS s.data.toList : Nat) (srS s.data.toList : Nat) (txS (bdS s.data.toList)).size = 0 := h3
  refine ⟨h5, ?_⟩
  unfold slT
  rw [if_pos h5]
  simp only [Int.toNat_natCast]
  rw [txS_list, h4, txS_of]
set_option maxRecDepth 20000 in
set_option maxHeartbeats 800000 in
theorem sealOne_at (s : ByteArray) (w : World) (hs : s.size ≤ 140737488355328) (hT : Tab w) :
    Calls Tryd.prog 7 #[.string s] w fun e w' => e = .returned (.bool true) ∧ Below w.heap.size w w' := by
  have HT := Hid.mk' hT
  go_enter Tryd.func7, Tryd.ntmps7
  go_wp2_with fail
  refine (open_any ⟨#[48, 49, 50, 51, 52, 53, 54, 55, 56, 57]⟩ w HT.out (by decide)).mono ?_
  rintro e w1 ⟨he, hb1⟩
  rw [opn_ans he, digits_short]
  have HB1 := Hid.mk' hb1
  clear hb1 he
  go_wp2_with fail
  refine (open_any s w1 (tab_belowS HT.out HB1.out) hs).mono ?_
  rintro e w2 ⟨he, hb2⟩
  rw [opn_ans he]
  have HB2 := Hid.mk' (HB1.out.trans (hb2.mono HB1.out.size))
  clear hb2 he
  obtain ⟨q, hq⟩ : ∃ q, Hid (opE s.data.toList = q) := ⟨_, Hid.mk' rfl⟩
  by_cases h0 : q = 0
  · subst h0
    obtain ⟨h1, h2⟩ := sel_opn hq.out
    have H1 := Hid.mk' h1
    have H2 := Hid.mk' h2
    have hR : Hid (opn4 s.data.toList = ((((kiS s.data.toList : Nat) : Int), ((srS s.data.toList : Nat) : Int)), (txS (bdS s.data.toList), (0 : Int)))) := by show _ = _; unfold opn4; rw [if_pos hq.out]
    rw [hR.out]
    have hbz : (txS (bdS s.data.toList)).size ≤ 1000 := (selE_ok h1).2
    obtain ⟨k, hk⟩ : ∃ k : Int, Hid (((kiS s.data.toList : Nat) : Int) = k) := ⟨_, Hid.mk' rfl⟩
    obtain ⟨n, hn⟩ : ∃ k : Int, Hid (((srS s.data.toList : Nat) : Int) = k) := ⟨_, Hid.mk' rfl⟩
    obtain ⟨b, hb⟩ : ∃ k, Hid (txS (bdS s.data.toList) = k) := ⟨_, Hid.mk' rfl⟩
    rw [hk.out, hn.out, hb.out] at H1 H2 ⊢
    rw [hb.out] at hbz
    clear h1 h2
    go_wp2_with fail
    refine (seal_any k n b w2 (tab_belowS HT.out HB2.out) (by omega)).mono ?_
    rintro e w3 ⟨he, hb3⟩
    rw [sl_ans he, H1.out, H2.out]
    have HB3 := Hid.mk' (HB2.out.trans (hb3.mono HB2.out.size))
    clear hb3 he
    go_wp2_with fail
    go_ret
    exact ⟨rfl, HB3.out⟩
  · have hR : Hid (opn4 s.data.toList = ((0, 0), (⟨#[]⟩, q))) := by show _ = _; unfold opn4; rw [hq.out, if_neg h0]
    rw [hR.out]
    have tq : (q != 0) = true := by rw [bne_iff_ne]; exact h0
    clear h0
    go_wp2_with fail
    go_ret
    exact ⟨rfl, HB2.out⟩
theorem sealOne_walk (a0 : ByteArray) (_w0 : a0.size ≤ maxLen) (z0 : a0.data.toList.length ≤ reachBytes) (w : World) (hT : Tab w) :
    Calls Tryd.prog 7 #[.string a0] w fun e w' => e = .returned (.bool true) ∧ Below w.heap.size w w' :=
  sealOne_at a0 w (by have := reachBytes_lt; rw [size_list] at z0; omega) hT
end Go.Proofs.YtbhobflnaogomaaDoor
