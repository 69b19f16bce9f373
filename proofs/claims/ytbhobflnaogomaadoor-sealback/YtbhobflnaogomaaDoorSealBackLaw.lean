/- The law SealBack, walked. -/
import Derived.Test.YtbhobflnaogomaaDoorOpenWalks
namespace Go.Proofs.YtbhobflnaogomaaDoor
open Go.RowKit

theorem opn_sel {k n : Int} {b : ByteArray} (h : selE k n b.size = 0) : opn4 (slT k n b).data.toList = ((k, n), (b, 0)) := by
  obtain ⟨⟨h1, h2, h3⟩, h4⟩ := selE_ok h
  obtain ⟨k', rfl⟩ := Int.eq_ofNat_of_zero_le (show 0 ≤ k by omega)
  obtain ⟨n', rfl⟩ := Int.eq_ofNat_of_zero_le h2
  have h' : selE (k' : Int) (n' : Int) b.data.toList.length = 0 := by rw [size_list]; exact h
  obtain ⟨o1, o2, o3, o4⟩ := open_sel h'
  unfold slT
  rw [if_pos h]
  simp only [Int.toNat_natCast]
  rw [txS_list]
  unfold opn4
  rw [if_pos o1, o2, o3, o4, txS_of]
theorem slT_size {k n : Int} {b : ByteArray} (h : selE k n b.size = 0) : (slT k n b).size = 11 + b.size ∧ b.size ≤ 1000 := by
  refine ⟨?_, (selE_ok h).2⟩
  unfold slT
  rw [if_pos h, txS_size, selS_len, size_list]
theorem sel_lit : selE 1 258 (⟨#[97]⟩ : ByteArray).size = 0 := by decide
theorem lit_text : (slT 1 258 ⟨#[97]⟩).extract 0 8 = ⟨#[1, 0, 0, 1, 2, 0, 1, 97]⟩ := by
  apply bytes_ext
  unfold slT
  rw [if_pos sel_lit, ext_listS, List.drop_zero, txS_list]
  show (selS 1 258 [97]).take 8 = _
  unfold selS
  rw [show (8 : Nat) = (bodS 1 258 [97]).length by rw [bodS_len]; rfl, List.take_left]
  decide
set_option maxRecDepth 20000 in
set_option maxHeartbeats 800000 in
theorem sealBack_at (k n : Int) (b : ByteArray) (w : World) (hb : b.size ≤ 140737488355328) (hT : Tab w) :
    Calls Tryd.prog 5 #[.int .i64 k, .int .i64 n, .string b] w fun e w' => e = .returned (.bool true) ∧ Below w.heap.size w w' := by
  have HT := Hid.mk' hT
  have hz := slT_size sel_lit
  have hlt := lit_text
  obtain ⟨L, hL⟩ : ∃ L, Hid (slT 1 258 ⟨#[97]⟩ = L) := ⟨_, Hid.mk' rfl⟩
  rw [hL.out] at hz hlt
  have hLz : L.size = 12 := hz.1
  obtain ⟨T, hTt⟩ : ∃ T, Hid (slT k n b = T) := ⟨_, Hid.mk' rfl⟩
  obtain ⟨q, hq⟩ : ∃ q, Hid (selE k n b.size = q) := ⟨_, Hid.mk' rfl⟩
  clear hz
  go_enter Tryd.func5, Tryd.ntmps5
  go_wp2_with fail
  refine (seal_any 1 258 ⟨#[97]⟩ w HT.out (by decide)).mono ?_
  rintro e w1 ⟨he, hb1⟩
  rw [sl_ans he, hL.out, sel_lit]
  have HB1 := Hid.mk' hb1
  clear hb1 he
  go_wp2_with fail
  refine (seal_any k n b w1 (tab_belowS HT.out HB1.out) hb).mono ?_
  rintro e w2 ⟨he, hb2⟩
  rw [sl_ans he, hTt.out, hq.out]
  have HB2 := Hid.mk' (HB1.out.trans (hb2.mono HB1.out.size))
  clear hb2 he
  by_cases h0 : q = 0
  · subst h0
    have hop := opn_sel hq.out
    have hsz := slT_size hq.out
    rw [hTt.out] at hop hsz
    have HO := Hid.mk' hop
    have hTz : T.size ≤ 140737488355328 := by omega
    clear hop hsz
    go_wp2_with fail
    refine (open_any T w2 (tab_belowS HT.out HB2.out) hTz).mono ?_
    rintro e w3 ⟨he, hb3⟩
    rw [opn_ans he, HO.out]
    have HB3 := Hid.mk' (HB2.out.trans (hb3.mono HB2.out.size))
    clear hb3 he
    go_wp2_with fail
    go_ret
    exact ⟨rfl, HB3.out⟩
  · have hTe : T = ⟨#[]⟩ := by rw [← hTt.out]; unfold slT; rw [hq.out, if_neg h0]
    have tq : (q != 0) = true := by rw [bne_iff_ne]; exact h0
    subst hTe
    clear h0
    go_wp2_with fail
    go_ret
    exact ⟨rfl, HB2.out⟩
theorem sealBack_walk (a0 a1 : Int) (a2 : ByteArray) (_w0 : (Lit.int .i64 a0).wf = true) (_w1 : (Lit.int .i64 a1).wf = true) (_w2 : a2.size ≤ maxLen) (z2 : a2.data.toList.length ≤ reachBytes) (w : World) (hT : Tab w) :
    Calls Tryd.prog 5 #[.int .i64 a0, .int .i64 a1, .string a2] w fun e w' => e = .returned (.bool true) ∧ Below w.heap.size w w' :=
  sealBack_at a0 a1 a2 w (by have := reachBytes_lt; rw [size_list] at z2; omega) hT
end Go.Proofs.YtbhobflnaogomaaDoor
