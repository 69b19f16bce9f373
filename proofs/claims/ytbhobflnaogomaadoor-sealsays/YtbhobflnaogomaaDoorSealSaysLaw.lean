/- The law SealSays, walked. -/
import Derived.Test.YtbhobflnaogomaaDoorRSealWalks
namespace Go.Proofs.YtbhobflnaogomaaDoor
open Go.RowKit

/-- what Seal answers, as one value -/
def slT (k n : Int) (b : ByteArray) : ByteArray := if selE k n b.size = 0 then txS (selS k.toNat n.toNat b.data.toList) else ⟨#[]⟩
theorem sl_ans {k n : Int} {b : ByteArray} {e : Ending} (h : SlAns k n b e) : e = .returned (.tuple #[.string (slT k n b), .int .i64 (selE k n b.size)]) := by
  rcases h with ⟨h, rfl⟩ | ⟨q, hq, h, rfl⟩
  · unfold slT; rw [h, if_pos rfl]
  · unfold slT; rw [h.out, if_neg hq]
set_option maxRecDepth 20000 in
set_option maxHeartbeats 800000 in
theorem sealSays_at (k n : Int) (b : ByteArray) (w : World) (hb : b.size ≤ 140737488355328) (hT : Tab w) :
    Calls Tryd.prog 3 #[.int .i64 k, .int .i64 n, .string b] w fun e w' => e = .returned (.bool true) ∧ Below w.heap.size w w' := by
  go_enter Tryd.func3, Tryd.ntmps3
  go_wp2_with fail
  refine (seal_any k n b w hT hb).mono ?_
  rintro e w1 ⟨he, hb1⟩
  rw [sl_ans he]
  have HB1 := Hid.mk' hb1
  clear hb1 he
  obtain ⟨T, hTt⟩ : ∃ T, Hid (slT k n b = T) := ⟨_, Hid.mk' rfl⟩
  obtain ⟨q, hq⟩ : ∃ q, Hid (selE k n b.size = q) := ⟨_, Hid.mk' rfl⟩
  rw [hTt.out, hq.out]
  go_wp2_with fail
  refine (rseal_any k n b w1 hb).mono ?_
  rintro e w2 ⟨he, hb2⟩
  rw [sl_ans he, hTt.out, hq.out]
  have HB2 := Hid.mk' (HB1.out.trans (hb2.mono HB1.out.size))
  clear hb2 he
  go_wp2_with fail
  go_ret
  exact ⟨rfl, HB2.out⟩
theorem sealSays_walk (a0 a1 : Int) (a2 : ByteArray) (_w0 : (Lit.int .i64 a0).wf = true) (_w1 : (Lit.int .i64 a1).wf = true) (_w2 : a2.size ≤ maxLen) (z2 : a2.data.toList.length ≤ reachBytes) (w : World) (hT : Tab w) :
    Calls Tryd.prog 3 #[.int .i64 a0, .int .i64 a1, .string a2] w fun e w' => e = .returned (.bool true) ∧ Below w.heap.size w w' :=
  sealSays_at a0 a1 a2 w (by have := reachBytes_lt; have e : a2.data.toList.length = a2.size := by rw [Array.length_toList]; rfl
                             omega) hT
end Go.Proofs.YtbhobflnaogomaaDoor
