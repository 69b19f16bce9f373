/- The law SealOpens, walked. -/
import Derived.Test.YtbhobflnaogomaaDoorRUnsealWalks
namespace Go.Proofs.YtbhobflnaogomaaDoor
open Go.RowKit

/-- what Open answers, as one value -/
def opn4 (l : List UInt8) : (Int × Int) × (ByteArray × Int) := if opE l = 0 then (((kiS l : Nat), (srS l : Nat)), (txS (bdS l), 0)) else ((0, 0), (⟨#[]⟩, opE l))
theorem opn_ans {s : ByteArray} {e : Ending} (h : OpnAns s e) : e = .returned (.tuple #[.int .i64 (opn4 s.data.toList).1.1, .int .i64 (opn4 s.data.toList).1.2, .string (opn4 s.data.toList).2.1, .int .i64 (opn4 s.data.toList).2.2]) := by
  unfold opn4
  rcases h with ⟨h, rfl⟩ | ⟨q, hq, h, rfl⟩
  · rw [if_pos h]
  · rw [h.out, if_neg hq]
set_option maxRecDepth 20000 in
set_option maxHeartbeats 800000 in
theorem sealOpens_at (s : ByteArray) (w : World) (hs : s.size ≤ 140737488355328) (hT : Tab w) :
    Calls Tryd.prog 4 #[.string s] w fun e w' => e = .returned (.bool true) ∧ Below w.heap.size w w' := by
  obtain ⟨⟨⟨x, y⟩, t, q⟩, hR⟩ : ∃ R, Hid (opn4 s.data.toList = R) := ⟨_, Hid.mk' rfl⟩
  go_enter Tryd.func4, Tryd.ntmps4
  go_wp2_with fail
  refine (open_any s w hT hs).mono ?_
  rintro e w1 ⟨he, hb1⟩
  rw [opn_ans he, hR.out]
  have HB1 := Hid.mk' hb1
  clear hb1 he
  go_wp2_with fail
  refine (unseal_any s w1 hs).mono ?_
  rintro e w2 ⟨he, hb2⟩
  rw [opn_ans he, hR.out]
  have HB2 := Hid.mk' (HB1.out.trans (hb2.mono HB1.out.size))
  clear hb2 he
  go_wp2_with fail
  go_ret
  exact ⟨rfl, HB2.out⟩
theorem sealOpens_walk (a0 : ByteArray) (_w0 : a0.size ≤ maxLen) (z0 : a0.data.toList.length ≤ reachBytes) (w : World) (hT : Tab w) :
    Calls Tryd.prog 4 #[.string a0] w fun e w' => e = .returned (.bool true) ∧ Below w.heap.size w w' :=
  sealOpens_at a0 w (by have := reachBytes_lt; rw [size_list] at z0; omega) hT
end Go.Proofs.YtbhobflnaogomaaDoor
