/- The law NumCuts, walked. -/
import Derived.Test.YticigfleieeooaaGetWalks
import Derived.Test.YticigfleieeooaaNumPutWalks
import Derived.Test.YticigfleieeooaaNumOneMath
import Derived.Test.YticigfleieeooaaWithinWalks
namespace Go.Proofs.Yticigfleieeooaa
open Go.RowKit

theorem cut_list (l : List UInt8) (m : Nat) : ((ByteArray.mk l.toArray).extract 0 m).data.toList = l.take m := by
  rw [ByteArray.data_extract]; simp
set_option maxRecDepth 20000 in
set_option maxHeartbeats 400000 in
theorem numCuts_walk (a0 : Int) (a1 : Int) (w0 : (Lit.int .u64 a0).wf = true) (w1 : (Lit.int .i64 a1).wf = true) (w : World) :
    Calls Try.prog 6 #[.int .u64 a0, .int .i64 a1] w fun e w' => e = .returned (.bool true) ∧ Below w.heap.size w w' := by
  obtain ⟨n, rfl, hn⟩ := u64_nat w0
  obtain ⟨h1, h2⟩ := bounds_i64 w1
  have hL := putB_len10 n hn
  have hP := putB_pos n
  have HG := Hid.mk' (fun m => get_cut n m hn)
  go_enter Try.func6, Try.ntmps6
  go_wp2_with fail
  refine (put_num _ _ hn).mono ?_
  rintro e w1 ⟨rfl, hb⟩
  have HB := Hid.mk' hb
  clear hb
  generalize putB n = l at *
  have hne : l.isEmpty = false := by
    cases l with
    | nil => simp at hP
    | cons b l => rfl
  go_wp2_with fail
  refine (within_at _ _ _ h1 h2 (by omega) (by omega)).mono ?_
  rintro e w2 ⟨⟨m, rfl, hm⟩, rfl⟩
  have hG := Hid.mk' (HG.out m (by omega))
  go_wp2_with fail
  refine (get_any _ _).mono ?_
  rintro e w3 ⟨rfl, rfl⟩
  rw [cut_list, hG.out]
  generalize getA (l.take m) = y1
  generalize getK (l.take m) = y2
  go_wp2_with fail
  go_ret
  exact ⟨rfl, HB.out⟩
end Go.Proofs.Yticigfleieeooaa
