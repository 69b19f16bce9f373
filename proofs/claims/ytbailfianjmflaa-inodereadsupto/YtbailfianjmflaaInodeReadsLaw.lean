/- The law InodeReads, walked. -/
import Derived.Test.YtbailfianjmflaaRInReadWalks
import Derived.Test.YtbailfianjmflaaSameInWalks
namespace Go.Proofs.Ytbailfianjmflaa
open Go.RowKit

set_option maxRecDepth 20000 in
set_option maxHeartbeats 1600000 in
theorem inodeReads_walk (s : ByteArray) (w : World) (_w0 : s.size ≤ maxLen) (_z0 : s.data.toList.length ≤ reachBytes) (hs : s.size ≤ 1048576) :
    Calls Try.prog 4 #[.string s] w fun e w' => e = .returned (.bool true) ∧ Below w.heap.size w w' := by
  obtain ⟨I, hI⟩ : ∃ I, Hid (rdI s.data.toList = I) := ⟨_, Hid.mk' rfl⟩
  obtain ⟨q, hq⟩ : ∃ q, Hid (rdIE s.data.toList = q) := ⟨_, Hid.mk' rfl⟩
  go_enter Try.func4, Try.ntmps4
  go_wp2_with fail
  refine (iread_any s w (by omega)).mono ?_
  rintro e w1 ⟨⟨a1, c1, rfl, h1⟩, hb1⟩
  rw [hI.out] at h1
  rw [hI.out, hq.out]
  have HB1 := Hid.mk' hb1
  have hbx := below_boxP (w := w1) #[.int .i64 I.kd, .int .i64 I.gn, .int .i64 I.sz, .slice a1 I.ps.length c1] 24
  have HP1 := Hid.mk' (h1.below hbx)
  have HG1 : Hid (BoxV (w1.alloc (.cells #[.int .i64 I.kd, .int .i64 I.gn, .int .i64 I.sz, .slice a1 I.ps.length c1] 24)) w1.heap.size (inV I.kd I.gn I.sz a1 I.ps.length c1)) := boxV_new w1 (inV I.kd I.gn I.sz a1 I.ps.length c1) 24
  have HB2 := Hid.mk' (hb1.trans (hbx.mono hb1.size))
  have hlt1 : w1.heap.size < (w1.alloc (.cells #[.int .i64 I.kd, .int .i64 I.gn, .int .i64 I.sz, .slice a1 I.ps.length c1] 24)).heap.size := by simp
  obtain ⟨W2, hW2⟩ : ∃ W, Hid (w1.alloc (.cells #[.int .i64 I.kd, .int .i64 I.gn, .int .i64 I.sz, .slice a1 I.ps.length c1] 24) = W) := ⟨_, Hid.mk' rfl⟩
  rw [hW2.out] at HP1 HG1 HB2 hlt1
  clear hb1 h1 hbx
  go_wp2_with fail
  rw [hW2.out]
  refine (rreadinode_any s W2 hs).mono ?_
  rintro e w3 ⟨⟨a2, c2, rfl, h2⟩, hb3⟩
  rw [hI.out] at h2
  rw [hI.out, hq.out]
  have hbx := below_boxP (w := w3) #[.int .i64 I.kd, .int .i64 I.gn, .int .i64 I.sz, .slice a2 I.ps.length c2] 24
  have hbb := hb3.trans (hbx.mono hb3.size)
  have HP2 := Hid.mk' (h2.below hbx)
  have HP3 := Hid.mk' (HP1.out.below hbb)
  have HG2 := Hid.mk' (HG1.out.below hbb)
  have HB3 := Hid.mk' (HB2.out.trans (hbb.mono HB2.out.size))
  have c0 := HG2.out.c 0 _ rfl
  have c1' := HG2.out.c 1 _ rfl
  have c2' := HG2.out.c 2 _ rfl
  have c3 := HG2.out.c 3 _ rfl
  have hlt3 : w1.heap.size < w3.heap.size := Nat.lt_of_lt_of_le hlt1 hb3.size
  clear h2 hb3 hbx hbb
  go_wp2_with fail
  refine (samei_yes I a1 I.ps.length c1 a2 I.ps.length c2 _ HP3.out HP2.out).mono ?_
  rintro e w4 ⟨rfl, hb4⟩
  have HB4 := Hid.mk' (HB3.out.trans (hb4.mono HB3.out.size))
  clear hb4
  go_wp2_with fail
  go_ret
  exact ⟨rfl, HB4.out⟩
end Go.Proofs.Ytbailfianjmflaa
