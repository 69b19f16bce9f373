/- The law ImapReads, walked. -/
import Derived.Test.YtbailfianjmflaaRImReadWalks
import Derived.Test.YtbailfianjmflaaSameImWalks
namespace Go.Proofs.Ytbailfianjmflaa
open Go.RowKit

set_option maxRecDepth 20000 in
set_option maxHeartbeats 1600000 in
theorem imapReads_at (s : ByteArray) (w : World) (hs : s.size ≤ 140737488355328) :
    Calls Try.prog 8 #[.string s] w fun z w' => z = .returned (.bool true) ∧ Below w.heap.size w w' := by
  obtain ⟨J, hJ⟩ : ∃ I, Hid (rdP s.data.toList = I) := ⟨_, Hid.mk' rfl⟩
  obtain ⟨K, hK⟩ : ∃ I, Hid (rdG s.data.toList = I) := ⟨_, Hid.mk' rfl⟩
  obtain ⟨q, hq⟩ : ∃ q, Hid (rdME s.data.toList = q) := ⟨_, Hid.mk' rfl⟩
  go_enter Try.func8, Try.ntmps8
  go_wp2_with fail
  refine (imread_any s w hs).mono ?_
  rintro z w1 ⟨⟨a, c, b, e, rfl, h1, h2⟩, hb1⟩
  rw [hJ.out] at h1
  rw [hK.out] at h2
  rw [hJ.out, hK.out, hq.out]
  have hbx := below_boxP (w := w1) #[.slice a J.length c, .slice b K.length e] 39
  have HM1 := Hid.mk' (MapAt.new h1 h2 39)
  have HB2 := Hid.mk' (hb1.trans (hbx.mono hb1.size))
  have hlt1 : w1.heap.size < (w1.alloc (.cells #[.slice a J.length c, .slice b K.length e] 39)).heap.size := by simp
  obtain ⟨W2, hW2⟩ : ∃ W, Hid (w1.alloc (.cells #[.slice a J.length c, .slice b K.length e] 39) = W) := ⟨_, Hid.mk' rfl⟩
  rw [hW2.out] at HM1 HB2 hlt1
  clear hb1 h1 h2 hbx
  go_wp2_with fail
  rw [hW2.out]
  refine (rreadimap_any s W2 hs).mono ?_
  rintro z w3 ⟨⟨a2, c2, b2, e2, rfl, h1, h2⟩, hb3⟩
  rw [hJ.out] at h1
  rw [hK.out] at h2
  rw [hJ.out, hK.out, hq.out]
  have hbx := below_boxP (w := w3) #[.slice a2 J.length c2, .slice b2 K.length e2] 39
  have hbb := hb3.trans (hbx.mono hb3.size)
  have HM3 := Hid.mk' (HM1.out.below hbb)
  have HN3 := Hid.mk' (MapAt.new h1 h2 39)
  have HB3 := Hid.mk' (HB2.out.trans (hbb.mono HB2.out.size))
  have c0 := HM3.out.c0
  have c1 := HM3.out.c1
  have hlt3 : w1.heap.size < w3.heap.size := Nat.lt_of_lt_of_le hlt1 hb3.size
  clear h1 h2 hb3 hbx hbb
  go_wp2_with fail
  refine (sameim_yes a J.length c b K.length e a2 J.length c2 b2 K.length e2 J K _ HM3.out.pl HM3.out.it HN3.out.pl HN3.out.it).mono ?_
  rintro z w4 ⟨rfl, hb4⟩
  have HB4 := Hid.mk' (HB3.out.trans (hb4.mono HB3.out.size))
  clear hb4
  go_wp2_with fail
  go_ret
  exact ⟨rfl, HB4.out⟩
theorem imapReads_walk (s : ByteArray) (w : World) (_w0 : s.size ≤ maxLen) (z0 : s.data.toList.length ≤ reachBytes) :
    Calls Try.prog 8 #[.string s] w fun z w' => z = .returned (.bool true) ∧ Below w.heap.size w w' := by
  have hr := reachBytes_lt
  have e0 : s.data.toList.length = s.size := by rw [Array.length_toList]; rfl
  exact imapReads_at s w (by omega)
end Go.Proofs.Ytbailfianjmflaa
