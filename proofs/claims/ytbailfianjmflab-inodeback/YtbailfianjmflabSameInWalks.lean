/- What linenref.SameInode answers of the same. -/
import Derived.Test.YtbailfianjmflabEqualL
import Derived.Test.YtbailfianjmflabBoxV
import Derived.Test.YtbailfianjmflabInChkWalks
namespace Go.Proofs.Ytbailfianjmflab
open Go.RowKit

set_option maxRecDepth 20000 in
set_option maxHeartbeats 1600000 in
theorem samei_yes (i : Ino) (a1 : Option Addr) (n c1 : Nat) (a2 : Option Addr) (m c2 : Nat) (w : World) (h1 : Pls w a1 n c1 i.ps) (h2 : Pls w a2 m c2 i.ps) :
    Calls Try.prog 9 #[.agg #[.int .i64 i.kd, .int .i64 i.gn, .int .i64 i.sz, .slice a1 n c1], .agg #[.int .i64 i.kd, .int .i64 i.gn, .int .i64 i.sz, .slice a2 m c2]] w fun e w' => e = .returned (.bool true) ∧ Below w.heap.size w w' := by
  obtain ⟨kd, gn, sz, ps⟩ := i
  simp only at *
  have hb1 := below_boxP (w := w) #[.int .i64 kd, .int .i64 gn, .int .i64 sz, .slice a1 n c1] 24
  have hB : Below w.heap.size w ((w.alloc (.cells #[.int .i64 kd, .int .i64 gn, .int .i64 sz, .slice a1 n c1] 24)).alloc (.cells #[.int .i64 kd, .int .i64 gn, .int .i64 sz, .slice a2 m c2] 24)) := hb1.alloc hb1.size _
  have HB := Hid.mk' hB
  have H1 := Hid.mk' (h1.below hB)
  have H2 := Hid.mk' (h2.below hB)
  have hn := h1.nB
  have hm := h2.nB
  have hnL := Hid.mk' h1.nL
  have hmL := Hid.mk' h2.nL
  have t0 : (kd == kd) = true := by simp
  have t1 : (gn == gn) = true := by simp
  have t2 : (sz == sz) = true := by simp
  clear hb1 hB h1 h2
  go_enter Try.func9, Try.ntmps9
  go_wp2_with fail
  refine (equalL_any a1 a2 n c1 m c2 ps ps _ H1.out.rd H2.out.rd hnL.out hmL.out hn hm).mono ?_
  rintro e w3 ⟨⟨v, rfl, hv⟩, r, rfl⟩
  rw [hv.yes rfl]
  go_wp2_with fail
  go_ret
  exact ⟨rfl, HB.out.trans (below_dP _ _)⟩
end Go.Proofs.Ytbailfianjmflab
