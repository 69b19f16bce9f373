/- What linenref.SameImap answers of the same. -/
import Derived.Test.YtbailfianjmflabEqualL
import Derived.Test.YtbailfianjmflabEqualN
import Derived.Test.YtbailfianjmflabBoxV
namespace Go.Proofs.Ytbailfianjmflab
open Go.RowKit

set_option maxRecDepth 20000 in
set_option maxHeartbeats 1600000 in
theorem sameim_yes (a0 : Option Addr) (n c : Nat) (a1 : Option Addr) (m e : Nat) (b0 : Option Addr) (n2 c2 : Nat) (b1 : Option Addr) (m2 e2 : Nat) (P : List Pla) (G : List Int) (w : World) (h1 : Pls w a0 n c P) (h2 : Its w a1 m e G) (h3 : Pls w b0 n2 c2 P) (h4 : Its w b1 m2 e2 G) :
    Calls Try.prog 13 #[.agg #[.slice a0 n c, .slice a1 m e], .agg #[.slice b0 n2 c2, .slice b1 m2 e2]] w fun z w' => z = .returned (.bool true) ∧ Below w.heap.size w w' := by
  have hba := below_boxP (w := w) #[.slice a0 n c, .slice a1 m e] 36
  have hB : Below w.heap.size w ((w.alloc (.cells #[.slice a0 n c, .slice a1 m e] 36)).alloc (.cells #[.slice b0 n2 c2, .slice b1 m2 e2] 36)) := hba.alloc hba.size _
  have hv1 := (boxV_new w [.slice a0 n c, .slice a1 m e] 36).alloc (.cells #[.slice b0 n2 c2, .slice b1 m2 e2] 36)
  have hv2 := boxV_new (w.alloc (.cells #[.slice a0 n c, .slice a1 m e] 36)) [.slice b0 n2 c2, .slice b1 m2 e2] 36
  rw [show (w.alloc (.cells #[.slice a0 n c, .slice a1 m e] 36)).heap.size = w.heap.size + 1 by simp] at hv2
  obtain ⟨W0, hW0⟩ : ∃ W, Hid ((w.alloc (.cells #[.slice a0 n c, .slice a1 m e] 36)).alloc (.cells #[.slice b0 n2 c2, .slice b1 m2 e2] 36) = W) := ⟨_, Hid.mk' rfl⟩
  have HB : Hid (Below w.heap.size w W0) := by rw [← hW0.out]; exact hB
  have HV1 : Hid (BoxV W0 w.heap.size [.slice a0 n c, .slice a1 m e]) := by rw [← hW0.out]; exact hv1
  have HV2 : Hid (BoxV W0 (w.heap.size + 1) [.slice b0 n2 c2, .slice b1 m2 e2]) := by rw [← hW0.out]; exact hv2
  have H1 := Hid.mk' (h1.below HB.out)
  have H2 := Hid.mk' (h2.below HB.out)
  have H3 := Hid.mk' (h3.below HB.out)
  have H4 := Hid.mk' (h4.below HB.out)
  have k1 := h1.nB
  have k2 := h2.nB
  have k3 := h3.nB
  have k4 := h4.nB
  clear hba hB hv1 hv2 h1 h2 h3 h4
  go_enter Try.func13, Try.ntmps13
  go_wp2_with fail
  rw [hW0.out]
  refine (equalL_any a0 b0 n c n2 c2 P P W0 H1.out.rd H3.out.rd H1.out.nL H3.out.nL k1 k3).mono ?_
  rintro z w3 ⟨⟨v, rfl, hv⟩, r, rfl⟩
  rw [hv.yes rfl]
  have p1 := (HV1.out.below (below_dP W0 r)).c 1 _ rfl
  have q1 := (HV2.out.below (below_dP W0 r)).c 1 _ rfl
  go_wp2_with fail
  refine (equalN_any a1 b1 m e m2 e2 G G (W0.drewN r) (H2.out.rd.below (below_dP W0 r)) (H4.out.rd.below (below_dP W0 r)) H2.out.nL H4.out.nL k2 k4).mono ?_
  rintro z w4 ⟨⟨v2, rfl, hv2⟩, r2, rfl⟩
  rw [hv2.yes rfl]
  go_wp2_with fail
  go_ret
  exact ⟨rfl, HB.out.trans (below_dP _ _)⟩
end Go.Proofs.Ytbailfianjmflab
