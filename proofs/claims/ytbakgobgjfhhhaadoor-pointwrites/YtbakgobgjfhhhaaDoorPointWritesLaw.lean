/- The law PointWrites, walked. -/
import Derived.Test.YtbakgobgjfhhhaaDoorRPointWriteWalks
namespace Go.Proofs.YtbakgobgjfhhhaaDoor
open Go.RowKit

set_option maxRecDepth 20000 in
set_option maxHeartbeats 1600000 in
theorem pointWrites_at (t n : Int) (a0 : Option Addr) (ln c : Nat) (a1 : Option Addr) (m e : Nat) (P : List Pla) (G : List Int) (w : World) (hT : Tab w) (h : Pls w a0 ln c P) (h' : Its w a1 m e G) :
    Calls Tryd.prog 3 #[.int .i64 t, .agg #[.int .i64 n, .slice a0 ln c, .slice a1 m e]] w fun z w' => z = .returned (.bool true) ∧ Below w.heap.size w w' := by
  have HA := Hid.mk' (PtAt.new (t := n) h h' 27)
  have HB : Hid (Below w.heap.size w (w.alloc (.cells #[.int .i64 n, .slice a0 ln c, .slice a1 m e] 27))) := below_boxP _ _
  obtain ⟨W0, hW0⟩ : ∃ W, Hid (w.alloc (.cells #[.int .i64 n, .slice a0 ln c, .slice a1 m e] 27) = W) := ⟨_, Hid.mk' rfl⟩
  rw [hW0.out] at HA HB
  have HT := Hid.mk' (tab_belowS hT HB.out)
  have c0 := HA.out.c0
  have c1 := HA.out.c1
  have c2 := HA.out.c2
  clear h h' hT
  obtain ⟨R, hR⟩ : ∃ T, Hid (ptT t n P G = T) := ⟨_, Hid.mk' rfl⟩
  obtain ⟨q, hq⟩ : ∃ T, Hid (ptE t n P G = T) := ⟨_, Hid.mk' rfl⟩
  go_enter Tryd.func3, Tryd.ntmps3
  go_wp2_with fail
  rw [hW0.out]
  go_wp2_with fail
  refine (ptwrite_any t n a0 ln c a1 m e P G W0 HT.out HA.out.pl HA.out.it).mono ?_
  rintro z w1 ⟨rfl, hb⟩
  rw [hR.out, hq.out]
  have HB1 := Hid.mk' (HB.out.trans (hb.mono HB.out.size))
  have HA1 := Hid.mk' (HA.out.below hb)
  have d0 := HA1.out.c0
  have d1 := HA1.out.c1
  have d2 := HA1.out.c2
  clear hb
  go_wp2_with fail
  refine (rpoint_any t n a0 ln c a1 m e P G w1 HA1.out.pl HA1.out.it).mono ?_
  rintro z w2 ⟨rfl, hb⟩
  rw [hR.out, hq.out]
  have HB2 := Hid.mk' (HB1.out.trans (hb.mono HB1.out.size))
  clear hb
  go_wp2_with fail
  go_ret
  exact ⟨rfl, HB2.out⟩
theorem pointWrites_walk (t n : Int) (a0 : Option Addr) (ln c : Nat) (a1 : Option Addr) (m e : Nat) (P : List Pla) (G : List Int) (w : World) (_w0 : (Lit.int .i64 t).wf = true) (_z1 : (Lit.int .i64 n).wf = true) (h : Pls w a0 ln c P) (h' : Its w a1 m e G) (hT : Tab w) :
    Calls Tryd.prog 3 #[.int .i64 t, .agg #[.int .i64 n, .slice a0 ln c, .slice a1 m e]] w fun z w' => z = .returned (.bool true) ∧ Below w.heap.size w w' :=
  pointWrites_at t n a0 ln c a1 m e P G w hT h h'
end Go.Proofs.YtbakgobgjfhhhaaDoor
