/- A disk and Booleans in their blocks, side by side. -/
import Derived.Test.YtlcfccnkplmpgaaBos
import Derived.Test.YtlcfccnkplmpgaaBox2
namespace Go.Proofs.Ytlcfccnkplmpgaa
open Go.RowKit

structure In5 (W : World) (g : Nat) (a0 : Option Addr) (n c : Nat) (b0 : Option Addr) (m d : Nat) (C : List ByteArray) (P : List Pt) (ak : Option Addr) (k0 kcap : Nat) (K : List Bool) : Prop where
  bx : Box2 W g (.slice a0 n c) (.slice b0 m d)
  kb : W.cell? ⟨g + 1, 0, none⟩ = some (.slice ak k0 kcap)
  kl : g + 1 < W.heap.size
  dk : Dk W a0 n b0 m C P
  bo : Bos W ak k0 K
theorem In5.below {W W' : World} {g : Nat} {a0 : Option Addr} {n c : Nat} {b0 : Option Addr} {m d : Nat} {C : List ByteArray} {P : List Pt} {ak : Option Addr} {k0 kcap : Nat} {K : List Bool} (h : In5 W g a0 n c b0 m d C P ak k0 kcap K) (hb : Below W.heap.size W W') : In5 W' g a0 n c b0 m d C P ak k0 kcap K :=
  ⟨h.bx.below hb, (hb.cell (p := ⟨g + 1, 0, none⟩) h.kl).trans h.kb, Nat.lt_of_lt_of_le h.kl hb.size, h.dk.below hb, h.bo.below hb⟩
theorem In5.alloc {W : World} {g : Nat} {a0 : Option Addr} {n c : Nat} {b0 : Option Addr} {m d : Nat} {C : List ByteArray} {P : List Pt} {ak : Option Addr} {k0 kcap : Nat} {K : List Bool} (h : In5 W g a0 n c b0 m d C P ak k0 kcap K) (o : Obj) : In5 (W.alloc o) g a0 n c b0 m d C P ak k0 kcap K := h.below ((Below.refl _ _).alloc (Nat.le_refl _) _)
theorem In5.drew {W : World} {g : Nat} {a0 : Option Addr} {n c : Nat} {b0 : Option Addr} {m d : Nat} {C : List ByteArray} {P : List Pt} {ak : Option Addr} {k0 kcap : Nat} {K : List Bool} (h : In5 W g a0 n c b0 m d C P ak k0 kcap K) : In5 W.drew g a0 n c b0 m d C P ak k0 kcap K := h.below (Below.refl _ _).drew
theorem in5_new {w : World} {a0 : Option Addr} {n c : Nat} {b0 : Option Addr} {m d : Nat} {C : List ByteArray} {P : List Pt} {ak : Option Addr} {k0 kcap : Nat} {K : List Bool} (h : Dk w a0 n b0 m C P) (hK : Bos w ak k0 K) (t t' : TypeId) :
    In5 ((w.alloc (.cells #[.slice a0 n c, .slice b0 m d] t)).alloc (.cells #[.slice ak k0 kcap] t')) w.heap.size a0 n c b0 m d C P ak k0 kcap K ∧ Below w.heap.size w ((w.alloc (.cells #[.slice a0 n c, .slice b0 m d] t)).alloc (.cells #[.slice ak k0 kcap] t')) := by
  have hB : Below w.heap.size w ((w.alloc (.cells #[.slice a0 n c, .slice b0 m d] t)).alloc (.cells #[.slice ak k0 kcap] t')) := ((Below.refl _ w).alloc (Nat.le_refl _) _).alloc (by simp) _
  refine ⟨⟨(box2_new w _ _ _).alloc _, ?_, by simp, h.below hB, hK.below hB⟩, hB⟩
  rw [show w.heap.size + 1 = (w.alloc (.cells #[.slice a0 n c, .slice b0 m d] t)).heap.size by simp, World.cell?_alloc_new]; rfl
end Go.Proofs.Ytlcfccnkplmpgaa
