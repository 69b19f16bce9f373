/- A check point in a box, with its map's lists. -/
import Derived.Test.YtbakgobgjfhhhaaDoorPointMath
import Derived.Test.YtbakgobgjfhhhaaDoorOwnIm
namespace Go.Proofs.YtbakgobgjfhhhaaDoor
open Go.RowKit

/-- a check point's cells -/
def ptV (t : Int) (a0 : Option Addr) (n c : Nat) (a1 : Option Addr) (m e : Nat) : List Value := [.int .i64 t, .slice a0 n c, .slice a1 m e]
structure PtAt (X : World) (g : Nat) (t : Int) (a0 : Option Addr) (n c : Nat) (a1 : Option Addr) (m e : Nat) (P : List Pla) (G : List Int) : Prop where
  bx : BoxV X g (ptV t a0 n c a1 m e)
  pl : Pls X a0 n c P
  it : Its X a1 m e G
theorem PtAt.below {X Y : World} {g : Nat} {t : Int} {a0 : Option Addr} {n c : Nat} {a1 : Option Addr} {m e : Nat} {P : List Pla} {G : List Int} (h : PtAt X g t a0 n c a1 m e P G) (hb : Below X.heap.size X Y) : PtAt Y g t a0 n c a1 m e P G := ⟨h.bx.below hb, h.pl.below hb, h.it.below hb⟩
theorem PtAt.new {w : World} {t : Int} {a0 : Option Addr} {n c : Nat} {a1 : Option Addr} {m e : Nat} {P : List Pla} {G : List Int} (h1 : Pls w a0 n c P) (h2 : Its w a1 m e G) (ty : TypeId) : PtAt (w.alloc (.cells #[.int .i64 t, .slice a0 n c, .slice a1 m e] ty)) w.heap.size t a0 n c a1 m e P G := by
  have hb := below_boxP (w := w) #[.int .i64 t, .slice a0 n c, .slice a1 m e] ty
  exact ⟨boxV_new w (ptV t a0 n c a1 m e) ty, h1.below hb, h2.below hb⟩
section
variable {X : World} {g : Nat} {t : Int} {a0 : Option Addr} {n c : Nat} {a1 : Option Addr} {m e : Nat} {P : List Pla} {G : List Int}
theorem PtAt.c0 (h : PtAt X g t a0 n c a1 m e P G) : X.cell? ⟨g, 0, none⟩ = some (.int .i64 t) := h.bx.c 0 _ rfl
theorem PtAt.c1 (h : PtAt X g t a0 n c a1 m e P G) : X.cell? ⟨g, 1, none⟩ = some (.slice a0 n c) := h.bx.c 1 _ rfl
theorem PtAt.c2 (h : PtAt X g t a0 n c a1 m e P G) : X.cell? ⟨g, 2, none⟩ = some (.slice a1 m e) := h.bx.c 2 _ rfl
end
/-- the text of a point -/
def ptT (t n : Int) (P : List Pla) (G : List Int) : ByteArray := ⟨(ptL t n P G).toArray⟩
theorem ptT_list (t n : Int) (P : List Pla) (G : List Int) : (ptT t n P G).data.toList = ptL t n P G := rfl
theorem ptT_no {t n : Int} {P : List Pla} {G : List Int} (h : ptE t n P G ≠ 0) : ptT t n P G = ⟨#[]⟩ := by unfold ptT; rw [ptL_no h]
theorem ptT_size {t n : Int} {P : List Pla} {G : List Int} (h : ptE t n P G = 0) : (ptT t n P G).size = 15 + (imB P G).length := by
  show (ptL t n P G).length = _
  rw [ptL_ok h, selS_len, ptB_len]; omega
theorem ptT_small (t n : Int) (P : List Pla) (G : List Int) : (ptT t n P G).size ≤ 400 := by
  by_cases h : ptE t n P G = 0
  · rw [ptT_size h]
    have := ptB_small n (ptE_ok h).2.2
    rw [ptB_len] at this
    omega
  · rw [ptT_no h]; show 0 ≤ 400; omega
end Go.Proofs.YtbakgobgjfhhhaaDoor
