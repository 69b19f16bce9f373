/- Worlds in which one row may be written. -/
import Derived.Test.YtdolbgbgnplfhaaI64s
namespace Go.Proofs.Ytdolbgbgnplfhaa
open Go.RowKit

theorem grown_swap {w wr : World} {g : Nat} (h : w.grownBy wr (some g)) (p q : Nat) (x y : Value) : w.grownBy (((wr.setCell ⟨g, p, none⟩ x).setCell ⟨g, q, none⟩ y)) (some g) :=
  ⟨h.os, h.tape, h.output, by simp only [World.setCell, Array.size_modify]; exact h.size,
   fun k hk hne => (heap_setCell_other _ ⟨g, q, none⟩ k y (by intro e; exact hne (by rw [e]))).trans ((heap_setCell_other wr ⟨g, p, none⟩ k x (by intro e; exact hne (by rw [e]))).trans (h.block k hk hne))⟩
theorem grown_drew {w wr : World} {r : Option Nat} (h : w.grownBy wr r) : w.grownBy wr.drew r := ⟨h.os, h.tape, h.output, h.size, h.block⟩
theorem grown_refl (w : World) (r : Option Nat) : w.grownBy w r := ⟨rfl, rfl, rfl, Nat.le_refl _, fun _ _ _ => rfl⟩
theorem grown_trans {a b c : World} {r : Option Nat} (h1 : a.grownBy b r) (h2 : b.grownBy c r) : a.grownBy c r :=
  ⟨h2.os.trans h1.os, h2.tape.trans h1.tape, h2.output.trans h1.output, Nat.le_trans h1.size h2.size, fun k hk hne => (h2.block k (Nat.lt_of_lt_of_le hk h1.size) hne).trans (h1.block k hk hne)⟩
end Go.Proofs.Ytdolbgbgnplfhaa
