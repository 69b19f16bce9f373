/- linenref.Fix, as a text. -/
import Derived.Test.YtbakgobgjfhhhaaDoorTxPl
import Derived.Test.YtbakgobgjfhhhaaDoorRFixOnly
namespace Go.Proofs.YtbakgobgjfhhhaaDoor
open Go.RowKit

theorem rfix_txp (n : Nat) (m : Int) (w : World) (hn : n < 18446744073709551616) (h1 : 1 ≤ m) (h8 : m ≤ 8) :
    Calls Tryd.prog 27 #[.int .u64 n, .int .i64 m] w fun e w' => e = .returned (.string (fxI n m)) ∧ Below w.heap.size w w' := by
  obtain ⟨k, rfl⟩ := Int.eq_ofNat_of_zero_le (show 0 ≤ m by omega)
  exact rfix_in n k w hn (by omega) (by omega)
theorem fxI_two {p : Pla} (h : rtB p = true) : fxI (p.cl * 256 + p.nh).toNat 2 = txp (plB p) := by
  unfold fxI
  rw [show (2 : Int).toNat = 2 from rfl, fix_two h]
end Go.Proofs.YtbakgobgjfhhhaaDoor
