/- Pieces that came in as a slice. -/
import Derived.Test.YtnoegodimiehhaaBase
namespace Go.Proofs.Ytnoegodimiehhaa
open Go.RowKit

/-- pieces that came in as a slice -/
structure Pcs (w : World) (a0 : Option Addr) (len : Nat) (V : Nat → Nat) (W : Nat → Int) : Prop where
  lenB : len ≤ 17592186044416
  at' : 0 < len → ∃ b off, a0 = some ⟨b, off, none⟩ ∧ b < w.heap.size ∧ ∀ i, i < len → w.cell? ⟨b, off + i * 2, none⟩ = some (.int .u64 (V i : Int)) ∧ w.cell? ⟨b, off + i * 2 + 1, none⟩ = some (.int .i64 (W i))
  vB : ∀ i, i < len → V i < 18446744073709551616
  wB : ∀ i, i < len → -9223372036854775808 ≤ W i ∧ W i ≤ 9223372036854775807

theorem pcs_below {w w' : World} {a0 : Option Addr} {len : Nat} {V : Nat → Nat} {W : Nat → Int} (h : Pcs w a0 len V W) (hb : Below w.heap.size w w') : Pcs w' a0 len V W :=
  ⟨h.lenB, fun hp => by
    obtain ⟨b, off, h1, h2, h3⟩ := h.at' hp
    exact ⟨b, off, h1, Nat.lt_of_lt_of_le h2 hb.size, fun i hi => ⟨(hb.cell (p := ⟨b, off + i * 2, none⟩) h2).trans (h3 i hi).1, (hb.cell (p := ⟨b, off + i * 2 + 1, none⟩) h2).trans (h3 i hi).2⟩⟩, h.vB, h.wB⟩
end Go.Proofs.Ytnoegodimiehhaa
