/- Whole numbers that came in as a slice. -/
import Derived.Test.YtdolbgbgnplfhaaBase
namespace Go.Proofs.Ytdolbgbgnplfhaa
open Go.RowKit

/-- widths that came in as a slice -/
structure Wds (w : World) (a0 : Option Addr) (len : Nat) (W : Nat → Int) : Prop where
  lenB : len ≤ 17592186044416
  at' : 0 < len → ∃ b off, a0 = some ⟨b, off, none⟩ ∧ b < w.heap.size ∧ ∀ i, i < len → w.cell? ⟨b, off + i, none⟩ = some (.int .i64 (W i))
  wB : ∀ i, i < len → -9223372036854775808 ≤ W i ∧ W i ≤ 9223372036854775807
theorem wds_below {w w' : World} {a0 : Option Addr} {len : Nat} {W : Nat → Int} (h : Wds w a0 len W) (hb : Below w.heap.size w w') : Wds w' a0 len W :=
  ⟨h.lenB, fun hp => by
    obtain ⟨b, off, h1, h2, h3⟩ := h.at' hp
    exact ⟨b, off, h1, Nat.lt_of_lt_of_le h2 hb.size, fun i hi => (hb.cell (p := ⟨b, off + i, none⟩) h2).trans (h3 i hi)⟩, h.wB⟩
end Go.Proofs.Ytdolbgbgnplfhaa
