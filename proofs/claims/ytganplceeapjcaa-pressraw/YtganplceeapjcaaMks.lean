/- Marks that came in as a slice, or are answered as one. -/
import Derived.Test.YtganplceeapjcaaBase
import Derived.Test.YtganplceeapjcaaMarkMath
namespace Go.Proofs.Ytganplceeapjcaa
open Go.RowKit

/-- marks that came in as a slice -/
structure Mks (w : World) (a0 : Option Addr) (len : Nat) (M : Nat → Mk) : Prop where
  lenB : len ≤ 5864062014805
  at' : 0 < len → ∃ b off, a0 = some ⟨b, off, none⟩ ∧ b < w.heap.size ∧ ∀ i, i < len → w.cell? ⟨b, off + i * 3, none⟩ = some (.int .i64 (M i).ln) ∧ w.cell? ⟨b, off + i * 3 + 1, none⟩ = some (.int .i64 (M i).ds) ∧ w.cell? ⟨b, off + i * 3 + 2, none⟩ = some (.int .u8 ((M i).by' : Int))
  lB : ∀ i, i < len → -9223372036854775808 ≤ (M i).ln ∧ (M i).ln ≤ 9223372036854775807
  dB : ∀ i, i < len → -9223372036854775808 ≤ (M i).ds ∧ (M i).ds ≤ 9223372036854775807
  bB : ∀ i, i < len → (M i).by' < 256
theorem mks_below {w w' : World} {a0 : Option Addr} {len : Nat} {M : Nat → Mk} (h : Mks w a0 len M) (hb : Below w.heap.size w w') : Mks w' a0 len M :=
  ⟨h.lenB, fun hp => by
    obtain ⟨b, off, h1, h2, h3⟩ := h.at' hp
    exact ⟨b, off, h1, Nat.lt_of_lt_of_le h2 hb.size, fun i hi => ⟨(hb.cell (p := ⟨b, off + i * 3, none⟩) h2).trans (h3 i hi).1, (hb.cell (p := ⟨b, off + i * 3 + 1, none⟩) h2).trans (h3 i hi).2.1, (hb.cell (p := ⟨b, off + i * 3 + 2, none⟩) h2).trans (h3 i hi).2.2⟩⟩, h.lB, h.dB, h.bB⟩
/-- marks as a list, from the p-th on -/
def mkL (M : Nat → Mk) (p len : Nat) : List Mk := (List.range (len - p)).map fun i => M (p + i)
theorem mkL_end (M : Nat → Mk) (len : Nat) : mkL M len len = [] := by simp [mkL]
theorem mkL_cons (M : Nat → Mk) (p len : Nat) (h : p < len) : mkL M p len = M p :: mkL M (p + 1) len := by
  unfold mkL
  rw [show len - p = (len - (p + 1)) + 1 by omega, List.range_succ_eq_map]
  simp only [List.map_cons, List.map_map, Nat.add_zero]
  congr 1
  apply List.map_congr_left
  intro i _
  simp [Nat.add_assoc, Nat.add_comm 1]
theorem mkL_length (M : Nat → Mk) (p len : Nat) : (mkL M p len).length = len - p := by simp [mkL]
theorem mkL_take (M : Nat → Mk) (k len : Nat) (h : k ≤ len) : mkL M 0 len = mkL M 0 k ++ mkL M k len := by
  apply List.ext_getElem
  · simp [mkL_length]; omega
  · intro i h1 h2
    simp only [mkL, List.getElem_map, List.getElem_range, Nat.zero_add]
    by_cases hi : i < k
    · rw [List.getElem_append_left (by simp [hi])]; simp
    · rw [List.getElem_append_right (by simp; omega)]
      simp
      congr 1; omega
end Go.Proofs.Ytganplceeapjcaa
