/- Booleans that came in as a slice. -/
import Derived.Test.YtdhjadgmdmdnjaaDk
namespace Go.Proofs.Ytdhjadgmdmdnjaa
open Go.RowKit

/-- Booleans that came in as a slice -/
structure Bos (w : World) (a0 : Option Addr) (k : Nat) (K : List Bool) : Prop where
  nK : K.length = k
  kB : k ≤ 140737488355328
  rk : Rd w a0 k 1 (boC K)
theorem Bos.below {w w' : World} {a0 : Option Addr} {k : Nat} {K : List Bool} (h : Bos w a0 k K) (hb : Below w.heap.size w w') : Bos w' a0 k K := ⟨h.nK, h.kB, h.rk.below hb⟩
theorem Bos.drew {w : World} {a0 : Option Addr} {k : Nat} {K : List Bool} (h : Bos w a0 k K) : Bos w.drew a0 k K := h.below ((Below.refl _ w).drew)
theorem Bos.keptN {w w' : World} {N : Nat} {a0 : Option Addr} {k : Nat} {K : List Bool} (h : Bos w a0 k K) (hb : Below N w w') (ha : 0 < k → ∀ a, a0 = some a → a.block < N) : Bos w' a0 k K :=
  ⟨h.nK, h.kB, h.rk.len, fun hp => by
    obtain ⟨b, off, h1, h2, h3⟩ := h.rk.at' hp
    have hl : b < N := ha hp _ h1
    exact ⟨b, off, h1, Nat.lt_of_lt_of_le h2 hb.size, fun j u hj => (hb.cell (p := ⟨b, off + j, none⟩) hl).trans (h3 j u hj)⟩⟩
theorem Bos.low {w : World} {a0 : Option Addr} {k : Nat} {K : List Bool} (h : Bos w a0 k K) : 0 < k → ∀ a, a0 = some a → a.block < w.heap.size := fun hp a ha => by
  obtain ⟨b, off, h1, h2, _⟩ := h.rk.at' hp
  rw [h1] at ha
  cases ha
  exact h2
theorem keepL_out (K : List Bool) (i : Nat) (h : K.length ≤ i) : keepL K i = false := by
  unfold keepL
  rw [List.getD_eq_getElem?_getD, List.getElem?_eq_none h]; rfl
end Go.Proofs.Ytdhjadgmdmdnjaa
