/- Rows of the call's own while others are spoilt. -/
import Derived.Test.YtbailfianjmflabRoomKit
namespace Go.Proofs.Ytbailfianjmflab
open Go.RowKit

theorem own_lowR {w w' : World} {N n size g : Nat} {e : TypeId} {v : Value} {xs : List Value} (h : w.ownsRow N e size v n xs) (hg : w.grownBy w' (some g)) (hN : g < N) : w'.ownsRow N e size v n xs :=
  h.kept hg (.inr fun e => by have := (h.lt _ e).1; omega)
theorem own_hiR {w w' : World} {N n size : Nat} {e : TypeId} {v : Value} {xs : List Value} {r : Option Nat} (h : w.ownsRow N e size v n xs) (hg : w.grownBy w' r) (hr : ∀ k, r = some k → k < N) : w'.ownsRow N e size v n xs := by
  refine h.kept hg ?_
  cases hk : v.ownBlock with
  | none => exact .inl rfl
  | some k =>
    refine .inr fun e => ?_
    have := (h.lt k hk).1
    have := hr k e.symm
    omega
theorem own_neR {w w' : World} {N n size : Nat} {e : TypeId} {v : Value} {xs : List Value} {r : Option Nat} (h : w.ownsRow N e size v n xs) (hg : w.grownBy w' r) (hr : ∀ k, v.ownBlock = some k → r ≠ some k) : w'.ownsRow N e size v n xs := by
  refine h.kept hg ?_
  cases hk : v.ownBlock with
  | none => exact .inl rfl
  | some k => exact .inr (Ne.symm (hr k hk))
theorem rd_ownR {w : World} {N n cap size : Nat} {e : TypeId} {ao : Option Addr} {xs : List Value} (h : w.ownsRow N e size (.slice ao n cap) n xs) : Rd w ao n size xs ∧ cap ≤ maxLen := by
  obtain ⟨_, _, e, _, hm, _, hr⟩ := Rd.of_own h
  cases e
  exact ⟨hr, hm⟩
end Go.Proofs.Ytbailfianjmflab
