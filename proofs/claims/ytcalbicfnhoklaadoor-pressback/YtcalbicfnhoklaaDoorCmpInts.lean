import Derived.Test.YtcalbicfnhoklaaDoorMsac
import Derived.Test.YtcalbicfnhoklaaDoorSwapInts
import Derived.Deep.QuietTactic
import Derived.BigQuiet

/- The order of signs, by how often they come. -/
namespace Go.Proofs.YtcalbicfnhoklaaDoor
open Go.RowKit

/-- what the order reads: it lies outside of the row g -/
structure OrdI (w : World) (g kb fb : Nat) (a0 : Option Addr) (len cap : Nat) (F : Nat → Int) : Prop where
  k : w.cell? ⟨kb, 0, none⟩ = some (.func (.func 73) #[] #[.pointer (some ⟨fb, 0, none⟩)])
  f : w.cell? ⟨fb, 0, none⟩ = some (.slice a0 len cap)
  wd : Wds w a0 len F
  kl : kb < w.heap.size
  fl : fb < w.heap.size
  kg : kb ≠ g
  fg : fb ≠ g
  ag : ∀ b off, a0 = some ⟨b, off, none⟩ → b ≠ g
theorem OrdI.grown {w w' : World} {g kb fb : Nat} {a0 : Option Addr} {len cap : Nat} {F : Nat → Int} (h : OrdI w g kb fb a0 len cap F) (hg : w.grownBy w' (some g)) : OrdI w' g kb fb a0 len cap F := by
  have cel : ∀ b p : Nat, b < w.heap.size → b ≠ g → w'.cell? ⟨b, p, none⟩ = w.cell? ⟨b, p, none⟩ := fun b p h1 h2 => World.cell?_of_block (hg.block b h1 (by simpa using h2))
  refine ⟨(cel _ _ h.kl h.kg).trans h.k, (cel _ _ h.fl h.fg).trans h.f, ⟨h.wd.lenB, fun hp => ?_, h.wd.wB⟩, Nat.lt_of_lt_of_le h.kl hg.size, Nat.lt_of_lt_of_le h.fl hg.size, h.kg, h.fg, h.ag⟩
  obtain ⟨b, off, h1, h2, h3⟩ := h.wd.at' hp
  exact ⟨b, off, h1, Nat.lt_of_lt_of_le h2 hg.size, fun i hi => (cel _ _ h2 (h.ag b off h1)).trans (h3 i hi)⟩
theorem OrdI.drewN {w : World} {g kb fb : Nat} {a0 : Option Addr} {len cap : Nat} {F : Nat → Int} (h : OrdI w g kb fb a0 len cap F) (q : Nat) : OrdI (w.drewN q) g kb fb a0 len cap F := h.grown ⟨rfl, rfl, rfl, Nat.le_refl _, fun _ _ _ => rfl⟩

set_option maxHeartbeats 400000 in
theorem keyI_at (g kb fb : Nat) (a0 : Option Addr) (len cap : Nat) (F : Nat → Int) (x : Nat) (w : World) (h : OrdI w g kb fb a0 len cap F) (hx : x < len) :
    Calls Tryd.prog 73 #[.int .i64 (x : Int), .pointer (some ⟨fb, 0, none⟩)] w fun e w' => e = .returned (.int .i64 (F x)) ∧ w' = w := by
  obtain ⟨b, off, rfl, _, hc⟩ := h.wd.at' (by omega)
  have c0 := hc x hx
  have c1 := h.f
  have hl := h.wd.lenB
  clear hc h
  go_enter Tryd.func73, Tryd.ntmps73
  go_wp2_with fail
  go_ret
  exact ⟨rfl, rfl⟩

set_option maxRecDepth 20000 in
set_option maxHeartbeats 800000 in
theorem cmpI_at (g kb fb : Nat) (a0 : Option Addr) (len cap : Nat) (F : Nat → Int) (x y : Nat) (w : World) (h : OrdI w g kb fb a0 len cap F) (hx : x < len) (hy : y < len) :
    Calls Tryd.prog 84 #[.int .i64 (x : Int), .int .i64 (y : Int), .pointer (some ⟨kb, 0, none⟩)] w fun e w' => e = .returned (.int .i64 (cmpV (F x) (F y))) ∧ ∃ q, w' = w.drewN q := by
  have HK : Hid (∀ q z, z < len → Calls Tryd.prog 73 #[.int .i64 (z : Int), .pointer (some ⟨fb, 0, none⟩)] (w.drewN q) fun e w' => e = .returned (.int .i64 (F z)) ∧ w' = w.drewN q) := fun q z hz => keyI_at g kb fb a0 len cap F z _ (h.drewN q) hz
  have c1 := h.k
  clear h
  go_enter Tryd.func84, Tryd.ntmps84
  go_wp2_with fail
  go_quiet ((first | (go_at_call 73; refine (HK.out _ _ (by first | exact hx | exact hy)).mono ?_; rintro e w' ⟨rfl, rfl⟩; exact ⟨rfl, _, rfl⟩) | (go_at_call 85; refine (compare_int _ _ _).mono ?_; rintro e w' ⟨rfl, rfl⟩; exact ⟨rfl, _, rfl⟩) | fail))
  go_wp2_with fail
  go_ret
  exact ⟨rfl, nq, rfl⟩
end Go.Proofs.YtcalbicfnhoklaaDoor
