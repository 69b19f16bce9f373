/- A slice that can be read, whatever its elements are: by its cells. -/
import Derived.Test.YtdhjadgmdmdnjaaBase
import Derived.Deep.OwnRows
import Derived.Laws.Rows
import Derived.OwnWalk
namespace Go.Proofs.Ytdhjadgmdmdnjaa
open Go.RowKit

/-- the answer says just that -/
def IffB (b : Bool) (p : Prop) : Prop := b = true ↔ p
theorem IffB.t {p : Prop} (h : p) : IffB true p := ⟨fun _ => h, fun _ => rfl⟩
theorem IffB.f {p : Prop} (h : ¬ p) : IffB false p := ⟨fun e => (by cases e), fun e => absurd e h⟩
theorem IffB.yes {b : Bool} {p : Prop} (h : IffB b p) (hp : p) : b = true := h.2 hp
theorem IffB.no {b : Bool} {p : Prop} (h : IffB b p) (hp : ¬ p) : b = false := by
  cases b with
  | false => rfl
  | true => exact absurd (h.1 rfl) hp
theorem IffB.congr {b : Bool} {p q : Prop} (h : IffB b p) (e : p ↔ q) : IffB b q := h.trans e
theorem addR (b off k : Nat) : (⟨b, off, none⟩ : Addr).add k = ⟨b, off + k, none⟩ := by unfold Addr.add; split <;> simp_all
/-- n elements of so many cells each lie there -/
structure Rd (w : World) (a0 : Option Addr) (n size : Nat) (xs : List Value) : Prop where
  len : xs.length = n * size
  at' : 0 < n → ∃ b off, a0 = some ⟨b, off, none⟩ ∧ b < w.heap.size ∧ ∀ j u, xs[j]? = some u → w.cell? ⟨b, off + j, none⟩ = some u
theorem Rd.below {w w' : World} {a0 : Option Addr} {n size : Nat} {xs : List Value} (h : Rd w a0 n size xs) (hb : Below w.heap.size w w') : Rd w' a0 n size xs :=
  ⟨h.len, fun hp => by
    obtain ⟨b, off, h1, h2, h3⟩ := h.at' hp
    exact ⟨b, off, h1, Nat.lt_of_lt_of_le h2 hb.size, fun j u hj => (hb.cell (p := ⟨b, off + j, none⟩) h2).trans (h3 j u hj)⟩⟩
theorem Rd.nil (w : World) (a0 : Option Addr) (size : Nat) : Rd w a0 0 size [] := ⟨by simp, fun h => by omega⟩
theorem Rd.of_none {w : World} {n size : Nat} {xs : List Value} (h : Rd w Option.none n size xs) : n = 0 := by
  refine Classical.byContradiction fun hn => ?_
  obtain ⟨b, off, e, _⟩ := h.at' (by omega)
  cases e
theorem Rd.news {w : World} {ad : Addr} {n size : Nat} {xs : List Value} (h : Rd w (some ad) n size xs) : ∀ j u, xs[j]? = some u → w.cell? (ad.add j) = some u := by
  intro j u hj
  have hlt : j < n * size := by rw [← h.len]; exact (List.getElem?_eq_some_iff.1 hj).1
  have hn : 0 < n := by
    rcases Nat.eq_zero_or_pos n with h0 | h0
    · subst h0; rw [Nat.zero_mul] at hlt; omega
    · exact h0
  obtain ⟨b, off, e, _, hc⟩ := h.at' hn
  cases e
  rw [addR]; exact hc j u hj
theorem Rd.pre {w : World} {a0 : Option Addr} {n size : Nat} {xs : List Value} (h : Rd w a0 n size xs) (m : Nat) (hm : m ≤ n) : Rd w a0 m size (xs.take (m * size)) := by
  have hle : m * size ≤ n * size := Nat.mul_le_mul_right _ hm
  refine ⟨by rw [List.length_take, h.len]; omega, fun hp => ?_⟩
  obtain ⟨b, off, h1, h2, h3⟩ := h.at' (by omega)
  refine ⟨b, off, h1, h2, fun j u hj => h3 j u ?_⟩
  have hlt := (List.getElem?_eq_some_iff.1 hj).1
  rw [List.length_take] at hlt
  rwa [List.getElem?_take_of_lt (by omega)] at hj
theorem Rd.of_own {w : World} {N n size : Nat} {e : TypeId} {v : Value} {xs : List Value} (h : w.ownsRow N e size v n xs) :
    ∃ ao cap, v = .slice ao n cap ∧ n ≤ cap ∧ cap ≤ maxLen ∧ (ao = none → cap = 0) ∧ Rd w ao n size xs := by
  have hl := h.1
  rcases h.2 with ⟨rfl, rfl⟩ | ⟨g, cap, cur, rfl, _, hg, h1, h2, _, _⟩
  · exact ⟨_, _, rfl, Nat.le_refl _, Nat.zero_le _, fun _ => rfl, ⟨hl, fun hp => by omega⟩⟩
  · refine ⟨_, _, rfl, h1, h2, (fun e => by cases e), ⟨hl, fun _ => ⟨g, 0, rfl, (Array.getElem?_eq_some_iff.1 hg).1, fun j u hj => ?_⟩⟩⟩
    have := h.cells (g := g) rfl j u hj
    rwa [addR] at this

/-- texts as cells -/
def stC (C : List ByteArray) : List Value := C.map .string
theorem stC_length (C : List ByteArray) : (stC C).length = C.length := by simp [stC]
theorem stC_at (C : List ByteArray) (i : Nat) (h : i < C.length) : (stC C)[i]? = some (.string (C.getD i ⟨#[]⟩)) := by
  unfold stC
  rw [List.getElem?_map, List.getD_eq_getElem?_getD, List.getElem?_eq_getElem h]; rfl
theorem stC_one (C : List ByteArray) : ∀ u ∈ stC C, u.oneCell' = true := by
  intro u hu
  obtain ⟨s, _, rfl⟩ := List.mem_map.1 hu
  rfl
theorem stC_snoc (C : List ByteArray) (s : ByteArray) : stC (C ++ [s]) = stC C ++ [.string s] := by simp [stC]
theorem stC_set (C : List ByteArray) (i : Nat) (s : ByteArray) : stC (C.set i s) = (stC C).set i (.string s) := by simp [stC, List.map_set]
/-- Booleans as cells -/
def boC (K : List Bool) : List Value := K.map .bool
theorem boC_length (K : List Bool) : (boC K).length = K.length := by simp [boC]
theorem boC_at (K : List Bool) (i : Nat) (h : i < K.length) : (boC K)[i]? = some (.bool (K.getD i false)) := by
  unfold boC
  rw [List.getElem?_map, List.getD_eq_getElem?_getD, List.getElem?_eq_getElem h]; rfl
theorem boC_one (K : List Bool) : ∀ u ∈ boC K, u.oneCell' = true := by
  intro u hu
  obtain ⟨s, _, rfl⟩ := List.mem_map.1 hu
  rfl
end Go.Proofs.Ytdhjadgmdmdnjaa
