/- Rows of the call's own while others are spoilt. -/
import Derived.Test.YtdhjadgmdmdnjaaSpoilO
import Derived.Test.YtdhjadgmdmdnjaaRoomyO
import Derived.Test.YtdhjadgmdmdnjaaOwnRes
namespace Go.Proofs.Ytdhjadgmdmdnjaa
open Go.RowKit

/-- the row holds what is read there -/
theorem own_of_rd {w : World} {N n cap size : Nat} {e : TypeId} {ao : Option Addr} {xs ys : List Value} (h : w.ownsRow N e size (.slice ao n cap) n xs) (hr : Rd w ao n size ys) : w.ownsRow N e size (.slice ao n cap) n ys := by
  have hx : xs = ys := by
    apply List.ext_getElem?
    intro j
    by_cases hj : j < n * size
    · have hn : 0 < n := by
        rcases Nat.eq_zero_or_pos n with h0 | h0
        · subst h0; rw [Nat.zero_mul] at hj; omega
        · exact h0
      have jx : j < xs.length := by rw [h.1]; exact hj
      have jy : j < ys.length := by rw [hr.len]; exact hj
      rcases h.2 with ⟨h0, h1⟩ | ⟨g, c', cur, hv, _⟩
      · cases h0; omega
      · cases hv
        obtain ⟨b, off, e1, _, hc⟩ := hr.at' hn
        cases e1
        have c1 := h.cells (g := g) rfl j _ (List.getElem?_eq_getElem jx)
        have c2 := hc j _ (List.getElem?_eq_getElem jy)
        rw [addR] at c1
        rw [c1] at c2
        rw [List.getElem?_eq_getElem jx, List.getElem?_eq_getElem jy]
        exact c2
    · rw [List.getElem?_eq_none (by rw [h.1]; omega), List.getElem?_eq_none (by rw [hr.len]; omega)]
  rw [← hx]; exact h
theorem own_low {w w' : World} {N n size g : Nat} {e : TypeId} {v : Value} {xs : List Value} (h : w.ownsRow N e size v n xs) (hg : w.grownBy w' (some g)) (hN : g < N) : w'.ownsRow N e size v n xs :=
  h.kept hg (.inr fun e => by have := (h.lt _ e).1; omega)
theorem OwnRes.spoilt {w w' : World} {N g : Nat} {q : Int} {u v : Value} {C : List ByteArray} {P : List Pt} (h : OwnRes w N q u v C P) (hg : w.grownBy w' (some g)) (hN : g < N) : OwnRes w' N q u v C P := by
  rcases h with ⟨h1, h2, h3⟩ | h
  · exact .inl ⟨h1, h2, ⟨own_low h3.rc hg hN, own_low h3.rp hg hN, h3.ap⟩⟩
  · exact .inr h
/-- a list with room behind it, as ops -/
theorem ops_of_room {w w0 : World} {g n cap : Nat} {a0 : Option Addr} {l : List Opp} {r : List Value} (h : BoxV w g (opC l ++ r)) (ho : Ops w0 a0 n cap l) : Ops w (some ⟨g, 0, none⟩) n (n + 3) l :=
  ⟨ho.nL, ho.nB, rd_of_box h (by rw [opC_length, ho.nL]), ho.oB, ho.tB, by omega, by have := ho.nB; unfold maxLen; omega, fun e => by cases e⟩
set_option maxRecDepth 20000 in
set_option maxHeartbeats 1600000 in
theorem spoilO_nil (o : Opp) (w : World) :
    Calls Try.prog 33 #[.slice none 0 0, .agg #[.int .i64 o.kd, .int .i64 o.pl, .string o.tx]] w fun e w' => e = .returned (.tuple #[]) ∧ w.grownBy w' none := by
  have hg := but_alloc (World.grownBy.refl w none) (.cells #[.int .i64 o.kd, .int .i64 o.pl, .string o.tx] 29)
  have HG := Hid.mk' hg
  clear hg
  go_enter Try.func33, Try.ntmps33
  go_wp2_with fail
  go_loopw [11] (fun i wr => i = .int .i64 0 ∧ w.grownBy wr none) (fun _ _ => 0)
  case atStart => exact ⟨rfl, HG.out⟩
  case round =>
    obtain ⟨rfl, hg⟩ := hrel
    have HG1 := Hid.mk' hg
    clear hg
    go_wp2_with fail
    go_end0
    exact ⟨rfl, HG1.out⟩
theorem spoilO_own (N n : Nat) (v : Value) (xs : List Value) (o : Opp) (w : World) (h : w.ownsRow N 29 3 v n xs) (hc : ∀ a c, v = .slice a n c → c ≤ 9223372036854775807) :
    Calls Try.prog 33 #[v, .agg #[.int .i64 o.kd, .int .i64 o.pl, .string o.tx]] w fun e w' => e = .returned (.tuple #[]) ∧ w.grownBy w' v.ownBlock := by
  rcases h.2 with ⟨rfl, rfl⟩ | ⟨g, cap, cur, rfl, _⟩
  · exact spoilO_nil o w
  · obtain ⟨rest, h1, h2, _, _⟩ := box_of_own h
    exact spoilO_any g n cap _ o w h2 h1 (hc _ _ rfl)
theorem OwnRes.keptR {w w' : World} {N : Nat} {q : Int} {u v : Value} {C : List ByteArray} {P : List Pt} {r : Option Nat} (h : OwnRes w N q u v C P) (hg : w.grownBy w' r) (h1 : ∀ k, u.ownBlock = some k → r ≠ some k) (h2 : ∀ k, v.ownBlock = some k → r ≠ some k) : OwnRes w' N q u v C P := by
  have ne : ∀ x : Value, (∀ k, x.ownBlock = some k → r ≠ some k) → x.ownBlock = none ∨ x.ownBlock ≠ r := fun x hx => by
    cases hk : x.ownBlock with
    | none => exact .inl rfl
    | some k => exact .inr (Ne.symm (hx k hk))
  rcases h with ⟨g1, g2, g3⟩ | h
  · exact .inl ⟨g1, g2, ⟨g3.rc.kept hg (ne u h1), g3.rp.kept hg (ne v h2), g3.ap⟩⟩
  · exact .inr h
theorem OwnRes.lts {w : World} {N : Nat} {q : Int} {u v : Value} {C : List ByteArray} {P : List Pt} (h : OwnRes w N q u v C P) : (∀ k, u.ownBlock = some k → k < w.heap.size) ∧ (∀ k, v.ownBlock = some k → k < w.heap.size) := by
  rcases h with ⟨_, _, g3⟩ | ⟨_, rfl, rfl⟩
  · exact ⟨fun k e => (g3.rc.lt k e).2, fun k e => (g3.rp.lt k e).2⟩
  · exact ⟨fun k e => by simp [Value.ownBlock] at e, fun k e => by simp [Value.ownBlock] at e⟩
theorem own_keptR {w w' : World} {N n size : Nat} {e : TypeId} {v : Value} {xs : List Value} {r : Option Nat} (h : w.ownsRow N e size v n xs) (hg : w.grownBy w' r) (hr : ∀ k, r = some k → k < N) : w'.ownsRow N e size v n xs := by
  refine h.kept hg ?_
  cases hk : v.ownBlock with
  | none => exact .inl rfl
  | some k =>
    refine .inr fun e => ?_
    have := (h.lt k hk).1
    have := hr k e.symm
    omega
theorem rd_own {w : World} {N n cap size : Nat} {e : TypeId} {ao : Option Addr} {xs : List Value} (h : w.ownsRow N e size (.slice ao n cap) n xs) : Rd w ao n size xs := by
  obtain ⟨_, _, e, _, _, _, hr⟩ := Rd.of_own h
  cases e
  exact hr
end Go.Proofs.Ytdhjadgmdmdnjaa
