/- What huff.pairs answers. -/
import Derived.Test.YthdgfanecfdlkaaCoinRow
namespace Go.Proofs.Ythdgfanecfdlkaa
open Go.RowKit

def prL (B : List (Nat × Bool)) (k : Nat) : List (Nat × Bool) := (prs ((B.map Prod.fst).take k)).map fun c => (c, true)
theorem prL_snoc (B : List (Nat × Bool)) (k : Nat) (h : 2 * k + 1 < B.length) : prL B (2 * (k + 1)) = prL B (2 * k) ++ [(B[2 * k].1 + B[2 * k + 1].1, true)] := by
  unfold prL
  rw [prs_snoc k (B.map Prod.fst) (by rw [List.length_map]; exact h)]
  simp
theorem prL_len (B : List (Nat × Bool)) (k : Nat) : (prL B (2 * k)).length ≤ k := by
  unfold prL
  rw [List.length_map, prs_length, List.length_take]; omega

set_option maxRecDepth 20000 in
set_option maxHeartbeats 1000000 in
theorem pairs_any (v : Value) (B : List (Nat × Bool)) (w : World) (hB : Cos w v B) (hl : B.length ≤ 1000) (hc : ∀ c ∈ B, c.1 ≤ 1000000000000) :
    Calls Try.prog 20 #[v] w fun e w' => (∃ u, e = .returned u ∧ w'.ownsRow w.heap.size 44 2 u ((prs (B.map Prod.fst)).map fun c => (c, true)).length (coC ((prs (B.map Prod.fst)).map fun c => (c, true)))) ∧ Below w.heap.size w w' := by
  obtain ⟨ao, cap, rfl, hc1, hc2, hat⟩ := hB.is
  have HA := Hid.mk' hat
  have HC := Hid.mk' hc
  obtain ⟨i0, hi, hz0, hz1, hz2⟩ := info_parts infoCo
  have KI := Hid.mk' hi
  have KZ0 := Hid.mk' hz0
  have KZ1 := Hid.mk' hz1
  have KZ2 := Hid.mk' hz2
  clear hi hz0 hz1 hz2 hat hc hB
  go_enter Try.func20, Try.ntmps20
  go_wp2_with fail
  go_loopw [3, 4] (fun lv iv wr => ∃ k : Nat, 2 * k ≤ B.length ∧ iv = .int .i64 ((2 * k + 1 : Nat) : Int) ∧ wr.ownsRow w.heap.size 44 2 lv (prL B (2 * k)).length (coC (prL B (2 * k))) ∧ Below w.heap.size w wr) (fun _ iv _ => B.length + 1 - (intOf iv).toNat)
  case atStart => exact ⟨0, Nat.zero_le _, rfl, by unfold prL; simp [prs, coC]; exact World.ownsRow_nil _ _ _ _, Below.refl _ _⟩
  case round =>
    obtain ⟨k, hk, rfl, hown, hbl⟩ := hrel
    have HO := Hid.mk' hown
    have HB := Hid.mk' hbl
    have hs := hbl.size
    have hpl := prL_len B k
    clear hown hbl
    obtain ⟨i, hik⟩ : ∃ i, Hid (2 * k + 1 = i) := ⟨_, Hid.mk' rfl⟩
    rw [hik.out]
    have hi1 : i ≤ B.length + 1 := by have := hik.out; omega
    by_cases hlt : i < B.length
    · obtain ⟨g, rfl, hg, hcell⟩ := HA.out (by omega)
      have h1 : 2 * k < B.length := by have := hik.out; omega
      have h2 : 2 * k + 1 < B.length := by have := hik.out; omega
      obtain ⟨j, hj⟩ : ∃ j, Hid (2 * k = j) := ⟨_, Hid.mk' rfl⟩
      have hji : i = j + 1 := by have := hik.out; have := hj.out; omega
      subst hji
      have hjz : ((j + 1 : Nat) : Int) - 1 = (j : Int) := by omega
      have x0 := (HB.out.cell (p := ⟨g, 2 * k * 2, none⟩) hg).trans (hcell (2 * k) h1).1
      have y0 := (HB.out.cell (p := ⟨g, (2 * k + 1) * 2, none⟩) hg).trans (hcell (2 * k + 1) h2).1
      have hst := Hid.mk' (prL_snoc B k h2)
      have xb := HC.out _ (List.getElem_mem h1)
      have yb := HC.out _ (List.getElem_mem h2)
      generalize B[2 * k].1 = x at x0 xb hst
      generalize B[2 * k + 1].1 = y at y0 yb hst
      rw [hj.out] at x0 y0
      obtain ⟨z, hz⟩ : ∃ z, Hid (x + y = z) := ⟨_, Hid.mk' rfl⟩
      have hxy : (x : Int) + (y : Int) = (z : Int) := by have := hz.out; omega
      have zb : z ≤ 2000000000000 := by have := hz.out; omega
      rw [hz.out] at hst
      clear hcell
      have wj : IntKind.i64.wrap (j : Int) = (j : Int) := by rw [IntKind.wrap_i64]; omega
      have wz : IntKind.i64.wrap (z : Int) = (z : Int) := by rw [IntKind.wrap_i64]; omega
      have j0 : (0 : Int) ≤ (j : Int) := by omega
      have j1 : (j : Int) < (B.length : Int) := by omega
      have j2 : (0 : Int) ≤ (j : Int) + 1 := by omega
      have j3 : (j : Int) + 1 < (B.length : Int) := by omega
      have j4 : ((j : Int) + 1).toNat = j + 1 := by omega
      go_wp2_with fail
      go_region_law (refine step_append_own rfl (.tmp 11) (.tmp 25) 42 rfl w.heap.size 44 i0 (.agg #[.int .i64 0, .bool false]) 2 16 Try.underlying42 KI.out KZ0.out KZ1.out KZ2.out rfl (by decide) u3 _ _ rfl (by exact HO.out.alloc _) ⟨wr.heap.size, 0, none⟩ 1 1 (co2 (z, true)) rfl rfl (cells_co2 _ (z, true) _) (co2_one _) (by unfold maxLen; omega) (by omega) (by simp; omega) ?_; intro v' w1 hown1 hgrow1)
      all_goals
        have HB5 : Hid (Below w.heap.size w w1) := ((HB.out.drew).alloc (by exact hs) _).grown hgrow1 (by simp; exact Nat.le_succ_of_le hs) fun i hi => (HO.out.lt i hi).1
        have HO5 : Hid (w1.ownsRow w.heap.size 44 2 v' (prL B (2 * (k + 1))).length (coC (prL B (2 * (k + 1))))) := by rw [hst.out, coC_snoc, List.length_append]; exact hown1
        clear hown1 hgrow1
        go_wp2_with fail
        go_roundw
        case rel => exact ⟨k + 1, by omega, by have := hj.out; exact int_eq (by omega), HO5.out, HB5.out⟩
        case measure => simp [intOf]; omega
    · have he : Hid (prL B (2 * k) = (prs (B.map Prod.fst)).map fun c => (c, true)) := by
        show _ = _
        unfold prL
        rw [prs_all k (B.map Prod.fst) (by rw [List.length_map]; have := hik.out; omega)]
      go_wp2_with fail
      go_ret
      refine ⟨⟨u3, rfl, ?_⟩, HB.out⟩
      rw [← he.out]
      exact HO.out
end Go.Proofs.Ythdgfanecfdlkaa
