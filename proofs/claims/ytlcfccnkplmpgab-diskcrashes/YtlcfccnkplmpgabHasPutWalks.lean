/- slices.Index and slices.Contains of writes that wait. -/
import Derived.Test.YtlcfccnkplmpgabSameDkWalks
import Derived.Test.YtlcfccnkplmpgabBox2
namespace Go.Proofs.Ytlcfccnkplmpgab
open Go.RowKit

def IdxOk (z : Int) (p : Prop) : Prop := (0 ≤ z ∧ p) ∨ (z = -1 ∧ ¬ p)

set_option maxRecDepth 20000 in
set_option maxHeartbeats 800000 in
theorem indexP_any (a0 : Option Addr) (m d : Nat) (P : List Pt) (x : Int) (s : ByteArray) (w : World) (h : Rd w a0 m 2 (ptC P)) (hl : P.length = m) (hb : m ≤ 8796093022208) :
    Calls Try.prog 43 #[.slice a0 m d, .agg #[.int .i64 x, .string s]] w fun e w' => (∃ z, e = .returned (.int .i64 z) ∧ IdxOk z ((⟨x, s⟩ : Pt) ∈ P)) ∧ Below w.heap.size w w' := by
  obtain ⟨W0, hW0⟩ : ∃ W, Hid (w.alloc (.cells #[.int .i64 x, .string s] 31) = W) := ⟨_, Hid.mk' rfl⟩
  have HB0 : Hid (Below w.heap.size w W0) := by rw [← hW0.out]; exact (Below.refl _ w).alloc (Nat.le_refl _) _
  have HX0 : Hid (Box2 W0 w.heap.size (.int .i64 x) (.string s)) := by rw [← hW0.out]; exact box2_new w _ _ _
  have K1 := Hid.mk' (h.below HB0.out)
  have L1 := Hid.mk' hl
  clear h hl
  go_enter Try.func43, Try.ntmps43
  go_wp2_with fail
  rw [hW0.out]
  go_loopw [8] (fun i wr => ∃ k q : Nat, k ≤ m ∧ i = .int .i64 k ∧ (∀ j, j < k → P.getD j noPt ≠ ⟨x, s⟩) ∧ wr = W0.drewN q) (fun i _ => m - (intOf i).toNat)
  case atStart => exact ⟨0, 0, Nat.zero_le _, rfl, fun j hj => by omega, rfl⟩
  case round =>
    obtain ⟨k, q, hk, rfl, hs, rfl⟩ := hrel
    have HS := Hid.mk' hs
    have HBq : Hid (Below w.heap.size w (W0.drewN q)) := below_dS HB0.out q
    have d0 := HX0.out.c0
    have d1 := HX0.out.c1
    clear hs
    by_cases hlt : k < m
    · obtain ⟨g1, o1, rfl, _, dd⟩ := K1.out.at' (by omega)
      have E1 := ptC_at P k (by rw [L1.out]; exact hlt)
      have HM := Hid.mk' (getD_mem P k noPt (by rw [L1.out]; exact hlt))
      have e10 := dd _ _ E1.1
      have e11 := dd _ _ E1.2
      rw [← Nat.add_assoc] at e11
      have HG : Hid (P.getD k noPt = P.getD k noPt) := Hid.mk' rfl
      obtain ⟨y, hy⟩ : ∃ y, Hid (P.getD k noPt = y) := ⟨_, Hid.mk' rfl⟩
      rw [hy.out] at e10 e11 HM
      clear E1 dd HG
      by_cases hfg : y = ⟨x, s⟩
      · subst hfg
        simp only at e10 e11
        have t0 : (x == x) = true := by simp
        have t1 : (s.toList == s.toList) = true := by simp
        go_wp2_with fail
        go_quiet (fail)
        go_wp2_with fail
        go_ret
        exact ⟨⟨k, rfl, .inl ⟨by omega, HM.out⟩⟩, below_dS (below_dS HB0.out _) _⟩
      · have HS2 : Hid (∀ j, j < k + 1 → P.getD j noPt ≠ ⟨x, s⟩) := fun j hj => by
          by_cases hjk : j = k
          · rw [hjk, hy.out]; exact hfg
          · exact HS.out j (by omega)
        obtain ⟨y0, y1⟩ := y
        simp only at e10 e11
        by_cases hq0 : x = y0
        rotate_left
        · have t0 : (x == y0) = false := by rw [beq_eq_false_iff_ne]; exact hq0
          clear hfg hq0
          go_wp2_with fail
          go_quiet (fail)
          go_wp2_with fail
          go_roundw
          case rel => exact ⟨k + 1, _, by omega, by go_num, HS2.out, rfl⟩
          case measure => simp [intOf]; omega
        subst hq0
        have t0 : (x == x) = true := by simp
        have hq1 : ¬ s = y1 := fun h => hfg (by rw [h])
        have t1 : (s.toList == y1.toList) = false := by rw [beq_eq_false_iff_ne]; exact fun h => hq1 (toList_injP h)
        clear hfg hq1
        go_wp2_with fail
        go_quiet (fail)
        go_wp2_with fail
        go_roundw
        case rel => exact ⟨k + 1, _, by omega, by go_num, HS2.out, rfl⟩
        case measure => simp [intOf]; omega
    · have hno : Hid (¬ (⟨x, s⟩ : Pt) ∈ P) := fun hm => by
        obtain ⟨j, hj, he⟩ := List.getElem_of_mem hm
        refine HS.out j (by rw [L1.out] at hj; omega) ?_
        rw [List.getD_eq_getElem?_getD, List.getElem?_eq_getElem hj]; exact he
      go_wp2_with fail
      go_ret
      exact ⟨⟨-1, rfl, .inr ⟨rfl, hno.out⟩⟩, HBq.out⟩

set_option maxRecDepth 20000 in
set_option maxHeartbeats 800000 in
theorem hasP_any (a0 : Option Addr) (m d : Nat) (P : List Pt) (x : Int) (s : ByteArray) (w : World) (h : Rd w a0 m 2 (ptC P)) (hl : P.length = m) (hb : m ≤ 8796093022208) :
    Calls Try.prog 15 #[.slice a0 m d, .agg #[.int .i64 x, .string s]] w fun e w' => (∃ b, e = .returned (.bool b) ∧ IffB b ((⟨x, s⟩ : Pt) ∈ P)) ∧ Below w.heap.size w w' := by
  obtain ⟨W0, hW0⟩ : ∃ W, Hid (w.alloc (.cells #[.int .i64 x, .string s] 31) = W) := ⟨_, Hid.mk' rfl⟩
  have HB0 : Hid (Below w.heap.size w W0) := by rw [← hW0.out]; exact (Below.refl _ w).alloc (Nat.le_refl _) _
  have HX0 : Hid (Box2 W0 w.heap.size (.int .i64 x) (.string s)) := by rw [← hW0.out]; exact box2_new w _ _ _
  have K1 := Hid.mk' (h.below HB0.out)
  have d0 := HX0.out.c0
  have d1 := HX0.out.c1
  clear h
  go_enter Try.func15, Try.ntmps15
  go_wp2_with fail
  rw [hW0.out]
  go_wp2_with fail
  refine (indexP_any a0 m d P x s W0 K1.out hl hb).mono ?_
  rintro e w1 ⟨⟨z, rfl, hz⟩, hb1⟩
  have HB1 := Hid.mk' (HB0.out.trans (hb1.mono HB0.out.size))
  clear hb1
  rcases hz with ⟨hz, hp⟩ | ⟨rfl, hp⟩
  · have t0 : (decide (z ≥ 0)) = true := by simpa using hz
    have hp' := Hid.mk' hp
    clear hp
    go_wp2_with fail
    go_ret
    exact ⟨⟨_, rfl, by first | exact IffB.t hp'.out | (rw [show (decide (0 ≤ z)) = true by simpa using hz]; exact IffB.t hp'.out)⟩, HB1.out⟩
  · have hp' := Hid.mk' hp
    clear hp
    go_wp2_with fail
    go_ret
    exact ⟨⟨false, rfl, IffB.f hp'.out⟩, HB1.out⟩
end Go.Proofs.Ytlcfccnkplmpgab
