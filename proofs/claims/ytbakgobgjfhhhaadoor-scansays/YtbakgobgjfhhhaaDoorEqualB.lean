import Derived.Test.YtbakgobgjfhhhaaDoorPsad
import Derived.Deep.QuietTactic
import Derived.BigQuiet

/- What slices.Equal answers of two slices of blobs. -/
namespace Go.Proofs.YtbakgobgjfhhhaaDoor
open Go.RowKit

theorem drewN_addB (w : World) (q r : Nat) : (w.drewN q).drewN r = w.drewN (q + r) := by simp [World.drewN, Nat.add_assoc]
theorem toList_injB {s t : ByteArray} (h : s.toList = t.toList) : s = t := by
  rw [ByteArray.toList_eq, ByteArray.toList_eq] at h
  exact bytes_ext h
theorem drop_atB {α : Type} (l : List α) (k : Nat) (d : α) (h : k < l.length) : l.drop k = l.getD k d :: l.drop (k + 1) := by
  rw [List.drop_eq_getElem_cons h, List.getD_eq_getElem?_getD, List.getElem?_eq_getElem h]; rfl
theorem drop_eqB {α : Type} (l m : List α) (k : Nat) (d : α) (h1 : k < l.length) (h2 : k < m.length) : l.drop k = m.drop k ↔ l.getD k d = m.getD k d ∧ l.drop (k + 1) = m.drop (k + 1) := by
  rw [drop_atB l k d h1, drop_atB m k d h2, List.cons.injEq]

set_option maxRecDepth 20000 in
set_option maxHeartbeats 800000 in
theorem equalB_any (a1 a2 : Option Addr) (n1 c1 n2 c2 : Nat) (C1 C2 : List Blb) (w : World) (h1 : Rd w a1 n1 4 (blC C1)) (h2 : Rd w a2 n2 4 (blC C2)) (l1 : C1.length = n1) (l2 : C2.length = n2) (b1 : n1 ≤ 8796093022208) (b2 : n2 ≤ 8796093022208) :
    Calls Tryd.prog 47 #[.slice a1 n1 c1, .slice a2 n2 c2] w fun e w' => (∃ b, e = .returned (.bool b) ∧ IffB b (C1 = C2)) ∧ ∃ q, w' = w.drewN q := by
  have K1 := Hid.mk' h1
  have K2 := Hid.mk' h2
  have L1 := Hid.mk' l1
  have L2 := Hid.mk' l2
  clear h1 h2 l1 l2
  by_cases hn : n1 = n2
  · subst hn
    have ht : ((n1 : Int) != (n1 : Int)) = false := by simp
    go_enter Tryd.func47, Tryd.ntmps47
    go_wp2_with fail
    go_loopw [13] (fun i wr => ∃ k q : Nat, k ≤ n1 ∧ i = .int .i64 k ∧ (C1.drop k = C2.drop k ↔ C1 = C2) ∧ wr = w.drewN q) (fun i _ => n1 - (intOf i).toNat)
    case atStart => exact ⟨0, 0, Nat.zero_le _, rfl, Iff.rfl, rfl⟩
    case round =>
      obtain ⟨k, q, hk, rfl, hs, rfl⟩ := hrel
      have HS := Hid.mk' hs
      clear hs
      by_cases hlt : k < n1
      · obtain ⟨g1, o1, rfl, _, d1⟩ := K1.out.at' (by omega)
        obtain ⟨g2, o2, rfl, _, d2⟩ := K2.out.at' (by omega)
        have HD := Hid.mk' (drop_eqB C1 C2 k noBl (by rw [L1.out]; exact hlt) (by rw [L2.out]; exact hlt))
        have E1 := blC_at C1 k (by rw [L1.out]; exact hlt)
        have E2 := blC_at C2 k (by rw [L2.out]; exact hlt)
        have e10 := d1 _ _ E1.1
        have e11 := d1 _ _ E1.2.1
        have e12 := d1 _ _ E1.2.2.1
        have e13 := d1 _ _ E1.2.2.2
        have e20 := d2 _ _ E2.1
        have e21 := d2 _ _ E2.2.1
        have e22 := d2 _ _ E2.2.2.1
        have e23 := d2 _ _ E2.2.2.2
        rw [← Nat.add_assoc] at e11
        rw [← Nat.add_assoc] at e12
        rw [← Nat.add_assoc] at e13
        rw [← Nat.add_assoc] at e21
        rw [← Nat.add_assoc] at e22
        rw [← Nat.add_assoc] at e23
        clear E1 E2
        generalize C1.getD k noBl = x at *
        generalize C2.getD k noBl = y at *
        clear d1 d2
        by_cases hfg : x = y
        · subst hfg
          obtain ⟨x0, x1, x2, x3⟩ := x
          simp only at e10 e11 e12 e13 e20 e21 e22 e23
          have t0 : (x0 == x0) = true := by simp
          have t1 : (x1 == x1) = true := by simp
          have t2 : (x2 == x2) = true := by simp
          have t3 : (x3.toList == x3.toList) = true := by simp
          have HS2 : Hid (C1.drop (k + 1) = C2.drop (k + 1) ↔ C1 = C2) := by
            show _ ↔ _
            rw [← HS.out, HD.out]
            exact ⟨fun h => ⟨rfl, h⟩, fun h => h.2⟩
          go_wp2_with fail
          go_quiet (fail)
          go_wp2_with fail
          go_roundw
          case rel => exact ⟨k + 1, _, by omega, by go_num, HS2.out, rfl⟩
          case measure => simp [intOf]; omega
        · have hno : Hid (¬ C1 = C2) := by
            show ¬ _
            rw [← HS.out, HD.out]
            exact fun h => hfg h.1
          obtain ⟨x0, x1, x2, x3⟩ := x
          obtain ⟨y0, y1, y2, y3⟩ := y
          simp only at e10 e11 e12 e13 e20 e21 e22 e23
          by_cases hq0 : x0 = y0
          rotate_left
          · have t0 : (x0 == y0) = false := by rw [beq_eq_false_iff_ne]; exact hq0
            clear hfg hq0
            go_wp2_with fail
            go_quiet (fail)
            go_wp2_with fail
            go_ret
            exact ⟨⟨false, rfl, IffB.f hno.out⟩, _, drewN_addB _ _ _⟩
          subst hq0
          have t0 : (x0 == x0) = true := by simp
          by_cases hq1 : x1 = y1
          rotate_left
          · have t1 : (x1 == y1) = false := by rw [beq_eq_false_iff_ne]; exact hq1
            clear hfg hq1
            go_wp2_with fail
            go_quiet (fail)
            go_wp2_with fail
            go_ret
            exact ⟨⟨false, rfl, IffB.f hno.out⟩, _, drewN_addB _ _ _⟩
          subst hq1
          have t1 : (x1 == x1) = true := by simp
          by_cases hq2 : x2 = y2
          rotate_left
          · have t2 : (x2 == y2) = false := by rw [beq_eq_false_iff_ne]; exact hq2
            clear hfg hq2
            go_wp2_with fail
            go_quiet (fail)
            go_wp2_with fail
            go_ret
            exact ⟨⟨false, rfl, IffB.f hno.out⟩, _, drewN_addB _ _ _⟩
          subst hq2
          have t2 : (x2 == x2) = true := by simp
          have hq3 : ¬ x3 = y3 := fun h => hfg (by rw [h])
          have t3 : (x3.toList == y3.toList) = false := by rw [beq_eq_false_iff_ne]; exact fun h => hq3 (toList_injB h)
          clear hfg hq3
          go_wp2_with fail
          go_quiet (fail)
          go_wp2_with fail
          go_ret
          exact ⟨⟨false, rfl, IffB.f hno.out⟩, _, drewN_addB _ _ _⟩
      · have hyes : Hid (C1 = C2) := HS.out.1 (by rw [List.drop_of_length_le (by rw [L1.out]; omega), List.drop_of_length_le (by rw [L2.out]; omega)])
        go_wp2_with fail
        go_ret
        exact ⟨⟨true, rfl, IffB.t hyes.out⟩, _, rfl⟩
  · have ht : ((n1 : Int) != (n2 : Int)) = true := by rw [bne_iff_ne]; omega
    have hno : Hid (¬ C1 = C2) := fun e => hn (by rw [← L1.out, ← L2.out, e])
    clear hn
    go_enter Tryd.func47, Tryd.ntmps47
    go_wp2_with fail
    go_ret
    exact ⟨⟨false, rfl, IffB.f hno.out⟩, 0, rfl⟩
end Go.Proofs.YtbakgobgjfhhhaaDoor
