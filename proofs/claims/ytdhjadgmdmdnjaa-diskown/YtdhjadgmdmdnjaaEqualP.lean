/- What slices.Equal answers of two slices of writes that wait. -/
import Derived.Test.YtdhjadgmdmdnjaaDk
import Derived.Deep.QuietTactic
import Derived.BigQuiet
namespace Go.Proofs.Ytdhjadgmdmdnjaa
open Go.RowKit

theorem drewN_addP (w : World) (q r : Nat) : (w.drewN q).drewN r = w.drewN (q + r) := by simp [World.drewN, Nat.add_assoc]
theorem toList_injP {s t : ByteArray} (h : s.toList = t.toList) : s = t := by
  rw [ByteArray.toList_eq, ByteArray.toList_eq] at h
  exact bytes_ext h
theorem drop_eqP {α : Type} (l m : List α) (k : Nat) (d : α) (h1 : k < l.length) (h2 : k < m.length) : l.drop k = m.drop k ↔ l.getD k d = m.getD k d ∧ l.drop (k + 1) = m.drop (k + 1) := by
  rw [drop_at l k d h1, drop_at m k d h2, List.cons.injEq]

set_option maxRecDepth 20000 in
set_option maxHeartbeats 800000 in
theorem equalP_any (a1 a2 : Option Addr) (n1 c1 n2 c2 : Nat) (C1 C2 : List Pt) (w : World) (h1 : Rd w a1 n1 2 (ptC C1)) (h2 : Rd w a2 n2 2 (ptC C2)) (l1 : C1.length = n1) (l2 : C2.length = n2) (b1 : n1 ≤ 8796093022208) (b2 : n2 ≤ 8796093022208) :
    Calls Try.prog 34 #[.slice a1 n1 c1, .slice a2 n2 c2] w fun e w' => (∃ b, e = .returned (.bool b) ∧ IffB b (C1 = C2)) ∧ ∃ q, w' = w.drewN q := by
  have K1 := Hid.mk' h1
  have K2 := Hid.mk' h2
  have L1 := Hid.mk' l1
  have L2 := Hid.mk' l2
  clear h1 h2 l1 l2
  by_cases hn : n1 = n2
  · subst hn
    have ht : ((n1 : Int) != (n1 : Int)) = false := by simp
    go_enter Try.func34, Try.ntmps34
    go_wp2_with fail
    go_loopw [13] (fun i wr => ∃ k q : Nat, k ≤ n1 ∧ i = .int .i64 k ∧ (C1.drop k = C2.drop k ↔ C1 = C2) ∧ wr = w.drewN q) (fun i _ => n1 - (intOf i).toNat)
    case atStart => exact ⟨0, 0, Nat.zero_le _, rfl, Iff.rfl, rfl⟩
    case round =>
      obtain ⟨k, q, hk, rfl, hs, rfl⟩ := hrel
      have HS := Hid.mk' hs
      clear hs
      by_cases hlt : k < n1
      · obtain ⟨g1, o1, rfl, _, d1⟩ := K1.out.at' (by omega)
        obtain ⟨g2, o2, rfl, _, d2⟩ := K2.out.at' (by omega)
        have HD := Hid.mk' (drop_eqP C1 C2 k noPt (by rw [L1.out]; exact hlt) (by rw [L2.out]; exact hlt))
        have E1 := ptC_at C1 k (by rw [L1.out]; exact hlt)
        have E2 := ptC_at C2 k (by rw [L2.out]; exact hlt)
        have e10 := d1 _ _ E1.1
        have e11 := d1 _ _ E1.2
        have e20 := d2 _ _ E2.1
        have e21 := d2 _ _ E2.2
        rw [← Nat.add_assoc] at e11
        rw [← Nat.add_assoc] at e21
        clear E1 E2
        generalize C1.getD k noPt = x at *
        generalize C2.getD k noPt = y at *
        clear d1 d2
        by_cases hfg : x = y
        · subst hfg
          obtain ⟨x0, x1⟩ := x
          simp only at e10 e11 e20 e21
          have t0 : (x0 == x0) = true := by simp
          have t1 : (x1.toList == x1.toList) = true := by simp
          have HS2 : Hid (C1.drop (k + 1) = C2.drop (k + 1) ↔ C1 = C2) := by
            show _ ↔ _
            rw [← HS.out, HD.out]
            exact ⟨fun h => ⟨rfl, h⟩, fun h => h.2⟩
          go_wp2_with fail
          go_quiet (fail)
          go_wp2_with fail
          go_roundw
          case rel => exact ⟨k + 1, _, by omega, by go_num, HS2.out, rfl⟩
          case measure => simp [intOf]; omega
        · have hno : Hid (¬ C1 = C2) := by
            show ¬ _
            rw [← HS.out, HD.out]
            exact fun h => hfg h.1
          obtain ⟨x0, x1⟩ := x
          obtain ⟨y0, y1⟩ := y
          simp only at e10 e11 e20 e21
          by_cases hq0 : x0 = y0
          rotate_left
          · have t0 : (x0 == y0) = false := by rw [beq_eq_false_iff_ne]; exact hq0
            clear hfg hq0
            go_wp2_with fail
            go_quiet (fail)
            go_wp2_with fail
            go_ret
            exact ⟨⟨false, rfl, IffB.f hno.out⟩, _, drewN_addP _ _ _⟩
          subst hq0
          have t0 : (x0 == x0) = true := by simp
          have hq1 : ¬ x1 = y1 := fun h => hfg (by rw [h])
          have t1 : (x1.toList == y1.toList) = false := by rw [beq_eq_false_iff_ne]; exact fun h => hq1 (toList_injP h)
          clear hfg hq1
          go_wp2_with fail
          go_quiet (fail)
          go_wp2_with fail
          go_ret
          exact ⟨⟨false, rfl, IffB.f hno.out⟩, _, drewN_addP _ _ _⟩
      · have hyes : Hid (C1 = C2) := HS.out.1 (by rw [List.drop_of_length_le (by rw [L1.out]; omega), List.drop_of_length_le (by rw [L2.out]; omega)])
        go_wp2_with fail
        go_ret
        exact ⟨⟨true, rfl, IffB.t hyes.out⟩, _, rfl⟩
  · have ht : ((n1 : Int) != (n2 : Int)) = true := by rw [bne_iff_ne]; omega
    have hno : Hid (¬ C1 = C2) := fun e => hn (by rw [← L1.out, ← L2.out, e])
    clear hn
    go_enter Try.func34, Try.ntmps34
    go_wp2_with fail
    go_ret
    exact ⟨⟨false, rfl, IffB.f hno.out⟩, 0, rfl⟩
end Go.Proofs.Ytdhjadgmdmdnjaa
