/- What linenkeep.filled answers (api.Put) of a list with three marks behind it. -/
import Derived.Test.YtdhjadgmdmdnjaaRoomyP
namespace Go.Proofs.Ytdhjadgmdmdnjaa
open Go.RowKit

theorem mk3P_at (o : Pt) (k : Nat) (hk : k < 3) : (mk3P o 3)[(k) * 2]? = some (.int .i64 o.pl) ∧ (mk3P o 3)[(k) * 2 + 1]? = some (.string o.tx) := by
  rcases (by omega : k = 0 ∨ k = 1 ∨ k = 2) with rfl | rfl | rfl <;> exact ⟨rfl, rfl⟩
set_option maxRecDepth 20000 in
set_option maxHeartbeats 3200000 in
theorem filledP_any (g n : Nat) (l : List Pt) (o : Pt) (w : World) (h : BoxV w g (ptC l ++ mk3P o 3)) (hl : l.length = n) (hnM : n ≤ 5864062014805) :
    Calls Try.prog 22 #[.slice (some ⟨g, 0, none⟩) n (n + 3), .agg #[.int .i64 o.pl, .string o.tx]] w fun e w' => e = .returned (.bool true) ∧ Below w.heap.size w w' := by
  have hx := boxV_new w [.int .i64 o.pl, .string o.tx] 46
  have hb := (Below.refl _ w).alloc (Nat.le_refl _) (.cells [.int .i64 o.pl, .string o.tx].toArray 46)
  obtain ⟨W0, hW0⟩ : ∃ W, Hid (w.alloc (.cells #[.int .i64 o.pl, .string o.tx] 46) = W) := ⟨_, Hid.mk' rfl⟩
  have e0 : w.alloc (.cells [.int .i64 o.pl, .string o.tx].toArray 46) = W0 := hW0.out
  rw [e0] at hx hb
  have HV := Hid.mk' (h.below hb)
  have HX := Hid.mk' hx
  have HB := Hid.mk' hb
  clear hx hb e0
  have HL : Hid ((ptC l).length = (n) * 2) := by show _ = _; rw [ptC_length, hl]
  clear h hl
  go_enter Try.func22, Try.ntmps22
  go_wp2_with fail
  rw [hW0.out]
  rw [show n + 3 - n = 3 by omega]
  go_loopw [14] (fun i wr => ∃ k : Nat, k ≤ 3 ∧ i = .int .i64 k ∧ BoxV wr w.heap.size [.int .i64 o.pl, .string o.tx] ∧ BoxV wr g (ptC l ++ mk3P o 3) ∧ Below w.heap.size w wr) (fun i _ => 3 - (intOf i).toNat)
  case atStart => exact ⟨0, by omega, rfl, HX.out, HV.out, HB.out⟩
  case round =>
    obtain ⟨k, hk, rfl, hx, hu, hb⟩ := hrel
    have HX1 := Hid.mk' hx
    have HV1 := Hid.mk' hu
    have HB1 := Hid.mk' hb
    have c0 := hx.c 0 _ rfl
    have c1 := hx.c 1 _ rfl
    clear hx hu hb
    by_cases hlt : k < 3
    · have hA : ∀ j u, (mk3P o 3)[j]? = some u → wr.cell? ⟨g, (n) * 2 + j, none⟩ = some u := fun j u hj => HV1.out.c ((n) * 2 + j) u (by rw [List.getElem?_append_right (by rw [HL.out]; omega), HL.out, Nat.add_sub_cancel_left]; exact hj)
      obtain ⟨a0, a1⟩ := mk3P_at o k hlt
      have d0 := hA _ _ a0
      have d1 := hA _ _ a1
      rw [← Nat.add_assoc] at d1
      clear a0 a1 hA
      have x0 := (HX1.out.alloc (.cells #[.int .i64 o.pl, .string o.tx] 46)).c 0 _ rfl
      have x1 := (HX1.out.alloc (.cells #[.int .i64 o.pl, .string o.tx] 46)).c 1 _ rfl
      have HXn := Hid.mk' (HX1.out.alloc (.cells #[.int .i64 o.pl, .string o.tx] 46))
      have HVn := Hid.mk' (HV1.out.alloc (.cells #[.int .i64 o.pl, .string o.tx] 46))
      have HBn := Hid.mk' (HB1.out.alloc HB1.out.size (.cells #[.int .i64 o.pl, .string o.tx] 46))
      have t0 : (o.pl == o.pl) = true := by simp
      have t1 : (o.tx.toList == o.tx.toList) = true := by simp
      go_wp2_with fail
      go_roundw
      case rel => exact ⟨k + 1, by omega, by go_num, HXn.out, HVn.out, HBn.out⟩
      case measure => simp [intOf]; omega
    · go_wp2_with fail
      go_ret
      exact ⟨rfl, HB1.out⟩
end Go.Proofs.Ytdhjadgmdmdnjaa
