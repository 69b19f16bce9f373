/- What linenkeep.filled answers (string) of a list with three marks behind it. -/
import Derived.Test.YtdhjadgmdmdnjaaRoomyS
namespace Go.Proofs.Ytdhjadgmdmdnjaa
open Go.RowKit

theorem mk3S_at (o : ByteArray) (k : Nat) (hk : k < 3) : (mk3S o 3)[k]? = some (.string o) := by
  rcases (by omega : k = 0 ∨ k = 1 ∨ k = 2) with rfl | rfl | rfl <;> exact rfl
set_option maxRecDepth 20000 in
set_option maxHeartbeats 3200000 in
theorem filledS_any (g n : Nat) (l : List ByteArray) (o : ByteArray) (w : World) (h : BoxV w g (stC l ++ mk3S o 3)) (hl : l.length = n) (hnM : n ≤ 8796093022208) :
    Calls Try.prog 21 #[.slice (some ⟨g, 0, none⟩) n (n + 3), .string o] w fun e w' => e = .returned (.bool true) ∧ Below w.heap.size w w' := by
  have HV := Hid.mk' h
  have HB := Hid.mk' (Below.refl w.heap.size w)
  have HL : Hid ((stC l).length = n) := by show _ = _; rw [stC_length, hl]
  clear h hl
  go_enter Try.func21, Try.ntmps21
  go_wp2_with fail
  rw [show n + 3 - n = 3 by omega]
  go_loopw [14] (fun i wr => ∃ k : Nat, k ≤ 3 ∧ i = .int .i64 k ∧ BoxV wr g (stC l ++ mk3S o 3) ∧ Below w.heap.size w wr) (fun i _ => 3 - (intOf i).toNat)
  case atStart => exact ⟨0, by omega, rfl, HV.out, HB.out⟩
  case round =>
    obtain ⟨k, hk, rfl, hu, hb⟩ := hrel
    have HV1 := Hid.mk' hu
    have HB1 := Hid.mk' hb
    clear hu hb
    by_cases hlt : k < 3
    · have hA : ∀ j u, (mk3S o 3)[j]? = some u → wr.cell? ⟨g, n + j, none⟩ = some u := fun j u hj => HV1.out.c (n + j) u (by rw [List.getElem?_append_right (by rw [HL.out]; omega), HL.out, Nat.add_sub_cancel_left]; exact hj)
      have d0 := hA _ _ (mk3S_at o k hlt)
      clear hA
      have t0 : (o.toList == o.toList) = true := by simp
      have t1 : (o.toList != o.toList) = false := by simp
      go_wp2_with fail
      go_roundw
      case rel => exact ⟨k + 1, by omega, by go_num, HV1.out, HB1.out⟩
      case measure => simp [intOf]; omega
    · go_wp2_with fail
      go_ret
      exact ⟨rfl, HB1.out⟩
end Go.Proofs.Ytdhjadgmdmdnjaa
