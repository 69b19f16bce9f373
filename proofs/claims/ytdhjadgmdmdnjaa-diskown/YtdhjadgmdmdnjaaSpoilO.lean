/- What linenkeep.spoil does to a list of ops: its whole block is written, and no other. -/
import Derived.Test.YtdhjadgmdmdnjaaRoomKit
import Derived.Test.YtdhjadgmdmdnjaaOps
import Derived.Deep.QuietTactic
namespace Go.Proofs.Ytdhjadgmdmdnjaa
open Go.RowKit

set_option maxRecDepth 20000 in
set_option maxHeartbeats 1600000 in
theorem spoilO_any (g n cap : Nat) (vs : List Value) (o : Opp) (w : World) (h : BoxV w g vs) (hl : vs.length = cap * 3) (hc : cap ≤ 9223372036854775807) :
    Calls Try.prog 33 #[.slice (some ⟨g, 0, none⟩) n cap, .agg #[.int .i64 o.kd, .int .i64 o.pl, .string o.tx]] w fun e w' => e = .returned (.tuple #[]) ∧ w.grownBy w' (some g) := by
  have hx := boxV_new w [.int .i64 o.kd, .int .i64 o.pl, .string o.tx] 29
  have hb := h.alloc (.cells [.int .i64 o.kd, .int .i64 o.pl, .string o.tx].toArray 29)
  have hg := but_alloc (World.grownBy.refl w (some g)) (.cells [.int .i64 o.kd, .int .i64 o.pl, .string o.tx].toArray 29)
  have hne : g ≠ w.heap.size := by have := h.lt; omega
  obtain ⟨s, hs⟩ : ∃ s, Hid (w.heap.size = s) := ⟨_, Hid.mk' rfl⟩
  rw [hs.out] at hne hx
  obtain ⟨W0, hW0⟩ : ∃ W, Hid (w.alloc (.cells #[.int .i64 o.kd, .int .i64 o.pl, .string o.tx] 29) = W) := ⟨_, Hid.mk' rfl⟩
  have e0 : w.alloc (.cells [.int .i64 o.kd, .int .i64 o.pl, .string o.tx].toArray 29) = W0 := hW0.out
  rw [e0] at hx hb hg
  have HX := Hid.mk' hx
  have HV := Hid.mk' hb
  have HG := Hid.mk' hg
  have HL := Hid.mk' hl
  clear h hx hb hg hl e0
  go_enter Try.func33, Try.ntmps33
  go_wp2_with fail
  rw [hW0.out, hs.out]
  go_loopw [11] (fun i wr => ∃ k : Nat, k ≤ cap ∧ i = .int .i64 k ∧ BoxV wr s [.int .i64 o.kd, .int .i64 o.pl, .string o.tx] ∧ (∃ vs' : List Value, vs'.length = cap * 3 ∧ BoxV wr g vs') ∧ w.grownBy wr (some g)) (fun i _ => cap - (intOf i).toNat)
  case atStart => exact ⟨0, Nat.zero_le _, rfl, HX.out, ⟨vs, HL.out, HV.out⟩, HG.out⟩
  case round =>
    obtain ⟨k, hk, rfl, hx, ⟨us, hul, hu⟩, hg⟩ := hrel
    have HX1 := Hid.mk' hx
    have HV1 := Hid.mk' hu
    have HG1 := Hid.mk' hg
    have HL1 := Hid.mk' hul
    have c0 := hx.c 0 _ rfl
    have c1 := hx.c 1 _ rfl
    have c2 := hx.c 2 _ rfl
    clear hx hu hg hul
    by_cases hlt : k < cap
    · have b0 : k * 3 < us.length := by rw [HL1.out]; omega
      have b1 : k * 3 + 1 < us.length := by rw [HL1.out]; omega
      have b2 : k * 3 + 2 < us.length := by rw [HL1.out]; omega
      have d0 := HV1.out.c (k * 3) _ (List.getElem?_eq_getElem b0)
      have d1 := HV1.out.c (k * 3 + 1) _ (List.getElem?_eq_getElem b1)
      have d2 := HV1.out.c (k * 3 + 2) _ (List.getElem?_eq_getElem b2)
      have f0 := HV1.out.f (k * 3) b0
      have f1 := HV1.out.f (k * 3 + 1) b1
      have f2 := HV1.out.f (k * 3 + 2) b2
      generalize us[k * 3] = u0 at d0
      generalize us[k * 3 + 1] = u1 at d1
      generalize us[k * 3 + 2] = u2 at d2
      have HVn := Hid.mk' (((HV1.out.set (k * 3) (.int .i64 o.kd) b0).set (k * 3 + 1) (.int .i64 o.pl) (by rw [List.length_set]; exact b1)).set (k * 3 + 2) (.string o.tx) (by rw [List.length_set, List.length_set]; exact b2))
      have HXn := Hid.mk' (((HX1.out.other ⟨g, k * 3, none⟩ (.int .i64 o.kd) hne).other ⟨g, k * 3 + 1, none⟩ (.int .i64 o.pl) hne).other ⟨g, k * 3 + 2, none⟩ (.string o.tx) hne)
      have HGn := Hid.mk' (but_set (but_set (but_set HG1.out (k * 3) (.int .i64 o.kd)) (k * 3 + 1) (.int .i64 o.pl)) (k * 3 + 2) (.string o.tx))
      clear b0 b1 b2
      go_wp2_with fail
      go_roundw
      case rel => exact ⟨k + 1, by omega, by go_num, HXn.out, ⟨_, by rw [List.length_set, List.length_set, List.length_set]; exact HL1.out, HVn.out⟩, HGn.out⟩
      case measure => simp [intOf]; omega
    · go_wp2_with fail
      go_end0
      exact ⟨rfl, HG1.out⟩
end Go.Proofs.Ytdhjadgmdmdnjaa
