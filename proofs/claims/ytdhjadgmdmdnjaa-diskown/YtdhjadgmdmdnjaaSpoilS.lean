/- What linenkeep.spoil does to a row (string): its whole block is written, and no other. -/
import Derived.Test.YtdhjadgmdmdnjaaRoomKit
import Derived.Test.YtdhjadgmdmdnjaaDk
import Derived.Deep.QuietTactic
namespace Go.Proofs.Ytdhjadgmdmdnjaa
open Go.RowKit

set_option maxRecDepth 20000 in
set_option maxHeartbeats 1600000 in
theorem spoilS_any (g n cap : Nat) (vs : List Value) (o : ByteArray) (w : World) (h : BoxV w g vs) (hl : vs.length = cap) (hc : cap ≤ 9223372036854775807) :
    Calls Try.prog 26 #[.slice (some ⟨g, 0, none⟩) n cap, .string o] w fun e w' => e = .returned (.tuple #[]) ∧ w.grownBy w' (some g) := by
  have HV := Hid.mk' h
  have HG := Hid.mk' (World.grownBy.refl w (some g))
  have HL := Hid.mk' hl
  clear h hl
  go_enter Try.func26, Try.ntmps26
  go_wp2_with fail
  go_loopw [11] (fun i wr => ∃ k : Nat, k ≤ cap ∧ i = .int .i64 k ∧ (∃ vs' : List Value, vs'.length = cap ∧ BoxV wr g vs') ∧ w.grownBy wr (some g)) (fun i _ => cap - (intOf i).toNat)
  case atStart => exact ⟨0, Nat.zero_le _, rfl, ⟨vs, HL.out, HV.out⟩, HG.out⟩
  case round =>
    obtain ⟨k, hk, rfl, ⟨us, hul, hu⟩, hg⟩ := hrel
    have HV1 := Hid.mk' hu
    have HG1 := Hid.mk' hg
    have HL1 := Hid.mk' hul
    clear hu hg hul
    by_cases hlt : k < cap
    · have b0 : k < us.length := by rw [HL1.out]; omega
      have d0 := HV1.out.c (k) _ (List.getElem?_eq_getElem b0)
      have f0 := HV1.out.f (k) b0
      generalize us[k] = u0 at d0
      have HVn := Hid.mk' (HV1.out.set (k) (.string o) (b0))
      have HGn := Hid.mk' (but_set HG1.out (k) (.string o))
      clear b0
      go_wp2_with fail
      go_roundw
      case rel => exact ⟨k + 1, by omega, by go_num, ⟨_, by rw [List.length_set]; exact HL1.out, HVn.out⟩, HGn.out⟩
      case measure => simp [intOf]; omega
    · go_wp2_with fail
      go_end0
      exact ⟨rfl, HG1.out⟩
set_option maxRecDepth 20000 in
set_option maxHeartbeats 1600000 in
theorem spoilS_nil (o : ByteArray) (w : World) :
    Calls Try.prog 26 #[.slice none 0 0, .string o] w fun e w' => e = .returned (.tuple #[]) ∧ w.grownBy w' none := by
  have HG := Hid.mk' (World.grownBy.refl w none)
  go_enter Try.func26, Try.ntmps26
  go_wp2_with fail
  go_loopw [11] (fun i wr => i = .int .i64 0 ∧ w.grownBy wr none) (fun _ _ => 0)
  case atStart => exact ⟨rfl, HG.out⟩
  case round =>
    obtain ⟨rfl, hg⟩ := hrel
    have HG1 := Hid.mk' hg
    clear hg
    go_wp2_with fail
    go_end0
    exact ⟨rfl, HG1.out⟩
theorem spoilS_own (N n : Nat) (v : Value) (xs : List Value) (o : ByteArray) (w : World) (h : w.ownsRow N 9 1 v n xs) (hc : ∀ a c, v = .slice a n c → c ≤ 9223372036854775807) :
    Calls Try.prog 26 #[v, .string o] w fun e w' => e = .returned (.tuple #[]) ∧ w.grownBy w' v.ownBlock := by
  rcases h.2 with ⟨rfl, rfl⟩ | ⟨g, cap, cur, rfl, _⟩
  · exact spoilS_nil o w
  · obtain ⟨rest, h1, h2, _, _⟩ := box_of_own h
    exact spoilS_any g n cap _ o w h2 (by omega) (hc _ _ rfl)
end Go.Proofs.Ytdhjadgmdmdnjaa
