/- What the function that bits.reader makes answers. -/
import Derived.Test.YtganplceeapjcaaBase
import Derived.Test.YtganplceeapjcaaReadMath
namespace Go.Proofs.Ytganplceeapjcaa
open Go.RowKit

set_option maxHeartbeats 400000 in
theorem next_any (s : ByteArray) (ga gs at' wd : Nat) (w : World) (hwd : wd ≤ 64) (hat : at' + wd ≤ 8 * s.size) (hs : s.size ≤ 140737488363520)
    (ca : w.cell? ⟨ga, 0, none⟩ = some (.int .i64 (at' : Int))) (cs : w.cell? ⟨gs, 0, none⟩ = some (.string s)) (fa : w.frozen? ⟨ga, 0, none⟩ = false) :
    Calls Try.prog 48 #[.int .i64 wd, .pointer (some ⟨ga, 0, none⟩), .pointer (some ⟨gs, 0, none⟩)] w fun e w' => e = .returned (.int .u64 (getN (txtN s.data.toList) at' wd : Nat)) ∧ w' = w.setCell ⟨ga, 0, none⟩ (.int .i64 (at' + wd : Nat)) := by
  go_enter Try.func48, Try.ntmps48
  go_wp2_with fail
  go_loop [5, 6] (fun x i => ∃ d : Nat, d ≤ wd + 7 ∧ i = .int .i64 d ∧ x = .int .u64 (rdN (txtN s.data.toList) at' d : Nat)) (fun _ i => wd + 8 - (intOf i).toNat)
  case atStart => exact ⟨0, by omega, rfl, by rw [rdN_zero]; rfl⟩
  case round =>
    obtain ⟨d, hd, rfl, rfl⟩ := hrel
    by_cases hlt : d < wd
    · have hx : (at' : Int) + d = ((at' + d : Nat) : Int) := by omega
      have hq : ((at' + d : Nat) : Int) / 8 = (((at' + d) / 8 : Nat) : Int) := by omega
      have hr : ((at' + d : Nat) : Int) % 8 = (((at' + d) % 8 : Nat) : Int) := by omega
      have hst := Hid.mk' (rd_step s.data.toList at' d)
      obtain ⟨x, ex⟩ : ∃ x, Hid (at' + d = x) := ⟨_, Hid.mk' rfl⟩
      rw [ex.out] at hx hq hr hst
      have hxl : x / 8 < s.size := by rw [← ex.out]; omega
      have hol : x % 8 < 8 := by omega
      obtain ⟨q, eq⟩ : ∃ q, Hid (x / 8 = q) := ⟨_, Hid.mk' rfl⟩
      obtain ⟨o, eo⟩ : ∃ o, Hid (x % 8 = o) := ⟨_, Hid.mk' rfl⟩
      rw [eq.out] at hq hxl hst
      rw [eo.out] at hr hol hst
      have hor := Hid.mk' (rd_or (rdN (txtN s.data.toList) at' d) s[q] o d (rdN_lt _ _ _))
      have hby := Hid.mk' (byte_at s q hxl)
      go_wp2_with fail
      go_round
      case rel => exact ⟨d + (8 - o), by omega, int_eq (by omega), int_eq (by rw [hor.out, ← hst.out, hby.out])⟩
      case measure => simp [intOf]; omega
    · have hla := Hid.mk' (low_and64 (rdN (txtN s.data.toList) at' d) wd (rdN_lt _ _ _) hwd)
      have hre := Hid.mk' (rd_end (txtN s.data.toList) at' d wd (by omega) hwd)
      go_wp2_with fail
      go_ret
      exact ⟨ret_int (by rw [hla.out, hre.out]), rfl⟩
end Go.Proofs.Ytganplceeapjcaa
