/- What linenkeep.Within and linenkeep.Burst answer. -/
import Derived.Test.YtbhobflnaogomaaDoorBase
import Derived.Test.YtbhobflnaogomaaDoorBurstMath
import Derived.Test.YtbhobflnaogomaaDoorByts
import Derived.RegionTactic
import Derived.Laws.IdiomStrings
import Derived.Laws.Rows
namespace Go.Proofs.YtbhobflnaogomaaDoor
open Go.RowKit

set_option maxHeartbeats 400000 in
theorem within_any (k n : Int) (w : World) (_h1 : -9223372036854775808 ≤ k) (_h2 : k ≤ 9223372036854775807) (h3 : 0 < n) (h4 : n ≤ 9223372036854775807) :
    Calls Tryd.prog 13 #[.int .i64 k, .int .i64 n] w fun e w' => (∃ m : Nat, e = .returned (.int .i64 m) ∧ (m : Int) < n) ∧ w' = w := by
  have hm := Hid.mk' (within_eq k n h3 h4)
  go_enter Tryd.func13, Tryd.ntmps13
  go_wp2
  go_ret
  obtain ⟨m, h, hl⟩ := hm.out
  exact ⟨⟨m, ret_int h, hl⟩, rfl⟩

theorem burst_short (s : ByteArray) (v : Int) (u : BitVec 32) (w : World) (h : s.size < 5) :
    Calls Tryd.prog 12 #[.string s, .int .i64 v, .int .u32 (B u)] w fun e w' => e = .returned (.string s) ∧ w' = w := by
  go_enter Tryd.func12, Tryd.ntmps12
  go_wp2
  go_ret
  exact ⟨rfl, rfl⟩

set_option maxHeartbeats 400000 in
theorem burst_long (s : ByteArray) (v : Int) (u : BitVec 32) (w : World) (h1 : -9223372036854775808 ≤ v) (h2 : v ≤ 9223372036854775807) (h : 5 ≤ s.size) (hs : s.size ≤ 140737488355328) :
    Calls Tryd.prog 12 #[.string s, .int .i64 v, .int .u32 (B u)] w fun e w' => (∃ (t : ByteArray) (m : Nat), e = .returned (.string t) ∧ m < 8 * (s.size - 4) ∧ t.data.toList = bst s.data.toList (m / 8) (u.toNat * 2 ^ (m % 8)) 5) ∧ Below w.heap.size w w' := by
  have h5 : decide ((s.size : Int) < 5) = false := decide_eq_false (by omega)
  go_enter Tryd.func12, Tryd.ntmps12
  go_wp2_with fail
  refine (within_any _ _ _ h1 h2 (by omega) (by omega)).mono ?_
  rintro e w' ⟨⟨m, rfl, hm⟩, rfl⟩
  have hcv := run_bytes_of_string (P := Tryd.prog) w' 9 31 5 s Tryd.underlying9 Tryd.underlying31 Tryd.underlying5
  obtain ⟨hwd, hwl⟩ := wide_eq u (m % 8) (by omega)
  have hq : (m : Int) / 8 = ((m / 8 : Nat) : Int) := by omega
  have hp : m / 8 + 5 ≤ s.size := by omega
  obtain ⟨wide, ewide⟩ : ∃ x, Hid (u.toNat * 2 ^ (m % 8) = x) := ⟨_, rfl⟩
  rw [ewide.out] at hwd hwl
  obtain ⟨p, ep⟩ : ∃ x, Hid (m / 8 = x) := ⟨_, rfl⟩
  rw [ep.out] at hq hp
  go_wp2_with fail
  go_loopw [28] (fun i wr => ∃ k : Nat, k ≤ 5 ∧ i = .int .i64 k ∧ Below w'.heap.size w' wr ∧ Byt wr w'.heap.size (bst s.data.toList p wide k)) (fun i _ => 5 - (intOf i).toNat)
  case atStart =>
    exact ⟨0, Nat.zero_le _, rfl, ((Below.refl _ _).alloc (Nat.le_refl _) _).drew, byt_start _ _ _ _⟩
  case round =>
    obtain ⟨k, hk, rfl, hb, hy⟩ := hrel
    by_cases hlt : k < 5
    · have hln : p + k < (bst s.data.toList p wide k).length := by rw [bst_length]; simp; omega
      have hc := hy.cell (p + k) hln
      have hf := hy.open' (p + k) hln
      have hy' := Hid.mk' hy
      have hb' := Hid.mk' hb
      have hln' := Hid.mk' hln
      clear hy hb hln
      generalize hx : ((bst s.data.toList p wide k).getD (p + k) 0) = x at *
      have hx' := Hid.mk' hx
      clear hx
      have hxo := xor8 x (byteN wide k)
      rw [byteN_toNat] at hxo
      have hset : Hid (bst s.data.toList p wide (k + 1) = (bst s.data.toList p wide k).set (p + k) (x ^^^ byteN wide k)) := by show _ = _; rw [bst, hx'.out]
      go_wp2_with fail
      go_region
      go_wp2_with fail
      go_roundw
      case rel => exact ⟨k + 1, by omega, by go_num, (hb'.out.setCell (Nat.le_refl _) _).drew, by rw [hset.out]; have hs := hy'.out.set _ hln'.out (x ^^^ byteN wide k); rw [UInt8.toNat_xor] at hs; exact hs⟩
      case measure => simp [intOf]; omega
    · have hcs := byt_string hy s.size (grownCap w' s.size 0 5) (by rw [bst_length]; simp)
      have hb' := Hid.mk' hb
      clear hy hb
      go_wp2_with fail
      go_ret
      refine ⟨⟨_, m, rfl, by omega, ?_⟩, hb'.out⟩
      rw [ewide.out, ep.out, show k = 5 by omega]

end Go.Proofs.YtbhobflnaogomaaDoor
