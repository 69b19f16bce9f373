/- The law BlobReads, walked. -/
import Derived.Test.YtjfmpnphlpeikaaRUnblobWalks
import Derived.Test.YtjfmpnphlpeikaaEqualB
namespace Go.Proofs.Ytjfmpnphlpeikaa
open Go.RowKit

theorem bls_none (w : World) : Bls w none 0 0 [] := ⟨rfl, by omega, Rd.nil _ _ _, fun b hb => by simp at hb, by omega, by omega, fun _ => rfl⟩
/-- what is read, as one value -/
def rdV (s : List UInt8) : List Blb × Bool := (readB s).getD ([], false)
theorem rdb_ans {w' : World} {s : List UInt8} {e : Ending} (h : RdbAns w' s e) : ∃ ao cap, e = .returned (.tuple #[.slice ao (rdV s).1.length cap, .bool (rdV s).2, .int .i64 (if readB s = none then 4 else 0)]) ∧ Bls w' ao (rdV s).1.length cap (rdV s).1 := by
  unfold rdV
  rcases h with ⟨l, last, ao, cap, hr, rfl, hb⟩ | ⟨hr, rfl⟩
  · refine ⟨ao, cap, ?_, ?_⟩
    · rw [hr, if_neg (by simp)]; rfl
    · rw [hr]; exact hb
  · refine ⟨none, 0, ?_, ?_⟩
    · rw [hr, if_pos rfl]; rfl
    · rw [hr]; exact bls_none w'
set_option maxRecDepth 20000 in
set_option maxHeartbeats 1600000 in
theorem blobReads_at (s : ByteArray) (w : World) (hs : s.size ≤ 140737488355328) :
    Calls Try.prog 4 #[.string s] w fun e w' => e = .returned (.bool true) ∧ Below w.heap.size w w' := by
  obtain ⟨L, hL⟩ : ∃ L, Hid ((rdV s.data.toList).1 = L) := ⟨_, Hid.mk' rfl⟩
  obtain ⟨b, hb⟩ : ∃ L, Hid ((rdV s.data.toList).2 = L) := ⟨_, Hid.mk' rfl⟩
  obtain ⟨q, hq⟩ : ∃ q : Int, Hid ((if readB s.data.toList = none then 4 else 0) = q) := ⟨_, Hid.mk' rfl⟩
  go_enter Try.func4, Try.ntmps4
  go_wp2_with fail
  refine (bread_any s w (by omega)).mono ?_
  rintro e w1 ⟨hans, hb1⟩
  obtain ⟨a1, c1, rfl, h1⟩ := rdb_ans hans
  rw [hL.out] at h1
  rw [hL.out, hb.out, hq.out]
  have HB1 := Hid.mk' hb1
  have H1 := Hid.mk' h1
  clear hb1 h1 hans
  go_wp2_with fail
  refine (unblob_any s w1 (by omega)).mono ?_
  rintro e w2 ⟨hans, hb2⟩
  obtain ⟨a2, c2, rfl, h2⟩ := rdb_ans hans
  rw [hL.out] at h2
  rw [hL.out, hb.out, hq.out]
  have HB2 := Hid.mk' (HB1.out.trans (hb2.mono HB1.out.size))
  have H2 := Hid.mk' h2
  have H3 := Hid.mk' (H1.out.below hb2)
  have hn := h2.nB
  clear hb2 h2 hans
  go_wp2_with fail
  refine (equalB_any a1 a2 L.length c1 L.length c2 L L w2 H3.out.rd H2.out.rd rfl rfl hn hn).mono ?_
  rintro e w3 ⟨⟨v, rfl, hv⟩, r, rfl⟩
  rw [hv.yes rfl]
  go_wp2_with fail
  go_ret
  exact ⟨rfl, HB2.out.trans (below_dB _ _)⟩
theorem blobReads_walk (a0 : ByteArray) (w : World) (_w0 : a0.size ≤ maxLen) (z0 : a0.data.toList.length ≤ reachBytes) :
    Calls Try.prog 4 #[.string a0] w fun e w' => e = .returned (.bool true) ∧ Below w.heap.size w w' := by
  have hr := reachBytes_lt
  have e0 : a0.data.toList.length = a0.size := by rw [Array.length_toList]; rfl
  exact blobReads_at a0 w (by omega)
end Go.Proofs.Ytjfmpnphlpeikaa
