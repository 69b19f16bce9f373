/- Which writes land: the functions that disk.Work's Sync and Crash hand on. -/
import Derived.Test.YtdhjadgmdmdnjaaBos
namespace Go.Proofs.Ytdhjadgmdmdnjaa
open Go.RowKit

set_option maxRecDepth 20000 in
set_option maxHeartbeats 400000 in
theorem syncF_any (i : Nat) (w : World) :
    Calls Try.prog 52 #[.int .i64 (i : Int)] w fun e w' => e = .returned (.bool (allL i)) ∧ w' = w := by
  go_enter Try.func52, Try.ntmps52
  go_wp2_with fail
  go_ret
  exact ⟨rfl, rfl⟩
set_option maxRecDepth 20000 in
set_option maxHeartbeats 400000 in
theorem crashF_any (i kb : Nat) (a0 : Option Addr) (k cap : Nat) (K : List Bool) (w : World) (hc : w.cell? ⟨kb, 0, none⟩ = some (.slice a0 k cap)) (h : Bos w a0 k K) (hi : i ≤ 9223372036854775807) :
    Calls Try.prog 53 #[.int .i64 (i : Int), .pointer (some ⟨kb, 0, none⟩)] w fun e w' => e = .returned (.bool (keepL K i)) ∧ w' = w := by
  have hkB := h.kB
  have HK := Hid.mk' h
  have hout := keepL_out K i
  rw [h.nK] at hout
  clear h
  by_cases hlt : i < k
  · obtain ⟨b, off, rfl, hb, hx⟩ := HK.out.rk.at' (by omega)
    have hx1 := hx i _ (boC_at K i (by rw [HK.out.nK]; exact hlt))
    have e : Hid (keepL K i = K.getD i false) := rfl
    clear hout hx
    rw [e.out]
    generalize K.getD i false = q at *
    go_enter Try.func53, Try.ntmps53
    go_wp2_with fail
    go_ret
    exact ⟨rfl, rfl⟩
  · rw [hout (by omega)]
    clear hout
    go_enter Try.func53, Try.ntmps53
    go_wp2_with fail
    go_ret
    exact ⟨rfl, rfl⟩
end Go.Proofs.Ytdhjadgmdmdnjaa
