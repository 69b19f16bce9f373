/- The law BitsBack, walked. -/
import Derived.Test.YtjfkbkhfnnmbnaaWidthsWalks
import Derived.Test.YtjfkbkhfnnmbnaaEqualWalks
import Derived.Test.YtjfkbkhfnnmbnaaBackMath
import Derived.SizedLaws
namespace Go.Proofs.Ytjfkbkhfnnmbnaa
open Go.RowKit

def constV : Nat → Nat
  | 0 => 1
  | _ => 5
def constW : Nat → Int
  | 0 => 1
  | _ => 8
theorem const_pack : packS 2 constV constW = [11, 0] ∧ packE 2 constV constW = 0 := by decide
theorem pcs_const (w : World) : Pcs (w.alloc (.cells #[.int .u64 1, .int .i64 1, .int .u64 5, .int .i64 8] 40)) (some ⟨w.heap.size, 0, none⟩) 2 constV constW := by
  refine ⟨by omega, fun _ => ⟨w.heap.size, 0, rfl, by simp, fun i hi => ?_⟩, fun i hi => ?_, fun i hi => ?_⟩
  · rcases (by omega : i = 0 ∨ i = 1) with rfl | rfl <;> simp [constV, constW]
  · rcases (by omega : i = 0 ∨ i = 1) with rfl | rfl <;> decide
  · rcases (by omega : i = 0 ∨ i = 1) with rfl | rfl <;> decide

theorem pack_zero (len : Nat) (V : Nat → Nat) (W : Nat → Int) (h : packE len V W = 0) : (∀ i, i < len → errP (V i) (W i) = 0) ∧ widSum W len ≤ 65536 := by
  unfold packE at h
  split at h
  · rename_i h0
    split at h
    · cases h
    · exact ⟨firstErr_of V W len h0, by omega⟩
  · rename_i h0; exact absurd h h0
theorem wds_of_own {w : World} {N n : Nat} {v : Value} {W : Nat → Int} (h : w.ownsRow N 3 1 v n (cellsW W n)) (hn : n ≤ 17592186044416) (hB : ∀ i, i < n → -9223372036854775808 ≤ W i ∧ W i ≤ 9223372036854775807) : ∃ ao cap, v = .slice ao n cap ∧ Wds w ao n W := by
  rcases h.2 with ⟨rfl, rfl⟩ | ⟨g, cap, cur, rfl, _, hg, _, _, _, hx⟩
  · exact ⟨none, 0, rfl, ⟨by omega, fun hp => by omega, hB⟩⟩
  · refine ⟨some ⟨g, 0, none⟩, cap, rfl, ⟨by omega, fun _ => ⟨g, 0, rfl, (Array.getElem?_eq_some_iff.1 hg).1, fun i hi => ?_⟩, hB⟩⟩
    rw [Nat.zero_add, h.cellAt i (by omega)]
    simp [cellsW, hi]
theorem u64s_of_own {w : World} {N n : Nat} {v : Value} {V : Nat → Nat} (h : w.ownsRow N 32 1 v n (cellsV V n)) : U64s w v n V := by
  rcases h.2 with ⟨rfl, rfl⟩ | ⟨g, cap, cur, rfl, _, hg, _, _, _, hx⟩
  · exact u64s_nil _ _
  · refine ⟨some ⟨g, 0, none⟩, cap, rfl, fun _ => ⟨g, 0, rfl, (Array.getElem?_eq_some_iff.1 hg).1, fun i hi => ?_⟩⟩
    rw [Nat.zero_add, h.cellAt i (by omega)]
    simp [cellsV, hi]

set_option maxHeartbeats 800000 in
theorem bitsBack_at (a0 : Option Addr) (len cap : Nat) (V : Nat → Nat) (W : Nat → Int) (more : ByteArray) (w : World) (hP : Pcs w a0 len V W) (hmo : more.size ≤ 140737488355328) :
    Calls Try.prog 7 #[.slice a0 len cap, .string more] w fun e w' => e = .returned (.bool true) ∧ Below w.heap.size w w' := by
  have HP := Hid.mk' hP
  clear hP
  go_enter Try.func7, Try.ntmps7
  go_wp2_with fail
  refine (pack_any _ 2 2 constV constW _ (pcs_const w)).mono ?_
  rintro e w1 ⟨rfl, hb⟩
  rw [const_pack.1, const_pack.2]
  have HB1 : Hid (Below w.heap.size w w1) := ((Below.refl _ _).alloc (Nat.le_refl _) _).trans (hb.mono (by simp))
  have HP1 := Hid.mk' (pcs_below HP.out HB1.out)
  clear hb
  go_wp2_with fail
  refine (pack_any a0 len cap V W _ HP1.out).mono ?_
  rintro e w2 ⟨rfl, hb2⟩
  have HB2 := Hid.mk' (HB1.out.trans (hb2.mono HB1.out.size))
  have HP2 := Hid.mk' (pcs_below HP.out HB2.out)
  clear hb2
  by_cases hE : packE len V W = 0
  · have hok := pack_zero len V W hE
    have hS : packS len V W = bytesOf (packN V W len) ((widSum W len + 7) / 8) := (pack_ok len V W hok.1 hok.2).2
    obtain ⟨s, es⟩ : ∃ s, Hid (ByteArray.mk (packS len V W).toArray = s) := ⟨_, Hid.mk' rfl⟩
    have hsd : Hid (s.data.toList = bytesOf (packN V W len) ((widSum W len + 7) / 8)) := by show _ = _; rw [← es.out, hS]
    have hss : s.size ≤ 8192 := by
      have := congrArg List.length hsd.out
      rw [bytesOf_length] at this
      have h2 : s.data.toList.length = s.size := by simp
      have h3 := hok.2
      omega
    rw [es.out, hE]
    have HOK := Hid.mk' hok
    clear hok hS hE
    have hl := HP.out.lenB
    go_wp2_with fail
    refine (widths_any a0 len cap V W _ HP2.out).mono ?_
    rintro e w3 ⟨⟨v1, v2, rfl, ho1, ho2⟩, hb3⟩
    have HB3 := Hid.mk' (HB2.out.trans (hb3.mono HB2.out.size))
    obtain ⟨ao, cp, rfl, hwd⟩ := wds_of_own ho1 HP.out.lenB HP.out.wB
    have HW := Hid.mk' hwd
    have HV := Hid.mk' (u64s_of_own ho2)
    clear ho1 ho2 hwd hb3
    have hunp : Hid (unpE (s ++ more) len W = 0 ∧ unpL (s ++ more) len W = len) := unp_ok (s ++ more) len W (fun i hi => decide_eq_true ⟨(ok_wid _ _ (HOK.out.1 i hi)).1, (ok_wid _ _ (HOK.out.1 i hi)).2.1⟩) (by
      have h1 := congrArg List.length hsd.out
      rw [bytesOf_length] at h1
      have h2 : s.data.toList.length = s.size := by simp
      rw [ByteArray.size_append]
      omega)
    have hsame : Hid (eqB len len (unpF (s ++ more) W) V = true) := by
      show _ = _
      unfold eqB
      rw [sameTo_of]
      · simp
      · intro i hi
        unfold unpF
        rw [show (s ++ more).data.toList = s.data.toList ++ more.data.toList by simp, hsd.out]
        exact back_get V W len i more.data.toList HOK.out.1 hi
    have hsz : Hid ((s ++ more).size ≤ 140737488363520) := by show _ ≤ _; rw [ByteArray.size_append]; omega
    go_wp2_with fail
    refine (unpack_any (s ++ more) ao len cp W _ hsz.out HW.out).mono ?_
    rintro e w4 ⟨⟨v4, rfl, hu4⟩, hb4⟩
    rw [hunp.out.1]
    rw [hunp.out.2] at hu4
    have HB4 := Hid.mk' (HB3.out.trans (hb4.mono HB3.out.size))
    have HU4 := Hid.mk' hu4
    have HV4 := Hid.mk' (u64s_below HV.out hb4)
    clear hu4 hb4
    go_wp2_with fail
    refine (equal_any v4 v2 len len (unpF (s ++ more) W) V _ (by omega) (by omega) HU4.out HV4.out).mono ?_
    rintro e w5 ⟨rfl, q, rfl⟩
    rw [hsame.out]
    go_wp2_with fail
    go_ret
    exact ⟨rfl, below_drewN HB4.out q⟩
  · have hS : packS len V W = [] := by unfold packS; rw [if_neg hE]
    have hne : (packE len V W != 0) = true := by rw [bne_iff_ne]; exact hE
    rw [hS]
    clear hE hS
    go_wp2_with fail
    go_ret
    exact ⟨rfl, HB2.out⟩

theorem bitsBack_walk (a0 : Option Addr) (len cap : Nat) (V : Nat → Nat) (X : Nat → Int) (more : ByteArray) (w : World) (w0 : Pcs w a0 len V X) (_w1 : more.size ≤ maxLen) (z1 : more.data.toList.length ≤ reachBytes) :
    Calls Try.prog 7 #[.slice a0 len cap, .string more] w fun e w' => e = .returned (.bool true) ∧ Below w.heap.size w w' := by
  refine bitsBack_at a0 len cap V X more w w0 ?_
  have := reachBytes_lt
  have h : more.data.toList.length = more.size := by simp
  omega
end Go.Proofs.Ytjfkbkhfnnmbnaa
