/- The law RunsBack, walked. -/
import Derived.Test.YtpkidjledgcemabRunsWriteWalks
import Derived.Test.YtpkidjledgcemabRunsReadWalks
import Derived.Test.YtpkidjledgcemabRunsBackMath
import Derived.Test.YtpkidjledgcemabEqualInts
import Derived.SizedLaws
namespace Go.Proofs.Ytpkidjledgcemab
open Go.RowKit

def w440 (i : Nat) : Int := if i < 2 then 4 else 0
theorem known440 : fillE w440 3 = 0 ∧ rwB w440 3 = [3, 65, 0] := by
  have h : fillE w440 3 = 0 := by decide
  refine ⟨h, ?_⟩
  unfold rwB
  rw [if_pos h, putB_lo 3 (by omega)]
  decide
theorem wds440 (w : World) (t : TypeId) : Wds (w.alloc (.cells #[.int .i64 4, .int .i64 4, .int .i64 0] t)) (some ⟨w.heap.size, 0, none⟩) 3 w440 :=
  ⟨by omega, fun _ => ⟨w.heap.size, 0, rfl, by simp, fun i hi => by
    rw [World.cell?_alloc_new, Nat.zero_add]
    match i, hi with
    | 0, _ => rfl
    | 1, _ => rfl
    | 2, _ => rfl⟩, fun i _ => by unfold w440; split <;> omega⟩
theorem cat_listB (l : List UInt8) (s : ByteArray) : ((ByteArray.mk l.toArray) ++ s).data.toList = l ++ s.data.toList := by
  rw [ByteArray.data_append, Array.toList_append]
theorem wds_i64s {w : World} {a0 : Option Addr} {len cap : Nat} {X : Nat → Int} (h : Wds w a0 len X) : I64s w (.slice a0 len cap) len X := ⟨a0, cap, rfl, h.at'⟩

set_option maxRecDepth 20000 in
set_option maxHeartbeats 1000000 in
theorem runsBack_walk (a0 : Option Addr) (len cap : Nat) (X : Nat → Int) (a1 : ByteArray) (w : World) (w0 : Wds w a0 len X) (q0 : len ≤ cap ∧ cap ≤ maxLen) (_w1 : a1.size ≤ maxLen) (z1 : a1.data.toList.length ≤ reachBytes) :
    Calls Try.prog 6 #[.slice a0 len cap, .string a1] w fun e w' => e = .returned (.bool true) ∧ Below w.heap.size w w' := by
  have HP := Hid.mk' w0
  have HQ := Hid.mk' q0
  have hlen := w0.lenB
  have hsz : a1.size ≤ 140737488351232 := by
    have e : a1.data.toList.length = a1.size := by rw [Array.length_toList]; rfl
    unfold reachBytes at z1
    omega
  clear w0 q0
  have hk := Hid.mk' known440
  obtain ⟨w1, hw1⟩ : ∃ w1, Hid (w.alloc (.cells #[.int .i64 4, .int .i64 4, .int .i64 0] 3) = w1) := ⟨_, Hid.mk' rfl⟩
  have HB1 : Hid (Below w.heap.size w w1) := by rw [← hw1.out]; exact (Below.refl _ _).alloc (Nat.le_refl _) _
  have HW1 : Hid (Wds w1 (some ⟨w.heap.size, 0, none⟩) 3 w440) := by rw [← hw1.out]; exact wds440 w _
  go_enter Try.func6, Try.ntmps6
  go_wp2_with fail
  rw [hw1.out]
  refine (rwrite_any _ 3 3 w440 _ HW1.out ⟨Nat.le_refl _, by unfold maxLen; omega⟩).mono ?_
  rintro e w2 ⟨rfl, hb⟩
  have HB2 := Hid.mk' (HB1.out.trans (hb.mono HB1.out.size))
  have HP2 := Hid.mk' (wds_below HP.out HB2.out)
  clear hb
  rw [hk.out.1, hk.out.2]
  go_wp2_with fail
  refine (rwrite_any a0 len cap X _ HP2.out HQ.out).mono ?_
  rintro e w3 ⟨rfl, hb⟩
  have HB3 := Hid.mk' (HB2.out.trans (hb.mono HB2.out.size))
  have HP3 := Hid.mk' (wds_below HP2.out hb)
  clear hb
  by_cases hE : fillE X len = 0
  · have hbk := runs_back hE a1.data.toList
    rw [← cat_listB] at hbk
    have hsh := (runs_short hE).2
    have hl := (fill_good hE).1
    have HG := Hid.mk' (fill_good hE).2
    rw [hE]
    clear hE
    obtain ⟨t, et⟩ : ∃ t, Hid (ByteArray.mk (rwB X len).toArray = t) := ⟨_, Hid.mk' rfl⟩
    have hts : (rwB X len).length = t.size := by rw [← et.out]; rfl
    rw [et.out, hts] at hbk
    rw [hts] at hsh
    rw [et.out]
    have HBK := Hid.mk' hbk
    clear hts hbk
    go_wp2_with fail
    refine (rread_any _ _ (by rw [ByteArray.size_append]; omega)).mono ?_
    rintro e w4 ⟨⟨v, rfl, hI, _⟩, hb⟩
    have HB4 := Hid.mk' (HB3.out.trans (hb.mono HB3.out.size))
    have HP4 := Hid.mk' (wds_below HP3.out hb)
    rw [HBK.out.1, HBK.out.2.2]
    rw [HBK.out.2.1] at hI
    have HI : Hid (I64s w4 v len X) := by
      obtain ⟨ao, cp, hv, hc⟩ := hI.is
      rw [lsF_length, Nat.sub_zero] at hv hc
      refine ⟨ao, cp, hv, fun hp => ?_⟩
      obtain ⟨g, off, h1, h2, h3⟩ := hc hp
      refine ⟨g, off, h1, h2, fun i hi => ?_⟩
      rw [h3 i hi, lsF_get X len i hi]
      have := len_of (HG.out i hi)
      rw [show (((X i).toNat : Nat) : Int) = X i by omega]
    clear hI hb
    go_wp2_with fail
    refine (equalI_any _ v len len X X _ (by omega) (by omega) (wds_i64s HP4.out) HI.out).mono ?_
    rintro e w5 ⟨rfl, q, rfl⟩
    rw [show eqI len len X X = true by unfold eqI; rw [sameI_of X X len (fun _ _ => rfl)]; simp]
    go_wp2_with fail
    go_ret
    exact ⟨rfl, below_drewN HB4.out _⟩
  · have hr := Hid.mk' (rw_large X len hE)
    have hne : (fillE X len != 0) = true := by rw [bne_iff_ne]; exact hE
    obtain ⟨z, ez⟩ : ∃ z, Hid (fillE X len = z) := ⟨_, Hid.mk' rfl⟩
    rw [hr.out, ez.out]
    rw [ez.out] at hne
    clear hE
    go_wp2_with fail
    go_ret
    exact ⟨rfl, HB3.out⟩
end Go.Proofs.Ytpkidjledgcemab
