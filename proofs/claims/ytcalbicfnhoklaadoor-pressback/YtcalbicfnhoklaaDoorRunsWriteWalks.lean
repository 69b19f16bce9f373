import Derived.Test.YtcalbicfnhoklaaDoorFirstRunWalks
import Derived.Test.YtcalbicfnhoklaaDoorMsah

/- What runs.Write answers. -/
namespace Go.Proofs.YtcalbicfnhoklaaDoor
open Go.RowKit

theorem lsF_shift (W : Nat → Int) (p len k : Nat) : lsF (fun i => W (p + i)) k (len - p) = lsF W (p + k) len := by
  unfold lsF
  rw [show len - p - k = len - (p + k) by omega]
  simp only [Nat.add_assoc]
theorem rn_step (W : Nat → Int) (p len : Nat) (hp : p < len) (n : Nat) (hn : fstR (W p).toNat 1 (lsF (fun i => W (p + i)) 1 (len - p)) = n) : rnB (lsF W p len) = runB (W p).toNat n :: rnB (lsF W (p + n) len) ∧ 1 ≤ n ∧ n ≤ 16 ∧ n ≤ len - p := by
  rw [lsF_shift] at hn
  have h1 := fstR_ge (W p).toNat (lsF W (p + 1) len) 1
  have h2 := fstR_le (W p).toNat (lsF W (p + 1) len) 1 (by omega)
  rw [lsF_length] at h2
  rw [hn] at h1 h2
  refine ⟨?_, h1, h2.1, by omega⟩
  rw [lsF_cons W p len hp, rnB, rnC_fst, hn, lsF_drop W (p + 1) len (n - 1) (by omega), show p + 1 + (n - 1) = p + n by omega]
theorem rw_large (W : Nat → Int) (len : Nat) (h : fillE W len ≠ 0) : rwB W len = [] := by unfold rwB; rw [if_neg h]
theorem rw_ok (W : Nat → Int) (len : Nat) (h : fillE W len = 0) : rwB W len = putB len ++ rnB (lsF W 0 len) := by unfold rwB; rw [if_pos h]
theorem ret_si {s t : ByteArray} {a b : Int} (h1 : s = t) (h2 : a = b) : Ending.returned (.tuple #[.string s, .int .i64 a]) = .returned (.tuple #[.string t, .int .i64 b]) := by rw [h1, h2]
theorem wds_cut {w : World} {ao : Option Addr} {rem cp n : Nat} {X : Nat → Int} (h : Wds w ao rem X) (hn : n ≤ rem) (hc : rem ≤ cp) :
    Wds w (if cp = n then ao else ao.map (·.add n)) (rem - n) (fun i => X (n + i)) := by
  refine ⟨by have := h.lenB; omega, fun hp => ?_, fun i hi => h.wB _ (by omega)⟩
  obtain ⟨b, off, rfl, hb, hcl⟩ := h.at' (by omega)
  rw [if_neg (by omega)]
  refine ⟨b, off + n, by simp [addB], hb, fun i hi => ?_⟩
  rw [Nat.add_assoc]; exact hcl (n + i) (by omega)

set_option maxRecDepth 20000 in
set_option maxHeartbeats 1000000 in
theorem rwrite_any (a0 : Option Addr) (len cap : Nat) (W : Nat → Int) (w : World) (hP : Wds w a0 len W) (hcap : len ≤ cap ∧ cap ≤ maxLen) :
    Calls Tryd.prog 37 #[.slice a0 len cap] w fun e w' => e = .returned (.tuple #[.string ⟨(rwB W len).toArray⟩, .int .i64 (fillE W len)]) ∧ Below w.heap.size w w' := by
  have hlen := hP.lenB
  have HP := Hid.mk' hP
  clear hP
  obtain ⟨hc1, hc2⟩ := hcap
  have hc3 : cap ≤ 9223372036854775807 := by unfold maxLen at hc2; omega
  clear hc2
  obtain ⟨i0, hi, hz0, hz1, hz2⟩ := info_parts infoByteP
  have KI := Hid.mk' hi
  have KZ0 := Hid.mk' hz0
  have KZ1 := Hid.mk' hz1
  have KZ2 := Hid.mk' hz2
  clear hi hz0 hz1 hz2
  by_cases hL : 320 < len
  · have hf := Hid.mk' (fill_large W len hL)
    have hr := Hid.mk' (rw_large W len (by rw [(fill_large W len hL).1]; decide))
    go_enter Tryd.func37, Tryd.ntmps37
    go_wp2_with fail
    go_ret2
    refine ⟨?_, Below.refl _ _⟩
    rw [hf.out.1, hr.out]
    rfl
  · go_enter Tryd.func37, Tryd.ntmps37
    go_wp2_with fail
    go_loop [13] (fun i => ∃ k : Nat, k ≤ len ∧ i = .int .i64 k ∧ (∀ i, i < k → lenB (W i) = true)) (fun i => len - (intOf i).toNat)
    case atStart => exact ⟨0, Nat.zero_le _, rfl, fun i hi => by omega⟩
    case round =>
      obtain ⟨k, hk, rfl, hok⟩ := hrel
      have HO := Hid.mk' hok
      clear hok
      by_cases hlt : k < len
      · obtain ⟨b, off, rfl, hb, hc⟩ := HP.out.at' (by omega)
        have c0 := hc k hlt
        clear hc
        cases hw : lenB (W k) with
        | true =>
          have hw2 := len_of hw
          have HO1 : Hid (∀ i, i < k + 1 → lenB (W i) = true) := fun i hi => by
            rcases Nat.lt_succ_iff_lt_or_eq.1 hi with h1 | rfl
            · exact HO.out i h1
            · exact hw
          have hw0 := hw2.1
          have hw1 := hw2.2
          clear hw2 hw
          generalize W k = x at *
          go_wp2_with fail
          go_round
          case rel => exact ⟨k + 1, by omega, by go_num, HO1.out⟩
          case measure => simp [intOf]; omega
        | false =>
          have hpb0 := fill_bad W len hL (all_not k hlt hw)
          have hr := Hid.mk' (rw_large W len (by rw [hpb0.1]; decide))
          have hpb := Hid.mk' hpb0
          clear hpb0
          have hnw := len_not hw
          clear hw
          by_cases hneg : W k < 0
          all_goals
            go_wp2_with fail
            go_ret2
            refine ⟨?_, Below.refl _ _⟩
            rw [hpb.out.1, hr.out]
            rfl
      · have hkl : k = len := by omega
        have hfo := fill_ok W len hL (all_mk (fun i hi => HO.out i (by omega)))
        have hr := Hid.mk' (rw_ok W len hfo.1)
        have HF := Hid.mk' hfo.1
        have HA : Hid (∀ i, i < len → lenB (W i) = true) := fun i hi => HO.out i (by omega)
        clear hfo
        go_wp2_with fail
        refine (put_num len _ (by omega)).mono ?_
        rintro e w1 ⟨rfl, hb1⟩
        have hpl := putB_len10 len (by omega)
        obtain ⟨v0, w2, hcv, hB2, hb2⟩ := bytes_made (putB len) w1 w.heap.size hb1.size (by omega)
        have HB2 := Hid.mk' hB2
        have HBl := Hid.mk' (hb1.trans (hb2.mono hb1.size))
        clear hB2 hb1 hb2
        go_wp2_with fail
        clear hcv
        go_loopw [0, 6] (fun sv ov wr => ∃ (p : Nat) (pre : List UInt8) (ao : Option Addr) (cp : Nat), p ≤ len ∧ sv = .slice ao (len - p) cp ∧ len - p ≤ cp ∧ cp ≤ 9223372036854775807 ∧ Wds w ao (len - p) (fun i => W (p + i)) ∧ BRow wr w.heap.size ov (putB len ++ pre) ∧ pre.length ≤ p ∧ rnB (lsF W 0 len) = pre ++ rnB (lsF W p len) ∧ Below w.heap.size w wr) (fun sv _ _ => match sv with | .slice _ n _ => n | _ => 0)
        case atStart => exact ⟨0, [], a0, cap, Nat.zero_le _, rfl, hc1, hc3, by simpa using HP.out, by simpa using HB2.out, Nat.le_refl _, rfl, HBl.out⟩
        case round =>
          obtain ⟨p, pre, ao, cp, hp, rfl, hcp, hcm, hwd, hbr, hpre, hrn, hbl⟩ := hrel
          have HW := Hid.mk' hwd
          have HB := Hid.mk' hbr
          have HR := Hid.mk' hrn
          have HBw := Hid.mk' hbl
          have hsz := hbl.size
          clear hwd hbr hrn hbl
          obtain ⟨rem, hrem⟩ : ∃ rem, len - p = rem := ⟨_, rfl⟩
          rw [hrem] at hcp HW
          by_cases hlt : p < len
          · have hrp : 0 < rem := by omega
            obtain ⟨b, off, rfl, hb, hc⟩ := HW.out.at' hrp
            have hc' : ∀ i, i < rem → wr.cell? ⟨b, off + i, none⟩ = some (.int .i64 (W (p + i))) := fun i hi => (HBw.out.cell (p := ⟨b, off + i, none⟩) hb).trans (hc i hi)
            have HC := Hid.mk' hc'
            have HX : Hid (∀ i, i < rem → lenB (W (p + i)) = true) := fun i hi => HA.out _ (by omega)
            clear hc hc'
            obtain ⟨n, hn⟩ : ∃ n, Hid (fstR (W p).toNat 1 (lsF (fun i => W (p + i)) 1 rem) = n) := ⟨_, Hid.mk' rfl⟩
            have hst := rn_step W p len hlt n (by rw [hrem]; exact hn.out)
            have h1n := hst.2.1
            have h16 := hst.2.2.1
            have hnr : n ≤ rem := by have := hst.2.2.2; omega
            have HS := Hid.mk' hst.1
            clear hst
            have hw2 := len_of (HA.out p hlt)
            obtain ⟨x, hx⟩ : ∃ x : Nat, W p = (x : Int) := ⟨(W p).toNat, by omega⟩
            have hx15 : x ≤ 15 := by omega
            have c0 := HC.out 0 hrp
            rw [Nat.add_zero, Nat.add_zero, hx] at c0
            have hxn := Hid.mk' (show (W p).toNat = x by omega)
            clear hw2 hx
            have hval : Hid ((runB x n).toNat = 16 * x + n - 1) := runB_val x n hx15 h1n h16
            obtain ⟨z, hz⟩ : ∃ z, Hid (runB x n = z) := ⟨_, Hid.mk' rfl⟩
            rw [hz.out] at hval
            have hbyte : (16 * (x : Int) + (n : Int) - 1) = (z.toNat : Int) := by rw [hval.out]; omega
            have hz256 := z.toNat_lt
            rw [hrem]
            go_wp2_with fail
            refine (first_any b off rem cp (fun i => W (p + i)) _ hrp (by omega) HX.out HC.out).mono ?_
            rintro e w' ⟨rfl, q, rfl⟩
            rw [Nat.add_zero, hn.out]
            have c1 : (wr.drewN q).cell? ⟨b, off, none⟩ = some (.int .i64 (x : Int)) := c0
            have HBq : Hid (BRow (wr.drewN q) w.heap.size u6 (putB len ++ pre)) := HB.out.drewN q
            have hpl2 : (putB len ++ pre).length ≤ 1000 := by rw [List.length_append]; omega
            go_wp2_with (at_builtin; refine wpList_append_brow rfl (.tmp 34) (.tmp 43) rfl w.heap.size i0 KI.out KZ0.out KZ1.out KZ2.out u6 _ rfl (HBq.out.alloc _) ⟨wr.heap.size, 0, none⟩ 1 z rfl (cell_new1 (wr.drewN q) _ _) (by omega) (by simp; omega) ?_; intro v5 w5 hB5 hg5)
            have HB5 : Hid (BRow w5 w.heap.size v5 (putB len ++ (pre ++ [z]))) := by rw [← List.append_assoc]; exact hB5
            have HBl5 : Hid (Below w.heap.size w w5) := ((below_dN HBw.out q).alloc (by simp; omega) _).grown hg5 (by simp; omega) fun i hi => (HB.out.lt i hi).1
            have HR5 : Hid (rnB (lsF W 0 len) = (pre ++ [z]) ++ rnB (lsF W (p + n) len)) := by
              show _ = _
              rw [HR.out, HS.out, hxn.out, hz.out]; simp
            have HW5 : Hid (Wds w (if cp = n then some ⟨b, off, none⟩ else some ⟨b, off + n, none⟩) (len - (p + n)) (fun i => W (p + n + i))) := by
              show Wds _ _ _ _
              have := wds_cut HW.out hnr hcp
              rw [show len - (p + n) = rem - n by omega]
              simpa [Nat.add_assoc, addB] using this
            have hrn5 := Hid.mk' (show len - (p + n) = rem - n by omega)
            clear hB5 hg5
            go_wp2_with fail
            go_roundw
            case rel => exact ⟨p + n, pre ++ [z], _, cp - n, by omega, by rw [hrn5.out], by rw [hrn5.out]; omega, by omega, HW5.out, HB5.out, by simp; omega, HR5.out, HBl5.out⟩
            case measure => simp; omega
          · have hpl : p = len := by omega
            have hrz : rem = 0 := by omega
            have hcs := HB.out.string
            have HE : Hid (rwB W len = putB len ++ pre) := by
              show _ = _
              rw [hr.out, HR.out, hpl, lsF_end]; simp [rnB]
            rw [hrem]
            clear hrem
            subst hrz
            go_wp2_with fail
            go_ret2
            refine ⟨?_, HBw.out⟩
            rw [HE.out, HF.out]
            rfl
end Go.Proofs.YtcalbicfnhoklaaDoor
