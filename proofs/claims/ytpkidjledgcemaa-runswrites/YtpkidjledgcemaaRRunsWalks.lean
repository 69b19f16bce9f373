/- What linenref.Runs answers: what runs.Write does. -/
import Derived.Test.YtpkidjledgcemaaRunsMath
import Derived.Test.YtpkidjledgcemaaWds
import Derived.Test.YtpkidjledgcemaaBRow
import Derived.Test.YtpkidjledgcemaaRNumPutWalks
namespace Go.Proofs.Ytpkidjledgcemaa
open Go.RowKit

theorem rr_large (W : Nat → Int) (len : Nat) (h : fillE W len ≠ 0) : rwB W len = [] := by unfold rwB; rw [if_neg h]
theorem rr_ok (W : Nat → Int) (len : Nat) (h : fillE W len = 0) : rwB W len = putB len ++ rnB (lsF W 0 len) := by unfold rwB; rw [if_pos h]
/-- what lies there behind k lengths -/
def RunSt (W : Nat → Int) (len k n : Nat) (l : List UInt8) : Prop :=
  (k = 0 ∧ n = 0 ∧ l = putB len) ∨ (∃ pre, 0 < k ∧ 1 ≤ n ∧ n ≤ 16 ∧ l = putB len ++ pre ++ [runB (W (k - 1)).toNat n] ∧ rnB (lsF W 0 len) = pre ++ rnC (W (k - 1)).toNat n (lsF W k len) ∧ pre.length + 1 ≤ k)
theorem runSt_len {W : Nat → Int} {len k n : Nat} {l : List UInt8} (h : RunSt W len k n l) : l.length ≤ (putB len).length + k ∧ 0 < l.length ∧ n ≤ 16 := by
  rcases h with ⟨h1, h2, h3⟩ | ⟨pre, h1, h2, h3, h4, h5, h6⟩
  · subst h3; exact ⟨by omega, putB_pos _, by omega⟩
  · subst h4; simp; omega
theorem runSt_end {W : Nat → Int} {len n : Nat} {l : List UInt8} (h : RunSt W len len n l) : putB len ++ rnB (lsF W 0 len) = l := by
  rcases h with ⟨h1, h2, h3⟩ | ⟨pre, h1, h2, h3, h4, h5, h6⟩
  · subst h1; rw [lsF_end, h3]; simp [rnB]
  · rw [h5, h4, lsF_end, rnC, List.append_assoc]
/-- a length more in the run -/
theorem runSt_more {W : Nat → Int} {len k n : Nat} {l : List UInt8} (h : RunSt W len k n l) (hk : k < len) (hn : 0 < n) (h16 : n < 16) (he : W (k - 1) = W k) (hx : lenB (W k) = true) :
    ∃ z y, l.length - 1 < l.length ∧ (l.getD (l.length - 1) 0) = z ∧ z.toNat + 1 = y.toNat ∧ RunSt W len (k + 1) (n + 1) (l.set (l.length - 1) y) := by
  rcases h with ⟨h1, h2, h3⟩ | ⟨pre, h1, h2, h3, h4, h5, h6⟩
  · omega
  · have hw := len_of hx
    refine ⟨runB (W (k - 1)).toNat n, runB (W k).toNat (n + 1), ?_, ?_, ?_, ?_⟩
    · rw [h4]; simp
    · rw [h4]; simp
    · rw [he, runB_val _ _ (by omega) (by omega) (by omega), runB_val _ _ (by omega) (by omega) (by omega)]; omega
    · right
      refine ⟨pre, by omega, by omega, by omega, ?_, ?_, by omega⟩
      · rw [h4]; simp
      · rw [h5, he, lsF_cons W k len hk, rnC, if_pos ⟨h16, rfl⟩, show k + 1 - 1 = k by omega]
theorem runSt_new {W : Nat → Int} {len k n : Nat} {l : List UInt8} (h : RunSt W len k n l) (hk : k < len) (hx : ∀ i, i < k + 1 → lenB (W i) = true) (hn : ¬ (0 < n ∧ n < 16 ∧ W (k - 1) = W k)) : RunSt W len (k + 1) 1 (l ++ [runB (W k).toNat 1]) := by
  right
  rcases h with ⟨h1, h2, h3⟩ | ⟨pre, h1, h2, h3, h4, h5, h6⟩
  · refine ⟨[], by omega, by omega, by omega, ?_, ?_, by simp⟩
    · rw [h3]; simp
    · rw [h1, lsF_cons W 0 len (by omega)]; rfl
  · have a := len_of (hx k (by omega))
    have b := len_of (hx (k - 1) (by omega))
    refine ⟨pre ++ [runB (W (k - 1)).toNat n], by omega, by omega, by omega, ?_, ?_, by simp; omega⟩
    · rw [h4, show k + 1 - 1 = k by omega]; simp
    · rw [h5, lsF_cons W k len hk, rnC, if_neg (by omega), show k + 1 - 1 = k by omega]; simp

set_option maxRecDepth 20000 in
set_option maxHeartbeats 1000000 in
theorem rruns_any (a0 : Option Addr) (len cap : Nat) (W : Nat → Int) (w : World) (hP : Wds w a0 len W) :
    Calls Try.prog 15 #[.slice a0 len cap] w fun e w' => e = .returned (.tuple #[.string ⟨(rwB W len).toArray⟩, .int .i64 (fillE W len)]) ∧ Below w.heap.size w w' := by
  have hlen := hP.lenB
  have HP := Hid.mk' hP
  clear hP
  obtain ⟨i0, hi, hz0, hz1, hz2⟩ := info_parts infoByteP
  have KI := Hid.mk' hi
  have KZ0 := Hid.mk' hz0
  have KZ1 := Hid.mk' hz1
  have KZ2 := Hid.mk' hz2
  clear hi hz0 hz1 hz2
  by_cases hL : 320 < len
  · have hf := Hid.mk' (fill_large W len hL)
    have hr := Hid.mk' (rr_large W len (by rw [(fill_large W len hL).1]; decide))
    go_enter Try.func15, Try.ntmps15
    go_wp2_with fail
    go_ret2
    refine ⟨?_, Below.refl _ _⟩
    rw [hf.out.1, hr.out]
    rfl
  · go_enter Try.func15, Try.ntmps15
    go_wp2_with fail
    refine (rput_num len _ (by omega)).mono ?_
    rintro e w1 ⟨rfl, hb1⟩
    have hpl := putB_len10 len (by omega)
    obtain ⟨v0, w2, hcv, hB2, hb2⟩ := bytes_made (putB len) w1 w.heap.size hb1.size (by omega)
    have HB2 := Hid.mk' hB2
    have HBl := Hid.mk' (hb1.trans (hb2.mono hb1.size))
    clear hB2 hb1 hb2
    go_wp2_with fail
    clear hcv
    go_loopw [4, 5, 18] (fun ov nv iv wr => ∃ (k n : Nat) (l : List UInt8), k ≤ len ∧ iv = .int .i64 (k : Int) ∧ nv = .int .i64 (n : Int) ∧ BRow wr w.heap.size ov l ∧ RunSt W len k n l ∧ (∀ i, i < k → lenB (W i) = true) ∧ Below w.heap.size w wr) (fun _ _ iv _ => len - (intOf iv).toNat)
    case atStart => exact ⟨0, 0, putB len, Nat.zero_le _, rfl, rfl, HB2.out, .inl ⟨rfl, rfl, rfl⟩, fun i hi => by omega, HBl.out⟩
    case round =>
      obtain ⟨k, n, l, hk, rfl, rfl, hbr, hst, hok, hbl⟩ := hrel
      have HB := Hid.mk' hbr
      have HS := Hid.mk' hst
      have HO := Hid.mk' hok
      have HBw := Hid.mk' hbl
      have hsz := hbl.size
      have hll := runSt_len hst
      have hl1 := hll.1
      have hl0 := hll.2.1
      have hn16 := hll.2.2
      clear hbr hst hok hbl hll
      by_cases hlt : k < len
      · obtain ⟨b, off, rfl, hb, hc⟩ := HP.out.at' (by omega)
        have c0 := (HBw.out.cell (p := ⟨b, off + k, none⟩) hb).trans (hc k hlt)
        have c1 := fun hk0 : 0 < k => (HBw.out.cell (p := ⟨b, off + (k - 1), none⟩) hb).trans (hc (k - 1) (by omega))
        have C1 := Hid.mk' c1
        clear hc c1
        cases hw : lenB (W k) with
        | true =>
          have hw2 := len_of hw
          have HO1 : Hid (∀ i, i < k + 1 → lenB (W i) = true) := fun i hi => by
            rcases Nat.lt_succ_iff_lt_or_eq.1 hi with h1 | rfl
            · exact HO.out i h1
            · exact hw
          obtain ⟨x, hx⟩ : ∃ x : Nat, W k = (x : Int) := ⟨(W k).toNat, by omega⟩
          have hx15 : x ≤ 15 := by omega
          have hxn := Hid.mk' (show (W k).toNat = x by omega)
          have HW := Hid.mk' hw
          clear hw2 hw
          -- a new run
          have hnew : Hid (¬ (0 < n ∧ n < 16 ∧ W (k - 1) = W k) → RunSt W len (k + 1) 1 (l ++ [runB x 1])) := fun h => by rw [← hxn.out]; exact runSt_new HS.out hlt HO1.out h
          have hval : Hid ((runB x 1).toNat = 16 * x) := by show _ = _; rw [runB_val x 1 hx15 (by omega) (by omega)]; omega
          obtain ⟨z, hz⟩ : ∃ z, Hid (runB x 1 = z) := ⟨_, Hid.mk' rfl⟩
          rw [hz.out] at hval hnew
          have hbyte : (16 * (x : Int)) = (z.toNat : Int) := by rw [hval.out]; omega
          have hz256 := z.toNat_lt
          rw [hx] at c0
          by_cases hrun : 0 < n ∧ n < 16 ∧ W (k - 1) = W k
          · obtain ⟨hn0, hn1, he⟩ := hrun
            have hk0 : 0 < k := by
              rcases HS.out with ⟨_, h2, _⟩ | ⟨_, h1, _⟩ <;> omega
            have c1 := C1.out hk0
            rw [he, hx] at c1
            obtain ⟨y, y', q0, q1, q2, q3⟩ := runSt_more HS.out hlt hn0 hn1 he HW.out
            obtain ⟨g, cp, rfl, k1, k2, k3, k4, k5, k6, k7⟩ := HB.out.is
            obtain ⟨j, hj⟩ : ∃ j, l.length - 1 = j := ⟨_, rfl⟩
            rw [hj] at q0 q1 q3
            have r0 := k5 j q0
            have r1 := k7 j (by omega)
            rw [show l[j] = y by rw [← q1, List.getD_eq_getElem?_getD, List.getElem?_eq_getElem q0]; rfl] at r0
            have HB6 := Hid.mk' (HB.out.set q0 y')
            have HS6 := Hid.mk' q3
            have hy256 := y'.toNat_lt
            have hyy : ((y.toNat : Int) + 1) = (y'.toNat : Int) := by omega
            have hjl : (l.length : Int) - 1 = (j : Int) := by omega
            have hkk : (k : Int) - 1 = ((k - 1 : Nat) : Int) := by omega
            obtain ⟨k', hk'⟩ : ∃ k', k - 1 = k' := ⟨_, rfl⟩
            rw [hk'] at c1 hkk
            have t0 : decide ((0 : Int) < (n : Int)) = true := decide_eq_true (by omega)
            have t1 : decide ((n : Int) < 16) = true := decide_eq_true (by omega)
            have t2 : ((x : Int) == (x : Int)) = true := by simp
            have HBl6 : Hid (Below w.heap.size w (wr.setCell ⟨g, j, none⟩ (.int .u8 (y'.toNat : Int)))) := HBw.out.setCell (by show w.heap.size ≤ g; omega) _
            have hlc : l.length ≤ cp := k3
            clear k3 k4 k5 k6 k7 q1 q2 q3 hj hx he
            go_wp2_with fail
            go_roundw
            case rel => exact ⟨k + 1, n + 1, l.set j y', by omega, by go_num, by go_num, HB6.out, HS6.out, HO1.out, HBl6.out⟩
            case measure => simp [intOf]; omega
          · have HN := Hid.mk' (hnew.out hrun)
            have fin : ∀ w5 v5, BRow w5 w.heap.size v5 (l ++ [z]) → (wr.alloc (.cells #[.int .u8 (z.toNat : Int)] 5)).grownBy w5 u4.ownBlock → Hid (BRow w5 w.heap.size v5 (l ++ [z]) ∧ Below w.heap.size w w5) := fun w5 v5 h5 g5 => ⟨h5, (HBw.out.alloc hsz _).grown g5 (by simp; omega) fun i hi => (HB.out.lt i hi).1⟩
            by_cases hn0 : 0 < n
            · by_cases hn1 : n < 16
              · have he : W (k - 1) ≠ W k := fun h => hrun ⟨hn0, hn1, h⟩
                have hk0 : 0 < k := by
                  rcases HS.out with ⟨_, h2, _⟩ | ⟨_, h1, _⟩ <;> omega
                have c1 := C1.out hk0
                have hkk : (k : Int) - 1 = ((k - 1 : Nat) : Int) := by omega
                obtain ⟨k', hk'⟩ : ∃ k', k - 1 = k' := ⟨_, rfl⟩
                rw [hk'] at c1 hkk he
                rw [hx] at he
                have t2 : (W k' == (x : Int)) = false := by rw [beq_eq_false_iff_ne]; exact he
                have t0 : decide ((0 : Int) < (n : Int)) = true := decide_eq_true (by omega)
                have t1 : decide ((n : Int) < 16) = true := decide_eq_true (by omega)
                clear hx he hrun
                go_wp2_with (at_builtin; refine wpList_append_brow rfl (.tmp 54) (.tmp 58) rfl w.heap.size i0 KI.out KZ0.out KZ1.out KZ2.out u4 _ rfl (HB.out.alloc _) ⟨wr.heap.size, 0, none⟩ 1 z rfl (cell_new1 _ _ _) (by omega) (by simp; omega) ?_; intro v5 w5 hB5 hg5)
                have HF := fin w5 v5 hB5 hg5
                clear hB5 hg5 fin
                go_wp2_with fail
                go_roundw
                case rel => exact ⟨k + 1, 1, l ++ [z], by omega, by go_num, rfl, HF.out.1, HN.out, HO1.out, HF.out.2⟩
                case measure => simp [intOf]; omega
              · have t0 : decide ((0 : Int) < (n : Int)) = true := decide_eq_true (by omega)
                have t1 : decide ((n : Int) < 16) = false := decide_eq_false (by omega)
                clear hx hrun
                go_wp2_with (at_builtin; refine wpList_append_brow rfl (.tmp 54) (.tmp 58) rfl w.heap.size i0 KI.out KZ0.out KZ1.out KZ2.out u4 _ rfl (HB.out.alloc _) ⟨wr.heap.size, 0, none⟩ 1 z rfl (cell_new1 _ _ _) (by omega) (by simp; omega) ?_; intro v5 w5 hB5 hg5)
                have HF := fin w5 v5 hB5 hg5
                clear hB5 hg5 fin
                go_wp2_with fail
                go_roundw
                case rel => exact ⟨k + 1, 1, l ++ [z], by omega, by go_num, rfl, HF.out.1, HN.out, HO1.out, HF.out.2⟩
                case measure => simp [intOf]; omega
            · have t0 : decide ((0 : Int) < (n : Int)) = false := decide_eq_false (by omega)
              clear hx hrun
              go_wp2_with (at_builtin; refine wpList_append_brow rfl (.tmp 54) (.tmp 58) rfl w.heap.size i0 KI.out KZ0.out KZ1.out KZ2.out u4 _ rfl (HB.out.alloc _) ⟨wr.heap.size, 0, none⟩ 1 z rfl (cell_new1 _ _ _) (by omega) (by simp; omega) ?_; intro v5 w5 hB5 hg5)
              have HF := fin w5 v5 hB5 hg5
              clear hB5 hg5 fin
              go_wp2_with fail
              go_roundw
              case rel => exact ⟨k + 1, 1, l ++ [z], by omega, by go_num, rfl, HF.out.1, HN.out, HO1.out, HF.out.2⟩
              case measure => simp [intOf]; omega
        | false =>
          have hpb0 := fill_bad W len hL (all_not k hlt hw)
          have hr := Hid.mk' (rr_large W len (by rw [hpb0.1]; decide))
          have hpb := Hid.mk' hpb0
          clear hpb0
          have hnw := len_not hw
          clear hw
          by_cases hneg : W k < 0
          all_goals
            go_wp2_with fail
            go_ret2
            refine ⟨?_, HBw.out⟩
            rw [hpb.out.1, hr.out]
            rfl
      · have hkl : k = len := by omega
        have hfo := fill_ok W len hL (all_mk (fun i hi => HO.out i (by omega)))
        have hr := Hid.mk' (rr_ok W len hfo.1)
        have HF := Hid.mk' hfo.1
        have HE : Hid (rwB W len = l) := by
          show _ = _
          rw [hr.out]; rw [hkl] at HS; exact runSt_end HS.out
        have hcs := HB.out.string
        clear hfo
        go_wp2_with fail
        go_ret2
        refine ⟨?_, HBw.out⟩
        rw [HE.out, HF.out]
        rfl
end Go.Proofs.Ytpkidjledgcemaa
