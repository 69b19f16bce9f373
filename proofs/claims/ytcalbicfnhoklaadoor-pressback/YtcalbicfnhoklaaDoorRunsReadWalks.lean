import Derived.Test.YtcalbicfnhoklaaDoorGetWalks
import Derived.Test.YtcalbicfnhoklaaDoorMsad
import Derived.Test.YtcalbicfnhoklaaDoorRepeatWalks
import Derived.Test.YtcalbicfnhoklaaDoorMsag
import Derived.Deep.QuietTactic
import Derived.BigQuiet

/- What runs.Read answers. -/
namespace Go.Proofs.YtcalbicfnhoklaaDoor
open Go.RowKit

def natC (l : List Nat) : List Value := l.map fun i : Nat => .int .i64 (i : Int)
theorem natC_length (l : List Nat) : (natC l).length = l.length := by simp [natC]
theorem natC_append (l m : List Nat) : natC (l ++ m) = natC l ++ natC m := by simp [natC]
theorem natC_rep (n x : Nat) : natC (List.replicate n x) = cellsC (fun _ => (x : Int)) n := by
  apply List.ext_getElem
  · simp [natC, cellsC]
  · intro i h1 h2; simp [natC, cellsC]
theorem i64s_of_natC {w : World} {N n : Nat} {v : Value} {l : List Nat} (h : w.ownsRow N 3 1 v n (natC l)) (hn : l.length = n) : I64s w v n (fun i => (l.getD i 0 : Nat)) := by
  rcases h.2 with ⟨rfl, rfl⟩ | ⟨g, cap, cur, rfl, _, hg, _, _, _, hx⟩
  · exact i64s_nil _ _
  · refine ⟨some ⟨g, 0, none⟩, cap, rfl, fun _ => ⟨g, 0, rfl, (Array.getElem?_eq_some_iff.1 hg).1, fun i hi => ?_⟩⟩
    rw [Nat.zero_add, h.cellAt i (by omega)]
    simp [natC, List.getElem?_eq_getElem (show i < l.length by omega), List.getD_eq_getElem?_getD]
theorem make_row (n : Nat) (hn : n ≤ 320) (w : World) :
    (Instr.makeSlice 50 (.int .i64 0) (.int .u64 (n : Int))).run Tryd.prog w = .ok (.slice (some ⟨w.heap.size, 0, none⟩) 0 n) (w.alloc (.cells (madeCells #[.int .i64 0] n) 3)) := by
  obtain ⟨i, hi, hzz⟩ := Option.map_eq_some_iff.1 infoI64
  simp only [Prod.mk.injEq] at hzz
  obtain ⟨hz, hs, hb⟩ := hzz
  have hr := run_make (P := Tryd.prog) w 50 3 i _ Tryd.underlying50 hi hz .i64 .u64 0 n (by omega) (by omega) (by rw [hb]; omega) (by omega)
  rw [Int.toNat_natCast, hs, Nat.mul_one] at hr
  exact hr
theorem getK_le (s : List UInt8) (h : getE s = 0) : getK s ≤ s.length ∧ 0 < getK s := by
  by_cases hl : lead s 9 = s.length
  · rw [(get_short s hl).1] at h; exact absurd h (by decide)
  · have hle : ∀ (l : List UInt8) (f : Nat), lead l f ≤ l.length := by
      intro l
      induction l with
      | nil => intro f; simp [lead]
      | cons b l ih =>
        intro f
        cases f with
        | zero => simp [lead]
        | succ f =>
          rw [lead]; split
          · omega
          · have := ih f; simp only [List.length_cons]; omega
    have := hle s 9
    unfold getK
    rw [if_pos h]; omega
theorem cell_newR (w : World) (v : Value) (t : TypeId) : (w.alloc (.cells #[v] t)).cell? ⟨w.heap.size, 0, none⟩ = some v := by rw [World.cell?_alloc_new]; rfl
theorem news_row {w : World} {g n : Nat} {f : Nat → Int} (h : Row64 w g n f) : ∀ j u, (cellsC f n)[j]? = some u → w.cell? ((⟨g, 0, none⟩ : Addr).add j) = some u := by
  intro j u hj
  have hlt : j < n := by have h1 := (List.getElem?_eq_some_iff.1 hj).1; rwa [cellsC_length] at h1
  rw [cellsC_at _ _ _ hlt] at hj
  rw [add_plainC, Nat.zero_add, h.cell j hlt]; exact hj
/-- a slice with room for what it holds -/
def CapOk (v : Value) (n : Nat) : Prop := ∃ ao cap, v = .slice ao n cap ∧ n ≤ cap ∧ cap ≤ maxLen
theorem cap_nil : CapOk (.slice none 0 0) 0 := ⟨none, 0, rfl, Nat.le_refl _, Nat.zero_le _⟩
theorem cap_own {w : World} {base n size : Nat} {e : TypeId} {v : Value} {xs : List Value} (h : w.ownsRow base e size v n xs) : CapOk v n := by
  rcases h.2 with ⟨rfl, rfl⟩ | ⟨g, cap, cur, rfl, _, _, h1, h2, _⟩
  · exact cap_nil
  · exact ⟨_, cap, rfl, h1, h2⟩
theorem own_dR {w : World} {base n size : Nat} {e : TypeId} {v : Value} {xs : List Value} (h : w.ownsRow base e size v n xs) (q : Nat) : (w.drewN q).ownsRow base e size v n xs := h
theorem drewN_add2 (w : World) (q r : Nat) : (w.drewN q).drewN r = w.drewN (q + r) := by simp [World.drewN, Nat.add_assoc]
theorem below_dR {B : Nat} {a w : World} (h : Below B a w) (q : Nat) : Below B a (w.drewN q) := ⟨h.os, h.tape, h.output, h.size, h.block⟩

set_option maxRecDepth 20000 in
set_option maxHeartbeats 1600000 in
theorem rread_any (s : ByteArray) (w : World) (hsz : s.size ≤ 140737488355328) :
    Calls Tryd.prog 60 #[.string s] w fun e w' => (∃ v, e = .returned (.tuple #[v, .int .i64 (rdRN s.data.toList : Nat), .int .i64 (rdRE s.data.toList)]) ∧ I64s w' v (rdRL s.data.toList).length (fun i => ((rdRL s.data.toList).getD i 0 : Nat)) ∧ (rdRE s.data.toList ≠ 0 → v = .slice none 0 0) ∧ CapOk v (rdRL s.data.toList).length) ∧ Below w.heap.size w w' := by
  have hlen : Hid (s.data.toList.length = s.size) := by show _ = _; rw [Array.length_toList]; rfl
  obtain ⟨i0, hi, hz0, hz1, hz2⟩ := info_parts infoI64
  have KI := Hid.mk' hi
  have KZ0 := Hid.mk' hz0
  have KZ1 := Hid.mk' hz1
  have KZ2 := Hid.mk' hz2
  clear hi hz0 hz1 hz2
  by_cases hE : getE s.data.toList = 0
  · have HE := Hid.mk' hE
    have hkl := getK_le _ hE
    rw [hlen.out] at hkl
    by_cases hA : 320 < getA s.data.toList
    · have hr := Hid.mk' (rdR_large _ hE hA)
      obtain ⟨x, ex⟩ : ∃ t, Hid (getA s.data.toList = t) := ⟨_, Hid.mk' rfl⟩
      obtain ⟨y, ey⟩ : ∃ t, Hid (getK s.data.toList = t) := ⟨_, Hid.mk' rfl⟩
      rw [ex.out] at hA
      rw [ey.out] at hkl
      clear hE
      go_enter Tryd.func60, Tryd.ntmps60
      go_wp2_with fail
      refine (get_any _ _).mono ?_
      rintro e w ⟨rfl, rfl⟩
      rw [ex.out, ey.out, HE.out]
      go_wp2_with fail
      go_ret3
      rw [hr.out.1, hr.out.2.1, hr.out.2.2]
      exact ⟨⟨_, rfl, i64s_nil _ _, fun _ => rfl, cap_nil⟩, Below.refl _ _⟩
    · have hr := Hid.mk' (rdR_run _ hE hA)
      obtain ⟨c, ec⟩ : ∃ t, Hid (getA s.data.toList = t) := ⟨_, Hid.mk' rfl⟩
      obtain ⟨k, ek⟩ : ∃ t, Hid (getK s.data.toList = t) := ⟨_, Hid.mk' rfl⟩
      rw [ec.out] at hA hr
      rw [ek.out] at hkl hr
      have hst0 : Hid (RdSt s.data.toList c k k 0 [] none) := rdst_start _ _ _ (by rw [hlen.out]; exact hkl.1)
      have hk0 := hkl.2
      have hks := hkl.1
      clear hE hkl
      have hmk := make_row c (by omega) w
      obtain ⟨w1, hw1⟩ : ∃ w1, Hid (w.alloc (.cells (madeCells #[.int .i64 0] c) 3) = w1) := ⟨_, Hid.mk' rfl⟩
      have HO0 : Hid (w1.ownsRow w.heap.size 3 1 (.slice (some ⟨w.heap.size, 0, none⟩) 0 c) 0 []) := by
        rw [← hw1.out]
        exact World.ownsRow_made w (madeCells #[.int .i64 0] c) c (Nat.le_refl _) (by unfold maxLen; omega) (by simp [madeCells])
      have HB0 : Hid (Below w.heap.size w w1) := by rw [← hw1.out]; exact (Below.refl _ _).alloc (Nat.le_refl _) _
      rw [hw1.out] at hmk
      go_enter Tryd.func60, Tryd.ntmps60
      go_wp2_with fail
      refine (get_any _ _).mono ?_
      rintro e wx ⟨rfl, hwx⟩
      subst hwx
      rw [ec.out, ek.out, HE.out]
      go_wp2_with fail
      clear hmk
      go_loopw [6, 8, 9] (fun av lv ov wr => ∃ (p m : Nat) (acc : List Nat) (pv : Option UInt8), av = .int .i64 (p : Int) ∧ RdSt s.data.toList c k p m acc pv ∧ wr.ownsRow wx.heap.size 3 1 lv m (natC acc) ∧ ov = .bool (decide (k < p) && decide ((s.data.toList.getD (p - 1) 0).toNat % 16 < 15)) ∧ Below wx.heap.size wx wr) (fun av _ _ _ => s.size - (intOf av).toNat)
      case atStart => exact ⟨k, 0, [], none, rfl, hst0.out, HO0.out, by simp, HB0.out⟩
      case round =>
        obtain ⟨p, m, acc, pv, rfl, hst, hown, rfl, hbl⟩ := hrel
        have HS := Hid.mk' hst
        have HO := Hid.mk' hown
        have HB := Hid.mk' hbl
        have hsz2 := hbl.size
        have hmc := hst.le
        have hps := hst.ps
        rw [hlen.out] at hps
        obtain ⟨ao, cp, rfl⟩ := own_slice' hown
        clear hst hown hbl
        obtain ⟨ob, hob⟩ : ∃ ob, Hid ((decide (k < p) && decide ((s.data.toList.getD (p - 1) 0).toNat % 16 < 15)) = ob) := ⟨_, Hid.mk' rfl⟩
        rw [hob.out]
        by_cases hm : m < c
        · by_cases hp : p < s.size
          · have hgd := Hid.mk' (getD_byteN s p hp)
            have hb256 := s[p].toNat_lt
            obtain ⟨q, hq⟩ : ∃ q, s[p].toNat / 16 = q := ⟨_, rfl⟩
            obtain ⟨r, hr2⟩ : ∃ r, s[p].toNat % 16 = r := ⟨_, rfl⟩
            have x1 : ((s[p].toNat : Nat) : Int) / 16 = (q : Int) := by omega
            have x2 : ((s[p].toNat : Nat) : Int) % 16 = (r : Int) := by omega
            have hp' : Hid (p < s.data.toList.length) := by rw [hlen.out]; exact hp
            have hr15 : r ≤ 15 := by omega
            have hq15 : q ≤ 15 := by omega
            have HQ := Hid.mk' hq
            have HRm := Hid.mk' hr2
            have teq : ((p : Int) == (s.size : Int)) = false := by rw [beq_eq_false_iff_ne]; omega
            have tm : decide (m < c) = true := decide_eq_true hm
            have hbad := Hid.mk' (HS.out.bad)
            obtain ⟨n, hn⟩ : ∃ n, r + 1 = n := ⟨_, rfl⟩
            have x3 : (r : Int) + 1 = (n : Int) := by omega
            have hn16 : n ≤ 16 := by omega
            have hn1 : 1 ≤ n := by omega
            have HN := Hid.mk' hn
            clear hq hr2 hn
            by_cases hover : c < m + n
            · have hfin := HS.out.form hp'.out (by omega) (.inr (by have h8 := hgd.out; have h9 := HRm.out; have h7 := HN.out; omega))
              have hfe := Hid.mk' (hr.out.trans hfin)
              have hfl := Hid.mk' (rdR_bad _ _ hfe.out (by decide))
              have tv : decide (c < m + n) = true := decide_eq_true hover
              clear hfin
              go_wp2_with fail
              go_quiet (fail)
              go_wp2_with fail
              go_ret3
              rw [hfe.out, hfl.out.1, hfl.out.2]
              exact ⟨⟨_, rfl, i64s_nil _ _, fun _ => rfl, cap_nil⟩, below_dR HB.out _⟩
            · have tv : decide (c < m + n) = false := decide_eq_false hover
              have hstep : Hid (badR pv (s.data.toList.getD p 0) = false → RdSt s.data.toList c k (p + 1) (m + n) (acc ++ List.replicate n q) (some (s.data.toList.getD p 0))) := fun hb => by
                have h8 := hgd.out; have h9 := HRm.out; have h7 := HN.out; have h6 := HQ.out
                have := HS.out.step hp'.out (by omega) (by rw [hb]; rintro (h | h); cases h; omega)
                rw [show (s.data.toList.getD p 0).toNat % 16 + 1 = n by omega, show (s.data.toList.getD p 0).toNat / 16 = q by omega] at this
                exact this
              have HOb : Hid ((decide (k < p + 1) && decide ((s.data.toList.getD (p + 1 - 1) 0).toNat % 16 < 15)) = decide ((n : Int) < 16)) := by
                show _ = _
                have h8 := hgd.out; have h9 := HRm.out; have h7 := HN.out; have hkp := HS.out.kp
                rw [show p + 1 - 1 = p by omega, decide_eq_true (show k < p + 1 by omega), Bool.true_and]
                apply decide_eq_decide.2
                omega
              cases ob with
              | false =>
                have HS6 := Hid.mk' (hstep.out (by
                  cases hbd : badR pv (s.data.toList.getD p 0) with
                  | false => rfl
                  | true =>
                    have := hbad.out.1 hbd
                    have h0 := hob.out
                    rw [decide_eq_true this.1, decide_eq_true this.2.2] at h0
                    exact h0))
                go_wp2_with fail
                go_quiet (fail)
                go_wp2_with fail
                refine (repeat_one wr.heap.size 0 (q : Int) n _ hn1 hn16 (cell_newR (wr.drewN _) _ _) (by simp)).mono ?_
                rintro e w5 ⟨⟨g5, cp5, rfl, hg5, hrow5⟩, hb5⟩
                have HO5 : Hid (w5.ownsRow wx.heap.size 3 1 (.slice ao m cp) m (natC acc)) := own_below ((own_dR HO.out _).alloc _) hb5
                have HR5 := Hid.mk' hrow5
                have HB5 : Hid (Below wx.heap.size wx w5) := ((below_dR HB.out _).alloc (by simp; omega) _).trans (hb5.mono (by simp; omega))
                have hs5 := HB5.out.size
                clear hrow5 hb5 hg5
                go_wp2_with (at_builtin; refine wpList_append_own _ rfl (.tmp 65) (.tmp 69) 50 rfl wx.heap.size 3 i0 (.int .i64 0) 1 8 Tryd.underlying50 KI.out KZ0.out KZ1.out KZ2.out rfl (by decide) (.slice ao m cp) _ _ rfl HO5.out ⟨g5, 0, none⟩ n cp5 (cellsC (fun _ => (q : Int)) n) rfl (by rw [cellsC_length, Nat.mul_one]) (news_row HR5.out) (cellsC_one _ _) (by unfold maxLen; omega) (by omega) (by omega) ?_; intro v6 w6 hown6 hgrow6 _)
                have HO6 : Hid (w6.ownsRow wx.heap.size 3 1 v6 (m + n) (natC (acc ++ List.replicate n q))) := by rw [natC_append, natC_rep]; exact hown6
                have HB6 : Hid (Below wx.heap.size wx w6) := HB5.out.grown hgrow6 hs5 fun i hi => (HO5.out.lt i hi).1
                clear hown6 hgrow6
                go_wp2_with fail
                go_roundw
                case rel => exact ⟨p + 1, m + n, _, _, by go_num, HS6.out, HO6.out, by rw [HOb.out], HB6.out⟩
                case measure => simp [intOf]; omega
              | true =>
                have hob2 : k < p ∧ (s.data.toList.getD (p - 1) 0).toNat % 16 < 15 := by
                  have := hob.out
                  rw [Bool.and_eq_true, decide_eq_true_eq, decide_eq_true_eq] at this
                  exact this
                obtain ⟨_, hm0, hlast⟩ := HS.out.so hob2.1
                obtain ⟨y, hy⟩ : ∃ y, (s.data.toList.getD (p - 1) 0).toNat / 16 = y := ⟨_, rfl⟩
                have HBY : Hid (badR pv (s.data.toList.getD p 0) = true ↔ y = q) := by
                  have h8 := hgd.out; have h6 := HQ.out
                  show _ ↔ _
                  rw [hbad.out, hy, show (s.data.toList.getD p 0).toNat / 16 = q by omega]
                  exact ⟨fun h => h.2.1, fun h => ⟨hob2.1, h, hob2.2⟩⟩
                have hyb : y ≤ 15 := by have := (s.data.toList.getD (p - 1) 0).toNat_lt; omega
                rw [hy] at hlast
                obtain ⟨g, cp', hv, hgb, hgl, hcl⟩ := own_some HO.out hm0
                simp only [Value.slice.injEq] at hv
                obtain ⟨rfl, _, rfl⟩ := hv
                obtain ⟨m', hm'⟩ : ∃ m', m - 1 = m' := ⟨_, rfl⟩
                have cl := hcl m' (.int .i64 (y : Int)) (by
                  have hal := HS.out.len
                  unfold natC
                  rw [List.getElem?_map, ← hm', ← hlast, List.getD_eq_getElem?_getD, List.getElem?_eq_getElem (by omega)]; rfl)
                rw [add_plainC, Nat.zero_add] at cl
                have x4 : (m : Int) - 1 = (m' : Int) := by omega
                have hm'l : m' < m := by omega
                clear hcl hob2 hlast hy hm'
                by_cases hyq : y = q
                · have tyq : ((q : Int) == (y : Int)) = true := by rw [beq_iff_eq]; omega
                  have hfe := Hid.mk' (hr.out.trans (HS.out.form hp'.out (by omega) (.inl (HBY.out.2 hyq))))
                  have hfl := Hid.mk' (rdR_bad _ _ hfe.out (by decide))
                  clear hyq
                  go_wp2_with fail
                  go_quiet (fail)
                  go_wp2_with fail
                  go_ret3
                  rw [hfe.out, hfl.out.1, hfl.out.2]
                  exact ⟨⟨_, rfl, i64s_nil _ _, fun _ => rfl, cap_nil⟩, below_dR HB.out _⟩
                · have tyq : ((q : Int) == (y : Int)) = false := by rw [beq_eq_false_iff_ne]; omega
                  have HS6 := Hid.mk' (hstep.out (by
                    cases hbd : badR pv (s.data.toList.getD p 0) with
                    | false => rfl
                    | true => exact absurd (HBY.out.1 hbd) hyq))
                  clear hyq
                  go_wp2_with fail
                  go_quiet (fail)
                  go_wp2_with fail
                  refine (repeat_one wr.heap.size 0 (q : Int) n _ hn1 hn16 (cell_newR (wr.drewN _) _ _) (by simp)).mono ?_
                  rintro e w5 ⟨⟨g5, cp5, rfl, hg5, hrow5⟩, hb5⟩
                  have HO5 : Hid (w5.ownsRow wx.heap.size 3 1 (.slice (some ⟨g, 0, none⟩) m cp) m (natC acc)) := own_below ((own_dR HO.out _).alloc _) hb5
                  have HR5 := Hid.mk' hrow5
                  have HB5 : Hid (Below wx.heap.size wx w5) := ((below_dR HB.out _).alloc (by simp; omega) _).trans (hb5.mono (by simp; omega))
                  have hs5 := HB5.out.size
                  clear hrow5 hb5 hg5
                  go_wp2_with (at_builtin; refine wpList_append_own _ rfl (.tmp 65) (.tmp 69) 50 rfl wx.heap.size 3 i0 (.int .i64 0) 1 8 Tryd.underlying50 KI.out KZ0.out KZ1.out KZ2.out rfl (by decide) (.slice (some ⟨g, 0, none⟩) m cp) _ _ rfl HO5.out ⟨g5, 0, none⟩ n cp5 (cellsC (fun _ => (q : Int)) n) rfl (by rw [cellsC_length, Nat.mul_one]) (news_row HR5.out) (cellsC_one _ _) (by unfold maxLen; omega) (by omega) (by omega) ?_; intro v6 w6 hown6 hgrow6 _)
                  have HO6 : Hid (w6.ownsRow wx.heap.size 3 1 v6 (m + n) (natC (acc ++ List.replicate n q))) := by rw [natC_append, natC_rep]; exact hown6
                  have HB6 : Hid (Below wx.heap.size wx w6) := HB5.out.grown hgrow6 hs5 fun i hi => (HO5.out.lt i hi).1
                  clear hown6 hgrow6
                  go_wp2_with fail
                  go_roundw
                  case rel => exact ⟨p + 1, m + n, _, _, by go_num, HS6.out, HO6.out, by rw [HOb.out], HB6.out⟩
                  case measure => simp [intOf]; omega
          · have hpe : p = s.size := by omega
            have teq : ((p : Int) == (s.size : Int)) = true := by rw [beq_iff_eq]; omega
            have hfe := Hid.mk' (hr.out.trans (HS.out.short (by rw [hlen.out]; exact hpe) (by omega)))
            have hfl := Hid.mk' (rdR_bad _ _ hfe.out (by decide))
            have tm : decide (m < c) = true := decide_eq_true hm
            clear hpe
            go_wp2_with fail
            go_ret3
            rw [hfe.out, hfl.out.1, hfl.out.2]
            exact ⟨⟨_, rfl, i64s_nil _ _, fun _ => rfl, cap_nil⟩, HB.out⟩
        · have hmc2 : m = c := by omega
          subst hmc2
          have hd := HS.out.done
          have hfe := Hid.mk' (hr.out.trans hd.1)
          have hfl : Hid (rdRL s.data.toList = acc ∧ rdRN s.data.toList = p) := by
            have := rdR_ok _ hfe.out
            rw [ec.out, ek.out, hd.2.1, hd.2.2] at this
            exact this
          have hal := Hid.mk' HS.out.len
          have tm : decide (m < m) = false := decide_eq_false (by omega)
          clear hd
          go_wp2_with fail
          go_ret3
          rw [hfe.out, hfl.out.1, hfl.out.2]
          exact ⟨⟨_, rfl, by rw [hal.out]; exact i64s_of_natC HO.out hal.out, fun h => absurd rfl h, by rw [hal.out]; exact cap_own HO.out⟩, HB.out⟩
  · have hr := Hid.mk' (rdR_get _ hE)
    obtain ⟨z, ez⟩ : ∃ t, Hid (getE s.data.toList = t) := ⟨_, Hid.mk' rfl⟩
    rw [ez.out] at hE hr
    have hne : (z != 0) = true := by rw [bne_iff_ne]; exact hE
    clear hE
    go_enter Tryd.func60, Tryd.ntmps60
    go_wp2_with fail
    refine (get_any _ _).mono ?_
    rintro e w ⟨rfl, rfl⟩
    rw [ez.out]
    go_wp2_with fail
    go_ret3
    rw [hr.out.1, hr.out.2.1, hr.out.2.2]
    exact ⟨⟨_, rfl, i64s_nil _ _, fun _ => rfl, cap_nil⟩, Below.refl _ _⟩
end Go.Proofs.YtcalbicfnhoklaaDoor
