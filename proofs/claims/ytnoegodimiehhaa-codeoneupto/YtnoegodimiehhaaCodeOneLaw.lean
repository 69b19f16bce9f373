/- The law CodeOne, walked. -/
import Derived.Test.YtnoegodimiehhaaRdWalks
import Derived.Test.YtnoegodimiehhaaWriteWalks
import Derived.Test.YtnoegodimiehhaaPackWalks
import Derived.Test.YtnoegodimiehhaaRBitsWalks
import Derived.Test.YtnoegodimiehhaaOneCodeMath
import Derived.Test.YtnoegodimiehhaaWithinWalks
import Derived.Test.YtnoegodimiehhaaEqualInts
import Derived.Deep.RegionHeld3
import Derived.Deep.DrawnRows
namespace Go.Proofs.Ytnoegodimiehhaa
open Go.RowKit

def l01 (i : Nat) : Int := if i = 0 then 0 else 1
theorem read_01 : readE l01 2 ⟨#[1]⟩ 0 1 = 7 := by decide +kernel
theorem wds_01 (w : World) (t : TypeId) : Wds (w.alloc (.cells #[.int .i64 0, .int .i64 1] t)) (some ⟨w.heap.size, 0, none⟩) 2 l01 := by
  refine ⟨by omega, fun _ => ⟨w.heap.size, 0, rfl, by simp, fun i hi => ?_⟩, fun i hi => ?_⟩
  · rw [Nat.zero_add, World.cell?_alloc_new]
    rcases (by omega : i = 0 ∨ i = 1) with rfl | rfl <;> rfl
  · unfold l01; split <;> omega
theorem wds_of_rd {w : World} {ao : Option Addr} {n cap : Nat} {f : Nat → Int} (h : I64s w (.slice ao n cap) n f) (hn : n ≤ 1024) (hB : ∀ i, i < n → -9223372036854775808 ≤ f i ∧ f i ≤ 9223372036854775807) : Wds w ao n f := by
  obtain ⟨ao', cap', hv, hc⟩ := h.is
  cases hv
  exact ⟨by omega, fun hp => by obtain ⟨g, off, h1, h2, h3⟩ := hc hp; exact ⟨g, off, h1, h2, h3⟩, hB⟩
theorem rd_bound (L : Nat → Int) (len : Nat) (s : ByteArray) (n : Nat) (h : readE L len s 0 (n : Int) = 0) (i : Nat) (hi : i < n) : -9223372036854775808 ≤ rdF L len s 0 i ∧ rdF L len s 0 i ≤ 9223372036854775807 := by
  obtain ⟨hc, _, _, _, _, h0⟩ := readE_zero h
  rw [Int.toNat_natCast] at h0
  have h0 : rdE L len s 0 n = 0 := h0
  have h2 := (rdE_pre (rdE_le (k := i + 1) h0 (by omega))).2
  have h3 := (stp_ok h2).1
  have h4 := (canE_ok hc).1
  unfold rdF
  omega
/-- the first e bits of a text, as ints -/
theorem bits_front {w : World} {N n X e : Nat} {v : Value} (h : w.ownsRow N 3 1 v n (bitsC X n)) (he : e ≤ n) : ∃ ao cap, v = .slice ao n cap ∧ n ≤ cap ∧ cap ≤ maxLen ∧ I64s w (.slice ao e cap) e (fun i => ((X / 2 ^ i % 2 : Nat) : Int)) := by
  rcases h.2 with ⟨rfl, rfl⟩ | ⟨g, cap, cur, rfl, _, hg, hc, hm, _, _⟩
  · exact ⟨none, 0, rfl, Nat.le_refl _, Nat.zero_le _, ⟨none, 0, rfl, fun hp => by omega⟩⟩
  · refine ⟨some ⟨g, 0, none⟩, cap, rfl, hc, hm, ⟨_, _, rfl, fun _ => ⟨g, 0, rfl, (Array.getElem?_eq_some_iff.1 hg).1, fun i hi => ?_⟩⟩⟩
    rw [Nat.zero_add, h.cellAt i (by omega)]
    simp [bitsC, show i < n by omega]

attribute [local go_sem] Go.wp_at_zero Go.wp_at_succ
set_option maxRecDepth 20000 in
set_option maxHeartbeats 2000000 in
theorem codeOne_walk (a0 : Option Addr) (len cap : Nat) (L : Nat → Int) (s : ByteArray) (a2 : Int) (w : World) (w0 : Wds w a0 len L) (_b0 : len ≤ 1048576) (_w1 : s.size ≤ maxLen) (_z1 : s.data.toList.length ≤ reachBytes) (hs : s.size ≤ 1048576) (w2 : (Lit.int .i64 a2).wf = true) :
    Calls Try.prog 6 #[.slice a0 len cap, .string s, .int .i64 a2] w fun e w' => e = .returned (.bool true) ∧ Below w.heap.size w w' := by
  have b2 := bounds_i64 w2
  have HP := Hid.mk' w0
  clear w0 _w1 _z1 w2 _b0
  have H01 := Hid.mk' read_01
  go_enter Try.func6, Try.ntmps6
  go_wp2_with fail
  refine (read_any _ 2 2 l01 ⟨#[1]⟩ 0 1 _ (wds_01 w 3) (by decide) (by omega) (by omega)).mono ?_
  rintro e wa ⟨⟨v, rfl, _, _⟩, hb⟩
  rw [H01.out]
  have HBa := Hid.mk' (((Below.refl w.heap.size w).alloc (Nat.le_refl _) _).trans (hb.mono (by simp)))
  clear hb
  go_wp2_with fail
  refine (within_at a2 200 _ b2.1 (by omega) (by decide) (by decide)).mono ?_
  rintro e w' ⟨⟨n, rfl, hn⟩, rfl⟩
  have hn200 : n ≤ 200 := by omega
  clear hn b2
  go_wp2_with fail
  refine (read_any a0 len cap L s 0 (n : Int) _ (wds_below HP.out HBa.out) (by omega) (by omega) (by omega)).mono ?_
  rintro e wb ⟨⟨v1, rfl, hv1, _⟩, hb⟩
  have HBb := Hid.mk' (HBa.out.trans (hb.mono HBa.out.size))
  clear hb
  by_cases hE : readE L len s 0 (n : Int) = 0
  · have HO := Hid.mk' (one_all hn200 hE)
    obtain ⟨t, ht⟩ : ∃ t, Hid (ByteArray.mk (packS n (wrV L len (rdF L len s 0)) (wrW L (rdF L len s 0))).toArray = t) := ⟨_, Hid.mk' rfl⟩
    rw [ht.out] at HO
    have hl : readL L len s 0 (n : Int) = n := by unfold readL; rw [if_pos hE, Int.toNat_natCast]
    have hk : readK L len s 0 (n : Int) = rdA L len s 0 n := by unfold readK; rw [if_pos hE, Int.toNat_natCast]; rfl
    rw [hl] at hv1
    rw [hE, hk]
    obtain ⟨o1, c1, rfl, hx1⟩ := hv1.is
    have HW := Hid.mk' (wds_of_rd hv1 (by omega) (fun i hi => rd_bound L len s n hE i hi))
    clear hv1 hx1 hE hl hk
    obtain ⟨F, hF⟩ : ∃ F, Hid (rdF L len s (Int.toNat 0) = F) := ⟨_, Hid.mk' rfl⟩
    have hF0 : Hid (rdF L len s 0 = F) := hF.out
    rw [hF.out] at HW
    have We := Hid.mk' HO.out.we
    have Wl := Hid.mk' HO.out.wl
    have We2 := Hid.mk' HO.out.pe
    have Sz := Hid.mk' HO.out.sz
    have Bit := Hid.mk' HO.out.bit
    have hle := HO.out.le
    have hend := HO.out.b
    rw [hF0.out] at We Wl We2 ht
    clear HO
    obtain ⟨e, he⟩ : ∃ e, Hid (rdA L len s 0 n = e) := ⟨_, Hid.mk' rfl⟩
    rw [he.out] at hle hend Sz Bit ⊢
    go_wp2_with fail
    refine (write_any a0 len cap L o1 n c1 F _ (wds_below HP.out HBb.out) HW.out).mono ?_
    rintro e' wc ⟨⟨ao2, co2, rfl, _, hp⟩, hb⟩
    rw [Wl.out] at hp
    rw [Wl.out, We.out]
    have HBc := Hid.mk' (HBb.out.trans (hb.mono HBb.out.size))
    have HPc := Hid.mk' hp
    clear hp hb
    have t0 : decide ((e : Int) < 0) = false := decide_eq_false (by omega)
    have t1 : decide (8 * s.size < e) = false := decide_eq_false (by omega)
    have t2 : decide (8 * (s.size : Int) < (e : Int)) = false := decide_eq_false (by omega)
    go_wp2_with fail
    refine (pack_any ao2 n co2 _ _ _ HPc.out).mono ?_
    rintro e' wd ⟨rfl, hb⟩
    rw [We2.out]
    rw [ht.out]
    have HBd := Hid.mk' (HBc.out.trans (hb.mono HBc.out.size))
    have hds := HBd.out.size
    clear hb
    have htb : t.size ≤ 1048576 := by rw [Sz.out]; omega
    have het : e ≤ 8 * t.size := by rw [Sz.out]; omega
    obtain ⟨ts, hts⟩ : ∃ ts, Hid (t.size = ts) := ⟨_, Hid.mk' rfl⟩
    have hq8 : ((e : Int) + 7) / 8 = (ts : Int) := by have h1 := hts.out; have h2 := Sz.out; omega
    have hszt : (t.size : Int) = (ts : Int) := by rw [hts.out]
    have t3 : ((ts : Int) == (ts : Int)) = true := by simp
    have u1 : IntKind.i64.wrap ((e : Int) + 7) = (e : Int) + 7 := by rw [IntKind.wrap_i64]; omega
    have u2 : ((e : Int) + 7).tdiv 8 = (ts : Int) := by rw [Int.tdiv_eq_ediv_of_nonneg (by omega)]; exact hq8
    have u3 : IntKind.i64.wrap (ts : Int) = (ts : Int) := by rw [IntKind.wrap_i64]; have := hts.out; omega
    have GE : Hid (eqI e e (fun i => ((txtN t.data.toList / 2 ^ i % 2 : Nat) : Int)) (fun i => ((txtN s.data.toList / 2 ^ i % 2 : Nat) : Int)) = true) := by
      show _ = _
      unfold eqI
      rw [sameI_of _ _ _ (fun i hi => by rw [Bit.out i hi])]; simp
    have tz0 : ((0 : Int) == 0) = true := rfl
    have e0 : (0 : Int) ≤ (e : Int) := by omega
    have hes : e ≤ 8 * s.size := hle
    clear hle t1 t2
    go_wp2_with fail
    go_region_held3 (fun _ => True) (trivial) (first | (go_at_call 15; refine (rbits_any _ _ (by first | exact htb | exact hs)).mono ?_; rintro e1 we ⟨⟨v1, rfl, ho1⟩, hb1⟩; (first | (have HZ := HI1; obtain ⟨f2, d2, rfl, hd2, hm2, hI2⟩ := bits_front ho1 hes; have HI2 := Hid.mk' hI2; have HB2 := Hid.mk' hb1; have hz2 : (e : Int) ≤ (d2 : Int) := Int.ofNat_le.2 (Nat.le_trans hes hd2); clear ho1 hI2 hb1 hm2 HZ) | (obtain ⟨f1, d1, rfl, hd1, hm1, hI1⟩ := bits_front ho1 het; have hb1' := (Below.refl wd.heap.size wd).drew.trans hb1; have HI1 := Hid.mk' hI1; have HB1 := Hid.mk' hb1'; have hz1 : (e : Int) ≤ (d1 : Int) := Int.ofNat_le.2 (Nat.le_trans het hd1); clear ho1 hI1 hb1 hb1' hm1) | fail)) | (go_at_call 9; refine (equalI_any _ _ e e _ _ _ (by omega) (by omega) (i64s_below HI1.out HB2.out) HI2.out).mono ?_; rintro e3 wg ⟨rfl, q, rfl⟩; rw [GE.out]) | fail)
    all_goals
      have HBx := Hid.mk' (HBd.out.trans (HB1.out.mono HBd.out.size))
      have HBy := Hid.mk' (HBx.out.trans (HB2.out.mono HBx.out.size))
      go_wp2_with fail
      go_ret
      exact ⟨rfl, below_drewN HBy.out q⟩
  · have hl : readL L len s 0 (n : Int) = 0 := by unfold readL; rw [if_neg hE]
    rw [hl] at hv1
    obtain ⟨o1, c1, rfl, _⟩ := hv1.is
    have hne : (readE L len s 0 (n : Int) != 0) = true := by rw [bne_iff_ne]; exact hE
    obtain ⟨y, hy⟩ : ∃ y, Hid (readE L len s 0 (n : Int) = y) := ⟨_, Hid.mk' rfl⟩
    obtain ⟨k, hk⟩ : ∃ y, Hid (readK L len s 0 (n : Int) = y) := ⟨_, Hid.mk' rfl⟩
    rw [hy.out] at hne
    rw [hy.out, hk.out]
    have t2 : ((0 : Int) == 0) = true := rfl
    clear hE hl hv1
    go_wp2_with fail
    go_ret
    exact ⟨rfl, HBb.out⟩
end Go.Proofs.Ytnoegodimiehhaa
