import Derived.Test.YtcalbicfnhoklaaDoorSignsWalks
import Derived.Test.YtcalbicfnhoklaaDoorHLensWalks
import Derived.Test.YtcalbicfnhoklaaDoorMsat
import Derived.Test.YtcalbicfnhoklaaDoorRunsWriteWalks
import Derived.Test.YtcalbicfnhoklaaDoorWriteWalks

/- What press.encode answers. -/
namespace Go.Proofs.YtcalbicfnhoklaaDoor
open Go.RowKit

/-- lengths that serve -/
structure EncOk (l : List Nat) (N : Nat) (T : Nat → Nat) : Prop where
  can : canE (fun i => (T i : Int)) N = 0
  fill : fillE (fun i => (T i : Int)) N = 0
  has : ∀ s ∈ l, 1 ≤ T s
  out : ∀ i, i < N → i ∉ l → T i = 0
  le : ∀ i, i < N → T i ≤ 15
  hi : ∀ i, N ≤ i → T i = 0
def rowS (l : List Nat) (i : Nat) : Int := ((l.getD i 0 : Nat) : Int)
theorem cnt_freq (l : List Nat) (N : Nat) (hN : N ≤ 320) (hl : l.length ≤ 512) : freqE (fun i => ((l.count i : Nat) : Int)) N = 0 := by
  refine freqE_mk (by omega) fun i hi => ?_
  have := List.count_le_length (a := i) (l := l)
  omega
theorem cnt_lens (l : List Nat) (N : Nat) (hN : N ≤ 320) (hl : l.length ≤ 512) : lensE (fun i => ((l.count i : Nat) : Int)) N 15 = 0 := by
  have h := cmL_len (fun i => ((l.count i : Nat) : Int)) N
  have := lensE_ok (m := 15) (cnt_freq l N hN hl) (by omega) (by omega)
  exact this
theorem enc_ok {l : List Nat} {N : Nat} {T : Nat → Nat} (hN : N ≤ 320) (hs : ∀ s ∈ l, s < N) (h : LnOk (fun i => ((l.count i : Nat) : Int)) N 15 T) (hhi : ∀ i, N ≤ i → T i = 0) : EncOk l N T := by
  obtain ⟨h1, h2⟩ := h.lens (by omega) hN
  obtain ⟨_, _, h3⟩ := fillE_zero _ _ h1
  refine ⟨(can_ok _ _ h1 (by rw [← h3]; exact h2)).1, h1, fun s hm => ?_, fun i hi hm => h.out i hi ?_, h.le (by omega), hhi⟩
  · have hc : 0 < l.count s := List.count_pos_iff.2 hm
    exact (h.lo s (hs s hm) (by show (0 : Int) < ((l.count s : Nat) : Int); omega)).1
  · have hc : l.count i = 0 := List.count_eq_zero.2 hm
    show ((l.count i : Nat) : Int) ≤ 0
    omega
/-- lengths of no sign are none -/
theorem ln_norm {F : Nat → Int} {N m : Nat} {T : Nat → Nat} (h : LnOk F N m T) : LnOk F N m (fun i => if i < N then T i else 0) := by
  refine ⟨fun i hi hf => by rw [if_pos hi]; exact h.out i hi hf, ?_⟩
  have e : ((cmL F N).map fun i => ((F i).toNat, (if i < N then T i else 0))) = (cmL F N).map fun i => ((F i).toNat, T i) := by
    refine List.map_congr_left fun i hi => ?_
    have : i < N := List.mem_range.1 (List.mem_filter.1 hi).1
    rw [if_pos this]
  rw [e]
  exact h.best
theorem enc_all {l : List Nat} {N : Nat} {T : Nat → Nat} (hs : ∀ s ∈ l, s < N) (h : EncOk l N T) : wrE (fun i => (T i : Int)) N (rowS l) l.length = 0 ∧ wrL (fun i => (T i : Int)) N (rowS l) l.length = l.length := by
  refine wr_ok h.can (allS_mk fun i hi => ?_)
  have hm := List.getElem_mem hi
  have e : rowS l i = ((l[i] : Nat) : Int) := by unfold rowS; rw [List.getD_eq_getElem?_getD, List.getElem?_eq_getElem hi]; rfl
  have h1 := h.has _ hm
  have h2 := hs _ hm
  unfold sgnB
  refine decide_eq_true ⟨by rw [e]; omega, by rw [e]; omega, ?_⟩
  rw [e, Int.toNat_natCast]
  show ((T l[i] : Nat) : Int) ≠ 0
  omega
theorem wds_count {w : World} {g N : Nat} {l : List Nat} (h : Row64 w g N (fun i => ((l.count i : Nat) : Int))) (hN : N ≤ 320) (hl : l.length ≤ 512) : Wds w (some ⟨g, 0, none⟩) N (fun i => ((l.count i : Nat) : Int)) :=
  ⟨by omega, fun _ => ⟨g, 0, rfl, h.lt, fun i hi => by rw [Nat.zero_add]; exact h.cell i hi⟩, fun i hi => by have := List.count_le_length (a := i) (l := l); omega⟩

set_option maxRecDepth 20000 in
set_option maxHeartbeats 1000000 in
theorem encode_any (a0 : Option Addr) (n cap : Nat) (l : List Nat) (N : Nat) (w : World) (hn : l.length = n) (hn5 : n ≤ 512) (hN : N ≤ 320) (hP : Wds w a0 n (rowS l)) (hs : ∀ s ∈ l, s < N) :
    Calls Tryd.prog 24 #[.slice a0 n cap, .int .i64 (N : Int)] w fun e w' => (∃ T ao co, e = .returned (.tuple #[.string ⟨(rwB (fun i => (T i : Int)) N).toArray⟩, .slice ao n co]) ∧ EncOk l N T ∧ Pcs w' ao n (wrV (fun i => (T i : Int)) N (rowS l)) (wrW (fun i => (T i : Int)) (rowS l))) ∧ Below w.heap.size w w' := by
  have HP := Hid.mk' hP
  have HS := Hid.mk' hs
  have HN := Hid.mk' hn
  have hmk := fun w => run_make_row' (P := Tryd.prog) 50 3 (.int .i64 0) 8 Tryd.underlying50 infoI64 rfl .i64 .i64 N (by omega) (by omega) w
  clear hP hs hn
  go_enter Tryd.func24, Tryd.ntmps24
  go_wp2_with fail
  clear hmk
  go_loopw [19] (fun iv wr => ∃ k : Nat, k ≤ n ∧ iv = .int .i64 (k : Int) ∧ Row64 wr w.heap.size N (fun i => (((l.take k).count i : Nat) : Int)) ∧ Below w.heap.size w wr) (fun iv _ => n - (intOf iv).toNat)
  case atStart => exact ⟨0, Nat.zero_le _, rfl, (row64_made w N 3).congr fun i hi => by simp, (Below.refl _ _).alloc (Nat.le_refl _) _⟩
  case round =>
    obtain ⟨k, hk, rfl, hrow, hbl⟩ := hrel
    have HR := Hid.mk' hrow
    have HB := Hid.mk' hbl
    clear hrow hbl
    by_cases hlt : k < n
    · obtain ⟨b0, off0, rfl, hb0, hc0⟩ := HP.out.at' (by omega)
      have c0 := (HB.out.cell (p := ⟨b0, off0 + k, none⟩) hb0).trans (hc0 k hlt)
      have hkl : k < l.length := by rw [HN.out]; exact hlt
      have hm := HS.out _ (List.getElem_mem hkl)
      obtain ⟨x, hx⟩ : ∃ x, Hid (l[k] = x) := ⟨_, Hid.mk' rfl⟩
      have e : rowS l k = (x : Int) := by unfold rowS; rw [List.getD_eq_getElem?_getD, List.getElem?_eq_getElem hkl, hx.out]; rfl
      rw [e] at c0
      rw [hx.out] at hm
      clear hc0 e
      have htk : Hid (l.take (k + 1) = l.take k ++ [x]) := by show _ = _; rw [List.take_succ_eq_append_getElem hkl, hx.out]
      have c1 := HR.out.cell x hm
      have f1 := HR.out.open' x hm
      have hcb := List.count_le_length (a := x) (l := l.take k)
      rw [List.length_take] at hcb
      obtain ⟨c, hc⟩ : ∃ c, Hid ((l.take k).count x = c) := ⟨_, Hid.mk' rfl⟩
      rw [hc.out] at c1 hcb
      have HR2 := Hid.mk' (HR.out.set x hm ((c + 1 : Nat) : Int))
      have ec : IntKind.i64.wrap ((c : Int) + 1) = ((c + 1 : Nat) : Int) := by rw [IntKind.wrap_i64]; omega
      obtain ⟨d, hd⟩ : ∃ d, Hid (c + 1 = d) := ⟨_, Hid.mk' rfl⟩
      rw [hd.out] at HR2 ec
      go_wp2_with fail
      go_roundw
      case rel =>
        refine ⟨k + 1, hlt, by go_num, HR2.out.congr fun i hi => ?_, HB.out.setCell (p := ⟨w.heap.size, x, none⟩) (Nat.le_refl _) _⟩
        rw [htk.out, List.count_append, List.count_singleton]
        by_cases h : i = x
        · subst h
          rw [if_pos rfl, hc.out]
          simp [← hd.out]
        · rw [if_neg h, if_neg (by simp; exact fun h2 => h h2.symm), Nat.add_zero]
      case measure => simp [intOf]; omega
    · have hkn : Hid (l.take k = l) := by show _ = _; exact List.take_of_length_le (by rw [HN.out]; omega)
      rw [hkn.out] at HR
      have hl5 : l.length ≤ 512 := by rw [HN.out]; exact hn5
      have HW := Hid.mk' (wds_count HR.out hN hl5)
      have HLe := Hid.mk' (cnt_lens l N hN hl5)
      go_wp2_with fail
      refine (hlens_any (some ⟨w.heap.size, 0, none⟩) N N _ 15 _ HW.out (by omega)).mono ?_
      rintro e w1 ⟨⟨v, rfl, hans⟩, hb1⟩
      rcases hans with ⟨hne, _⟩ | ⟨_, T0, g, rfl, hg, hrow0, hok0⟩
      · exact absurd HLe.out hne
      · have hok := ln_norm hok0
        have hrow : Row64 w1 g N (fun i => ((if i < N then T0 i else 0 : Nat) : Int)) := hrow0.congr fun i hi => by rw [if_pos hi]
        have hhi : ∀ i, N ≤ i → (if i < N then T0 i else 0) = 0 := fun i hi => if_neg (by omega)
        obtain ⟨T, hT'⟩ : ∃ T : Nat → Nat, (fun i => if i < N then T0 i else 0) = T := ⟨_, rfl⟩
        have hT2 : ∀ i, (if i < N then T0 i else 0) = T i := fun i => by rw [← hT']
        rw [hT'] at hok
        simp only [hT2] at hrow hhi
        clear hrow0 hok0
        have HB1 : Hid (Below w.heap.size w w1) := HB.out.trans (hb1.mono HB.out.size)
        have HEn := Hid.mk' (enc_ok hN HS.out hok hhi)
        rw [HLe.out]
        have HWT : Hid (Wds w1 (some ⟨g, 0, none⟩) N (fun i => (T i : Int))) := ⟨by omega, fun _ => ⟨g, 0, rfl, hrow.lt, fun i hi => by rw [Nat.zero_add]; exact hrow.cell i hi⟩, fun i hi => by have := HEn.out.le i hi; omega⟩
        have HPs : Hid (Wds w1 a0 n (rowS l)) := wds_below HP.out HB1.out
        clear hrow hok hb1 hT' hT2 hhi T0
        go_wp2_with fail
        refine (rwrite_any (some ⟨g, 0, none⟩) N N _ _ HWT.out ⟨Nat.le_refl _, by unfold maxLen; omega⟩).mono ?_
        rintro e w2 ⟨rfl, hb2⟩
        have HB2 : Hid (Below w.heap.size w w2) := HB1.out.trans (hb2.mono HB1.out.size)
        have HWT2 := Hid.mk' (wds_below HWT.out hb2)
        have HPs2 : Hid (Wds w2 a0 n (rowS l)) := wds_below HPs.out hb2
        clear hb2
        obtain ⟨tx, htx⟩ : ∃ t : ByteArray, Hid ((⟨(rwB (fun i => (T i : Int)) N).toArray⟩ : ByteArray) = t) := ⟨_, Hid.mk' rfl⟩
        rw [htx.out, HEn.out.fill]
        have HAll := Hid.mk' (enc_all HS.out HEn.out)
        rw [HN.out] at HAll
        go_wp2_with fail
        refine (write_any (some ⟨g, 0, none⟩) N N _ a0 n cap (rowS l) _ HWT2.out HPs2.out).mono ?_
        rintro e w3 ⟨⟨ao, co, rfl, _, hPc⟩, hb3⟩
        have HB3 : Hid (Below w.heap.size w w3) := HB2.out.trans (hb3.mono HB2.out.size)
        rw [HAll.out.2] at hPc ⊢
        rw [HAll.out.1]
        have HPc := Hid.mk' hPc
        clear hPc hb3
        go_wp2_with fail
        go_ret2
        exact ⟨⟨T, ao, co, by rw [htx.out]; rfl, HEn.out, HPc.out⟩, HB3.out⟩
end Go.Proofs.YtcalbicfnhoklaaDoor
