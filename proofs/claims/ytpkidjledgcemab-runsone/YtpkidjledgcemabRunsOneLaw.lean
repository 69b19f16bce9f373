/- The law RunsOne, walked. -/
import Derived.Test.YtpkidjledgcemabRunsWriteWalks
import Derived.Test.YtpkidjledgcemabRunsReadWalks
import Derived.Test.YtpkidjledgcemabRunsBackMath
import Derived.Test.YtpkidjledgcemabEqualInts
import Derived.SizedLaws
namespace Go.Proofs.Ytpkidjledgcemab
open Go.RowKit

def w33 (_ : Nat) : Int := 3
theorem get_one : getE [2, 49] = 0 ∧ getA [2, 49] = 2 ∧ getK [2, 49] = 1 := by decide
theorem known33 : rdRE (ByteArray.mk #[2, 49]).data.toList = 0 ∧ rdRN (ByteArray.mk #[2, 49]).data.toList = 2 ∧ rdRL (ByteArray.mk #[2, 49]).data.toList = [3, 3] := by
  show rdRE [2, 49] = 0 ∧ rdRN [2, 49] = 2 ∧ rdRL [2, 49] = [3, 3]
  obtain ⟨g1, g2, g3⟩ := get_one
  have h : rdRE [2, 49] = 0 := by rw [rdR_run _ g1 (by rw [g2]; omega), g2, g3]; decide
  have ho := rdR_ok _ h
  rw [g2, g3] at ho
  exact ⟨h, by rw [ho.2]; decide, by rw [ho.1]; decide⟩
theorem i64s33 (w : World) (t : TypeId) : I64s (w.alloc (.cells #[.int .i64 3, .int .i64 3] t)) (.slice (some ⟨w.heap.size, 0, none⟩) 2 2) 2 w33 := by
  refine ⟨_, _, rfl, fun _ => ⟨w.heap.size, 0, rfl, by simp, fun i hi => ?_⟩⟩
  rw [Nat.zero_add, World.cell?_alloc_new]
  rcases (by omega : i = 0 ∨ i = 1) with rfl | rfl <;> rfl
theorem cut_isB (s : ByteArray) (k : Nat) : ByteArray.mk (s.data.toList.take k).toArray = s.extract 0 k := by
  apply bytes_ext
  rw [ByteArray.data_extract]; simp
/-- what is answered has room for what it holds -/
theorem row_wds {w : World} {v : Value} {l : List Nat} (h : I64s w v l.length (fun i => (l.getD i 0 : Nat))) (hl : l.length ≤ 320) (hm : ∀ y ∈ l, y ≤ 15) : ∃ ao cap, v = .slice ao l.length cap ∧ Wds w ao l.length (rowL l) := by
  obtain ⟨ao, cap, hv, hc⟩ := h.is
  refine ⟨ao, cap, hv, by omega, hc, fun i hi => ?_⟩
  unfold rowL
  have : l.getD i 0 ≤ 15 := by
    rw [List.getD_eq_getElem?_getD, List.getElem?_eq_getElem hi]
    exact hm _ (List.getElem_mem hi)
  omega
theorem rdL_mem {s : List UInt8} (h : rdRE s = 0) : ∀ y ∈ rdRL s, y ≤ 15 := by
  obtain ⟨h1, _, _⟩ := runs_one h
  intro y hy
  obtain ⟨i, hi, rfl⟩ := List.getElem_of_mem hy
  have := len_of ((fill_good h1).2 i hi)
  unfold rowL at this
  rw [List.getD_eq_getElem?_getD, List.getElem?_eq_getElem hi] at this
  have h2 := this.2
  simp only [Option.getD_some] at h2
  omega

set_option maxRecDepth 20000 in
set_option maxHeartbeats 1000000 in
theorem runsOne_walk (a0 : ByteArray) (w : World) (_w0 : a0.size ≤ maxLen) (z0 : a0.data.toList.length ≤ reachBytes) :
    Calls Try.prog 7 #[.string a0] w fun e w' => e = .returned (.bool true) ∧ Below w.heap.size w w' := by
  have hlen : Hid (a0.data.toList.length = a0.size) := by show _ = _; rw [Array.length_toList]; rfl
  have hsz : a0.size ≤ 140737488355328 := by
    have e := hlen.out
    have := reachBytes_lt
    omega
  have hkn := Hid.mk' known33
  go_enter Try.func7, Try.ntmps7
  go_wp2_with fail
  refine (rread_any _ _ (by decide)).mono ?_
  rintro e w1 ⟨⟨v1, rfl, hI1, _, hcap1⟩, hb1⟩
  rw [hkn.out.1, hkn.out.2.1]
  rw [hkn.out.2.2] at hI1
  have HI1 := Hid.mk' hI1
  have HB1 := Hid.mk' hb1
  clear hI1 hb1 hcap1
  obtain ⟨w2, hw2⟩ : ∃ w2, Hid (w1.alloc (.cells #[.int .i64 3, .int .i64 3] 3) = w2) := ⟨_, Hid.mk' rfl⟩
  have HB12 : Hid (Below w1.heap.size w1 w2) := by rw [← hw2.out]; exact (Below.refl _ _).alloc (Nat.le_refl _) _
  have HB2 := Hid.mk' (HB1.out.trans (HB12.out.mono HB1.out.size))
  have HJ : Hid (I64s w2 (.slice (some ⟨w1.heap.size, 0, none⟩) 2 2) 2 w33) := by rw [← hw2.out]; exact i64s33 w1 _
  have HI2 := Hid.mk' (i64s_below HI1.out HB12.out)
  go_wp2_with fail
  rw [hw2.out]
  refine (equalI_any v1 _ 2 2 _ w33 _ (by omega) (by omega) HI2.out HJ.out).mono ?_
  rintro e w3 ⟨rfl, q, rfl⟩
  rw [show eqI 2 2 (fun i => (([3, 3] : List Nat).getD i 0 : Nat)) w33 = true by decide]
  go_wp2_with fail
  refine (rread_any a0 _ hsz).mono ?_
  rintro e w4 ⟨⟨v, rfl, hI, hnil, hcap⟩, hb⟩
  have HB4 := Hid.mk' ((below_drewN HB2.out q).trans (hb.mono (below_drewN HB2.out q).size))
  clear hb
  by_cases hE : rdRE a0.data.toList = 0
  · have h1 := runs_one hE
    obtain ⟨ao, cp, rfl, hw⟩ := row_wds hI (rdL_len _) (rdL_mem hE)
    obtain ⟨ao', cp', hv, hc1, hc2⟩ := hcap
    simp only [Value.slice.injEq] at hv
    obtain ⟨rfl, _, rfl⟩ := hv
    have HW := Hid.mk' hw
    have HC : Hid ((rdRL a0.data.toList).length ≤ cp ∧ cp ≤ maxLen) := ⟨hc1, hc2⟩
    have H1 := Hid.mk' h1
    have hnl := rdL_len a0.data.toList
    rw [hE]
    obtain ⟨L, eL⟩ : ∃ L, Hid (rdRL a0.data.toList = L) := ⟨_, Hid.mk' rfl⟩
    obtain ⟨k, ek⟩ : ∃ k, Hid (rdRN a0.data.toList = k) := ⟨_, Hid.mk' rfl⟩
    rw [eL.out] at HW HC H1 hnl
    rw [ek.out] at H1
    rw [ek.out, eL.out]
    have hks : k ≤ a0.size := by have := H1.out.2.1; rw [hlen.out] at this; exact this
    clear h1 hI hnil hw hc1 hc2 hE
    go_wp2_with fail
    refine (rwrite_any ao L.length cp (rowL L) _ HW.out HC.out).mono ?_
    rintro e w5 ⟨rfl, hb⟩
    have HB5 := Hid.mk' (HB4.out.trans (hb.mono HB4.out.size))
    clear hb
    rw [H1.out.1, H1.out.2.2, cut_isB]
    have t4 : (k : Int) ≤ a0.size := by omega
    have t2 : decide ((k : Int) ≤ a0.size) = true := decide_eq_true (by omega)
    go_wp2_with fail
    go_ret
    exact ⟨rfl, HB5.out⟩
  · have hv := hnil hE
    have hr := Hid.mk' (rdR_bad _ _ rfl hE)
    have hne : (rdRE a0.data.toList != 0) = true := by rw [bne_iff_ne]; exact hE
    obtain ⟨z, ez⟩ : ∃ z, Hid (rdRE a0.data.toList = z) := ⟨_, Hid.mk' rfl⟩
    rw [hr.out.2, ez.out]
    rw [ez.out] at hne
    clear hE hnil hI hcap
    subst hv
    go_wp2_with fail
    go_ret
    exact ⟨rfl, HB4.out⟩
end Go.Proofs.Ytpkidjledgcemab
