/- What press.readBook answers. -/
import Derived.Test.YtganplceeapjcaaPReadWalks
import Derived.Test.YtganplceeapjcaaBookWalks
import Derived.Test.YtganplceeapjcaaRunsReadWalks
import Derived.Test.YtganplceeapjcaaRunsBackMath
namespace Go.Proofs.Ytganplceeapjcaa
open Go.RowKit

theorem rdL_le {s : List UInt8} (h : rdRE s = 0) : ∀ y ∈ rdRL s, y ≤ 15 := by
  obtain ⟨h1, _⟩ := rdR_ok s h
  rw [h1]
  have hr : rrE (getA s) (s.drop (getK s)) 0 none = 0 := by
    unfold rdRE at h
    split at h
    · split at h
      · omega
      · exact h
    · rename_i h0
      exact absurd h h0
  exact (rr_one _ _ _ _ hr).2.2.1
theorem wds_runs {w : World} {v : Value} {s : List UInt8} (h : I64s w v (rdRL s).length (fun i => ((rdRL s).getD i 0 : Nat))) (h0 : rdRE s = 0) : ∃ ao cap, v = .slice ao (rdRL s).length cap ∧ Wds w ao (rdRL s).length (rowQ (rdRL s)) := by
  obtain ⟨ao, cap, hv, hc⟩ := h.is
  refine ⟨ao, cap, hv, by have := rdL_len s; omega, fun hp => ?_, fun i hi => ?_⟩
  · obtain ⟨g, off, h1, h2, h3⟩ := hc hp
    exact ⟨g, off, h1, h2, h3⟩
  · have := rdL_le h0 _ (List.getElem_mem hi)
    unfold rowQ
    rw [List.getD_eq_getElem?_getD, List.getElem?_eq_getElem hi, Option.getD_some]
    omega
theorem rdE_is (s : List UInt8) (w : Int) (h : rdRE s = w) (hw : w ≠ 0) (n : Nat) : rbk s n = none := by
  unfold rbk; rw [if_neg (fun hh => hw (h ▸ hh.1))]
def BkAns (w : World) (s : ByteArray) (n : Nat) (p : Option Addr) (t : ByteArray) (ok : Bool) : Prop :=
  (ok = true ∧ ∃ l g, rbk s.data.toList n = some (l, t.data.toList) ∧ p = some ⟨g, 0, none⟩ ∧ BookOf w g (rowQ l) n ∧ t.size ≤ s.size) ∨ (ok = false ∧ rbk s.data.toList n = none)

set_option maxRecDepth 20000 in
set_option maxHeartbeats 1000000 in
theorem pbook_any (s : ByteArray) (n : Nat) (w : World) (hs : s.size ≤ 140737488355328) :
    Calls Try.prog 24 #[.string s, .int .i64 (n : Int)] w fun e w' => (∃ p t ok, e = .returned (.tuple #[.pointer p, .string t, .bool ok]) ∧ BkAns w' s n p t ok) ∧ Below w.heap.size w w' := by
  by_cases h0 : rdRE s.data.toList = 0
  · have H0 := Hid.mk' h0
    by_cases hl : (rdRL s.data.toList).length = n
    · have hk : rdRN s.data.toList ≤ s.size := by
        have := (runs_one h0).2.1
        rwa [show s.data.toList.length = s.size by simp] at this
      obtain ⟨k, hk'⟩ : ∃ k, Hid (rdRN s.data.toList = k) := ⟨_, Hid.mk' rfl⟩
      rw [hk'.out] at hk
      have HL := Hid.mk' hl
      have tl : ((n : Int) != (n : Int)) = false := by simp
      have hq0 : (0 : Int) ≤ (k : Int) := by omega
      have hq1 : (k : Int) ≤ (s.size : Int) := by omega
      have hqb : k ≤ 9223372036854775807 := by omega
      clear h0 hl
      go_enter Try.func24, Try.ntmps24
      go_wp2_with fail
      refine (rread_any s _ hs).mono ?_
      rintro e w1 ⟨⟨v, rfl, hI, _, _⟩, hb1⟩
      obtain ⟨ao, cap, rfl, hW⟩ := wds_runs hI H0.out
      rw [HL.out] at hW ⊢
      rw [H0.out, hk'.out]
      have HW := Hid.mk' hW
      have HB1 := Hid.mk' hb1
      clear hI hW hb1
      go_wp2_with fail
      refine (book_any ao n cap _ _ HW.out).mono ?_
      rintro e w2 ⟨⟨p, rfl, hp⟩, hb2⟩
      have HPp := Hid.mk' hp
      have HB2 : Hid (Below w.heap.size w w2) := HB1.out.trans (hb2.mono HB1.out.size)
      have his := canE_is (rowQ (rdRL s.data.toList)) n
      clear hp hb2
      obtain ⟨x, hx⟩ : ∃ x, Hid (canE (rowQ (rdRL s.data.toList)) n = x) := ⟨_, Hid.mk' rfl⟩
      rw [hx.out] at his ⊢
      go_wp2_with fail
      go_quiet (fail)
      go_wp2_with fail
      go_ret3
      refine ⟨⟨p, s.extract k s.size, x == 0, rfl, ?_⟩, HB2.out.trans (below_dP _ _)⟩
      by_cases hx0 : x = 0
      · have hx' : canE (rowQ (rdRL s.data.toList)) n = 0 := by rw [hx.out, hx0]
        obtain ⟨g, hg, hbk⟩ := HPp.out hx'
        refine .inl ⟨by rw [hx0]; rfl, rdRL s.data.toList, g, ?_, hg, hbk.below (below_dP _ _), by rw [ext_sizeQ]; omega⟩
        unfold rbk
        rw [if_pos ⟨H0.out, HL.out, hx'⟩, ext_listQ, hk'.out]
      · refine .inr ⟨by rw [beq_eq_false_iff_ne]; exact hx0, ?_⟩
        unfold rbk
        rw [if_neg (fun hh => hx0 (by rw [← hx.out]; exact hh.2.2))]
    · have HN : Hid (rbk s.data.toList n = none) := by
        show _ = _
        unfold rbk; rw [if_neg (fun hh => hl hh.2.1)]
      have hlb := rdL_len s.data.toList
      obtain ⟨m, hm⟩ : ∃ m, Hid ((rdRL s.data.toList).length = m) := ⟨_, Hid.mk' rfl⟩
      rw [hm.out] at hl hlb
      have tl : ((m : Int) != (n : Int)) = true := by rw [bne_iff_ne]; omega
      clear h0 hl
      go_enter Try.func24, Try.ntmps24
      go_wp2_with fail
      refine (rread_any s _ hs).mono ?_
      rintro e w1 ⟨⟨v, rfl, hI, _, _⟩, hb1⟩
      obtain ⟨ao, cap, rfl, hW⟩ := wds_runs hI H0.out
      rw [hm.out]
      rw [H0.out]
      generalize rdRN s.data.toList = k
      clear hI hW
      go_wp2_with fail
      go_ret3
      exact ⟨⟨_, _, false, rfl, .inr ⟨rfl, HN.out⟩⟩, hb1⟩
  · have HN := Hid.mk' (rdE_is s.data.toList _ rfl h0 n)
    have hne : (rdRE s.data.toList != 0) = true := by rw [bne_iff_ne]; exact h0
    obtain ⟨x, hx⟩ : ∃ x, Hid (rdRE s.data.toList = x) := ⟨_, Hid.mk' rfl⟩
    rw [hx.out] at hne h0
    clear h0
    go_enter Try.func24, Try.ntmps24
    go_wp2_with fail
    refine (rread_any s _ hs).mono ?_
    rintro e w1 ⟨⟨v, rfl, _, _, _⟩, hb1⟩
    rw [hx.out]
    generalize rdRN s.data.toList = k
    go_wp2_with fail
    go_ret3
    exact ⟨⟨_, _, false, rfl, .inr ⟨rfl, HN.out⟩⟩, hb1⟩
end Go.Proofs.Ytganplceeapjcaa
