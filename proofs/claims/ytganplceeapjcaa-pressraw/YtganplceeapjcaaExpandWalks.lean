/- What lz.Expand answers. -/
import Derived.Test.YtganplceeapjcaaCheckWalks
import Derived.Test.YtganplceeapjcaaAddWalks
import Derived.Test.YtganplceeapjcaaMks
namespace Go.Proofs.Ytganplceeapjcaa
open Go.RowKit

theorem box_cells (w : World) (x y z : Value) (t : TypeId) : (w.alloc (.cells #[x, y, z] t)).cell? ⟨w.heap.size, 0, none⟩ = some x ∧ (w.alloc (.cells #[x, y, z] t)).cell? ⟨w.heap.size, 1, none⟩ = some y ∧ (w.alloc (.cells #[x, y, z] t)).cell? ⟨w.heap.size, 2, none⟩ = some z := by
  refine ⟨?_, ?_, ?_⟩ <;> (rw [World.cell?_alloc_new]; rfl)

set_option maxRecDepth 20000 in
set_option maxHeartbeats 1000000 in
theorem expand_any (a0 : Option Addr) (len cap : Nat) (M : Nat → Mk) (w : World) (hP : Mks w a0 len M) :
    Calls Try.prog 26 #[.slice a0 len cap] w fun e w' => e = .returned (.tuple #[.string ⟨(exA (mkL M 0 len)).toArray⟩, .int .i64 (exE (mkL M 0 len) [])]) ∧ Below w.heap.size w w' := by
  have hlen := hP.lenB
  have HP := Hid.mk' hP
  clear hP
  go_enter Try.func26, Try.ntmps26
  go_wp2_with fail
  go_loopw [4, 10] (fun ov iv wr => ∃ (k : Nat) (out : List UInt8), k ≤ len ∧ iv = .int .i64 (k : Int) ∧ wr.ownsRow w.heap.size 5 1 ov out.length (cellsB out) ∧ out.length ≤ 512 ∧ exE (mkL M 0 len) [] = exE (mkL M k len) out ∧ exT (mkL M 0 len) [] = exT (mkL M k len) out ∧ Below w.heap.size w wr) (fun _ iv _ => len - (intOf iv).toNat)
  case atStart => exact ⟨0, [], Nat.zero_le _, rfl, World.ownsRow_nil _ _ _ _, by simp, rfl, rfl, Below.refl _ _⟩
  case round =>
    obtain ⟨k, out, hk, rfl, hown, hol, hE, hT, hbl⟩ := hrel
    have HO := Hid.mk' hown
    have HE := Hid.mk' hE
    have HT := Hid.mk' hT
    have HB := Hid.mk' hbl
    have hsz := hbl.size
    obtain ⟨ao, cp, rfl⟩ := own_slice' hown
    clear hown hE hT hbl
    by_cases hlt : k < len
    · obtain ⟨b, off, rfl, hb, hc⟩ := HP.out.at' (by omega)
      have c0 := (HB.out.cell (p := ⟨b, off + k * 3, none⟩) hb).trans (hc k hlt).1
      have c1 := (HB.out.cell (p := ⟨b, off + k * 3 + 1, none⟩) hb).trans (hc k hlt).2.1
      have c2 := (HB.out.cell (p := ⟨b, off + k * 3 + 2, none⟩) hb).trans (hc k hlt).2.2
      have hby := HP.out.bB k hlt
      have hlb := HP.out.lB k hlt
      have hdb := HP.out.dB k hlt
      have hcons := Hid.mk' (mkL_cons M k len hlt)
      obtain ⟨m, hm⟩ : ∃ m, Hid (M k = m) := ⟨_, Hid.mk' rfl⟩
      rw [hm.out] at c0 c1 c2 hby hlb hdb hcons
      clear hc
      obtain ⟨x, y, z⟩ := m
      simp only at c0 c1 c2 hby hlb hdb
      obtain ⟨hl1, hl2⟩ := hlb
      obtain ⟨hd1, hd2⟩ := hdb
      have hbc := box_cells wr (.int .i64 x) (.int .i64 y) (.int .u8 (z : Int)) 53
      obtain ⟨W1, hW1⟩ : ∃ W1, Hid (wr.alloc (.cells #[.int .i64 x, .int .i64 y, .int .u8 (z : Int)] 53) = W1) := ⟨_, Hid.mk' rfl⟩
      rw [hW1.out] at hbc
      have HB1 : Hid (Below w.heap.size w W1) := by rw [← hW1.out]; exact HB.out.alloc hsz _
      have HO1 : Hid (W1.ownsRow w.heap.size 5 1 (.slice ao out.length cp) out.length (cellsB out)) := by rw [← hW1.out]; exact HO.out.alloc _
      have hs1 : W1.heap.size = wr.heap.size + 1 := by rw [← hW1.out]; simp
      obtain ⟨b0, b1, b2⟩ := hbc
      go_wp2_with fail
      rw [hW1.out]
      go_wp2_with fail
      refine (check_any x y z _).mono ?_
      rintro e w2 ⟨rfl, hb2⟩
      have d0 := (hb2.cell (p := ⟨wr.heap.size, 0, none⟩) (by show wr.heap.size < _; omega)).trans b0
      have d1 := (hb2.cell (p := ⟨wr.heap.size, 1, none⟩) (by show wr.heap.size < _; omega)).trans b1
      have d2 := (hb2.cell (p := ⟨wr.heap.size, 2, none⟩) (by show wr.heap.size < _; omega)).trans b2
      have HB2 := Hid.mk' (HB1.out.trans (hb2.mono (by have := HB1.out.size; omega)))
      have HO2 := Hid.mk' (own_below HO1.out hb2)
      have hs2 := hb2.size
      clear b0 b1 b2 hb2 c0 c1 c2
      cases hok : okM ⟨x, y, z⟩ with
      | false =>
        have hc4 : chkM ⟨x, y, z⟩ = 4 := by unfold chkM; rw [hok]; rfl
        have hfe : Hid (exE (mkL M 0 len) [] = 4) := by show _ = _; rw [HE.out, hcons.out]; exact exE_form _ _ _ hok
        have hfa := Hid.mk' (exA_bad _ _ hfe.out (by decide))
        rw [hc4]
        clear hok hc4
        go_wp2_with fail
        go_ret2
        refine ⟨?_, HB2.out⟩
        rw [hfe.out, hfa.out]
        rfl
      | true =>
        have hc0 : chkM ⟨x, y, z⟩ = 0 := by unfold chkM; rw [hok]; rfl
        have HK := Hid.mk' hok
        rw [hc0]
        clear hok hc0
        by_cases hd : (out.length : Int) < y
        · have hfe : Hid (exE (mkL M 0 len) [] = 8) := by show _ = _; rw [HE.out, hcons.out]; exact exE_dist _ _ _ HK.out hd
          have hfa := Hid.mk' (exA_bad _ _ hfe.out (by decide))
          go_wp2_with fail
          go_ret2
          refine ⟨?_, HB2.out⟩
          rw [hfe.out, hfa.out]
          rfl
        · have hyl : y ≤ out.length := by omega
          clear hd
          go_wp2_with fail
          refine (size_any x y z _ HK.out).mono ?_
          rintro e w3 ⟨rfl, hb3⟩
          have f0 := (hb3.cell (p := ⟨wr.heap.size, 0, none⟩) (by show wr.heap.size < _; omega)).trans d0
          have f1 := (hb3.cell (p := ⟨wr.heap.size, 1, none⟩) (by show wr.heap.size < _; omega)).trans d1
          have f2 := (hb3.cell (p := ⟨wr.heap.size, 2, none⟩) (by show wr.heap.size < _; omega)).trans d2
          have HB3 := Hid.mk' (HB2.out.trans (hb3.mono (by have := HB2.out.size; omega)))
          have HO3 := Hid.mk' (own_below HO2.out hb3)
          have hs3 := hb3.size
          clear d0 d1 d2 hb3
          obtain ⟨n, hn⟩ : ∃ n, Hid (szM ⟨x, y, z⟩ = n) := ⟨_, Hid.mk' rfl⟩
          have hn66 : n ≤ 66 := by
            rw [← hn.out]
            have := okM_of HK.out
            unfold szM
            simp only at this ⊢
            split <;> omega
          rw [hn.out]
          by_cases hlg : 512 < out.length + n
          · have tl : decide (512 < out.length + n) = true := decide_eq_true hlg
            have hfe : Hid (exE (mkL M 0 len) [] = 2) := by show _ = _; rw [HE.out, hcons.out]; exact exE_large _ _ _ HK.out (Int.not_lt.2 hyl) (by rw [hn.out]; exact hlg)
            have hfa := Hid.mk' (exA_bad _ _ hfe.out (by decide))
            go_wp2_with fail
            go_ret2
            refine ⟨?_, HB3.out⟩
            rw [hfe.out, hfa.out]
            rfl
          · have tl : decide (512 < out.length + n) = false := decide_eq_false hlg
            have HE6 : Hid (exE (mkL M 0 len) [] = exE (mkL M (k + 1) len) (addM out ⟨x, y, z⟩)) := by show _ = _; rw [HE.out, hcons.out]; exact exE_step _ _ _ HK.out (Int.not_lt.2 hyl) (by rw [hn.out]; exact hlg)
            have HT6 : Hid (exT (mkL M 0 len) [] = exT (mkL M (k + 1) len) (addM out ⟨x, y, z⟩)) := by show _ = _; rw [HT.out, hcons.out, exT]
            have HL6 : Hid ((addM out ⟨x, y, z⟩).length ≤ 512) := by show _ ≤ _; rw [addM_len, hn.out]; omega
            go_wp2_with fail
            refine (add_any w.heap.size w _ out x y z _ HO3.out HB3.out (by omega) HK.out hyl (by rw [hn.out]; omega) hby).mono ?_
            rintro e w4 ⟨⟨v4, rfl, hown4⟩, hb4⟩
            have HO4 := Hid.mk' hown4
            have HB4 := Hid.mk' hb4
            clear hown4 hb4
            go_wp2_with fail
            go_roundw
            case rel => exact ⟨k + 1, addM out ⟨x, y, z⟩, by omega, by go_num, HO4.out, HL6.out, HE6.out, HT6.out, HB4.out⟩
            case measure => simp [intOf]; omega
    · have hkl : k = len := by omega
      have hfe : Hid (exE (mkL M 0 len) [] = 0) := by show _ = _; rw [HE.out, hkl, mkL_end]; rfl
      have hfa : Hid (exA (mkL M 0 len) = out) := by show _ = _; rw [exA_ok _ hfe.out, HT.out, hkl, mkL_end]; rfl
      have hcs := own_string HO.out
      clear hkl
      go_wp2_with fail
      go_ret2
      refine ⟨?_, HB.out⟩
      rw [hfe.out, hfa.out]
      rfl
end Go.Proofs.Ytganplceeapjcaa
