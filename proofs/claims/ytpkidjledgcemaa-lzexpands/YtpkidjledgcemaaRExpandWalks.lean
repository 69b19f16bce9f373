/- What linenref.Expand answers: what lz.Expand does. -/
import Derived.Test.YtpkidjledgcemaaRMarkWalks
import Derived.Test.YtpkidjledgcemaaOneText
import Derived.Test.YtpkidjledgcemaaMks
import Derived.Deep.QuietTactic
import Derived.BigQuiet
namespace Go.Proofs.Ytpkidjledgcemaa
open Go.RowKit

theorem one_is2 (q : Nat) (h : q < 256) : strOfNums [(q : Int)] = ⟨[UInt8.ofNat q].toArray⟩ := by
  have := one_cat q []
  rw [show (q : Int) % 256 = q by omega] at this
  rw [← this]
  apply bytes_ext
  rw [ByteArray.data_append, Array.toList_append]
  simp
theorem box_cells2 (w : World) (x y z : Value) (t : TypeId) : (w.alloc (.cells #[x, y, z] t)).cell? ⟨w.heap.size, 0, none⟩ = some x ∧ (w.alloc (.cells #[x, y, z] t)).cell? ⟨w.heap.size, 1, none⟩ = some y ∧ (w.alloc (.cells #[x, y, z] t)).cell? ⟨w.heap.size, 2, none⟩ = some z := by
  refine ⟨?_, ?_, ?_⟩ <;> (rw [World.cell?_alloc_new]; rfl)
theorem ext_list (s : ByteArray) (a b : Nat) : (s.extract a b).data.toList = (s.data.toList.take b).drop a := by
  rw [ByteArray.data_extract, List.drop_take]; simp
theorem sz_list (s : ByteArray) : s.data.toList.length = s.size := by rw [Array.length_toList]; rfl
/-- one byte of the end, again and again -/
theorem ext_one (s f : ByteArray) (d r : Nat) (hd : d ≤ s.size) (hf : s.extract (s.size - d) s.size = f) (hr : r < d) : (f.extract r (r + 1)).data.toList = [s.data.toList.getD (s.size - d + r) 0] := by
  rw [ext_list, ← hf, ext_list]
  have hl := sz_list s
  apply List.ext_getElem
  · simp [hl]; omega
  · intro i h1 h2
    have : i = 0 := by simp at h2; omega
    subst this
    simp [List.getD_eq_getElem?_getD]
    rw [Array.getElem?_eq_getElem (by show s.size - d + r < s.size; omega)]
    rfl
theorem below_dE {B : Nat} {a w : World} (h : Below B a w) (q : Nat) : Below B a (w.drewN q) := ⟨h.os, h.tape, h.output, h.size, h.block⟩

set_option maxRecDepth 20000 in
set_option maxHeartbeats 1600000 in
theorem rexpand_any (a0 : Option Addr) (len cap : Nat) (M : Nat → Mk) (w : World) (hP : Mks w a0 len M) :
    Calls Try.prog 20 #[.slice a0 len cap] w fun e w' => e = .returned (.tuple #[.string ⟨(exA (mkL M 0 len)).toArray⟩, .int .i64 (exE (mkL M 0 len) [])]) ∧ Below w.heap.size w w' := by
  have hlen := hP.lenB
  have HP := Hid.mk' hP
  clear hP
  go_enter Try.func20, Try.ntmps20
  go_wp2_with fail
  go_loopw [4, 13] (fun ov iv wr => ∃ (k : Nat) (O : ByteArray), k ≤ len ∧ iv = .int .i64 (k : Int) ∧ ov = .string O ∧ O.size ≤ 512 ∧ exE (mkL M 0 len) [] = exE (mkL M k len) O.data.toList ∧ exT (mkL M 0 len) [] = exT (mkL M k len) O.data.toList ∧ Below w.heap.size w wr) (fun _ iv _ => len - (intOf iv).toNat)
  case atStart => exact ⟨0, ⟨#[]⟩, Nat.zero_le _, rfl, rfl, by decide, rfl, rfl, Below.refl _ _⟩
  case round =>
    obtain ⟨k, O, hk, rfl, rfl, hol, hE, hT, hbl⟩ := hrel
    have HE := Hid.mk' hE
    have HT := Hid.mk' hT
    have HB := Hid.mk' hbl
    have hsz := hbl.size
    have HL := Hid.mk' (sz_list O)
    clear hE hT hbl
    by_cases hlt : k < len
    · obtain ⟨b, off, rfl, hb, hc⟩ := HP.out.at' (by omega)
      have c0 := (HB.out.cell (p := ⟨b, off + k * 3, none⟩) hb).trans (hc k hlt).1
      have c1 := (HB.out.cell (p := ⟨b, off + k * 3 + 1, none⟩) hb).trans (hc k hlt).2.1
      have c2 := (HB.out.cell (p := ⟨b, off + k * 3 + 2, none⟩) hb).trans (hc k hlt).2.2
      have hby := HP.out.bB k hlt
      have hlb := HP.out.lB k hlt
      have hdb := HP.out.dB k hlt
      have hcons := Hid.mk' (mkL_cons M k len hlt)
      obtain ⟨m, hm⟩ : ∃ m, Hid (M k = m) := ⟨_, Hid.mk' rfl⟩
      rw [hm.out] at c0 c1 c2 hby hlb hdb hcons
      clear hc
      obtain ⟨x, y, z⟩ := m
      simp only at c0 c1 c2 hby hlb hdb
      obtain ⟨hl1, hl2⟩ := hlb
      obtain ⟨hd1, hd2⟩ := hdb
      have hbc := box_cells2 wr (.int .i64 x) (.int .i64 y) (.int .u8 (z : Int)) 41
      obtain ⟨W1, hW1⟩ : ∃ W1, Hid (wr.alloc (.cells #[.int .i64 x, .int .i64 y, .int .u8 (z : Int)] 41) = W1) := ⟨_, Hid.mk' rfl⟩
      rw [hW1.out] at hbc
      have HB1 : Hid (Below w.heap.size w W1) := by rw [← hW1.out]; exact HB.out.alloc hsz _
      have hs1 : W1.heap.size = wr.heap.size + 1 := by rw [← hW1.out]; simp
      obtain ⟨b0, b1, b2⟩ := hbc
      go_wp2_with fail
      rw [hW1.out]
      go_wp2_with fail
      refine (rmark_any x y z _).mono ?_
      rintro e w2 ⟨rfl, hb2⟩
      have d0 := (hb2.cell (p := ⟨wr.heap.size, 0, none⟩) (by show wr.heap.size < _; omega)).trans b0
      have d1 := (hb2.cell (p := ⟨wr.heap.size, 1, none⟩) (by show wr.heap.size < _; omega)).trans b1
      have d2 := (hb2.cell (p := ⟨wr.heap.size, 2, none⟩) (by show wr.heap.size < _; omega)).trans b2
      have HB2 := Hid.mk' (HB1.out.trans (hb2.mono (by have := HB1.out.size; omega)))
      have hs2 := hb2.size
      clear b0 b1 b2 hb2 c0 c1 c2
      cases hok : okM ⟨x, y, z⟩ with
      | false =>
        have hc4 : chkM ⟨x, y, z⟩ = 4 := by unfold chkM; rw [hok]; rfl
        have hfe : Hid (exE (mkL M 0 len) [] = 4) := by show _ = _; rw [HE.out, hcons.out]; exact exE_form _ _ _ hok
        have hfa := Hid.mk' (exA_bad _ _ hfe.out (by decide))
        rw [hc4]
        clear hok hc4
        go_wp2_with fail
        go_ret2
        refine ⟨?_, HB2.out⟩
        rw [hfe.out, hfa.out]
        rfl
      | true =>
        have hc0 : chkM ⟨x, y, z⟩ = 0 := by unfold chkM; rw [hok]; rfl
        have HK := Hid.mk' hok
        rw [hc0]
        clear hok hc0
        by_cases hd : (O.size : Int) < y
        · have hfe : Hid (exE (mkL M 0 len) [] = 8) := by show _ = _; rw [HE.out, hcons.out]; exact exE_dist _ _ _ HK.out (by rw [HL.out]; exact hd)
          have hfa := Hid.mk' (exA_bad _ _ hfe.out (by decide))
          go_wp2_with fail
          go_ret2
          refine ⟨?_, HB2.out⟩
          rw [hfe.out, hfa.out]
          rfl
        · have hyl : y ≤ O.size := by omega
          have HY : Hid (¬ (O.data.toList.length : Int) < y) := by rw [HL.out]; exact hd
          have HE6 : Hid (¬ 512 < O.data.toList.length + szM ⟨x, y, z⟩ → exE (mkL M 0 len) [] = exE (mkL M (k + 1) len) (addM O.data.toList ⟨x, y, z⟩)) := fun h => by rw [HE.out, hcons.out]; exact exE_step _ _ _ HK.out HY.out h
          have HE7 : Hid (512 < O.data.toList.length + szM ⟨x, y, z⟩ → exE (mkL M 0 len) [] = 2) := fun h => by rw [HE.out, hcons.out]; exact exE_large _ _ _ HK.out HY.out h
          have HT6 : Hid (exT (mkL M 0 len) [] = exT (mkL M (k + 1) len) (addM O.data.toList ⟨x, y, z⟩)) := by show _ = _; rw [HT.out, hcons.out, exT]
          clear hd
          have hoi := one_is2 z hby
          have hcv := one_string_at (z : Int)
          rw [hoi] at hcv
          have ho := okM_of HK.out
          simp only at ho
          clear hoi
          have hba : Hid (Below w2.heap.size w2 (w2.alloc (.cells #[.int .u8 (z : Int)] 5))) := (Below.refl _ _).alloc (Nat.le_refl _) _
          have g0 := (hba.out.cell (p := ⟨wr.heap.size, 0, none⟩) (by show wr.heap.size < _; omega)).trans d0
          have g1 := (hba.out.cell (p := ⟨wr.heap.size, 1, none⟩) (by show wr.heap.size < _; omega)).trans d1
          by_cases hx0 : x = 0
          · subst hx0
            have hadd : Hid (addM O.data.toList ⟨0, y, z⟩ = (O ++ (⟨[UInt8.ofNat z].toArray⟩ : ByteArray)).data.toList ∧ szM ⟨0, y, z⟩ = 1) := by
              refine ⟨?_, rfl⟩
              unfold addM
              rw [if_pos rfl, ByteArray.data_append, Array.toList_append]
            have hs1z : (⟨[UInt8.ofNat z].toArray⟩ : ByteArray).size = 1 := rfl
            generalize (⟨[UInt8.ofNat z].toArray⟩ : ByteArray) = T at *
            have hOT : (O ++ T).size = O.size + 1 := by rw [ByteArray.size_append, hs1z]
            obtain ⟨O2, hO2⟩ : ∃ O2, Hid (O ++ T = O2) := ⟨_, Hid.mk' rfl⟩
            rw [hO2.out] at hOT hadd
            clear ho
            by_cases hlg : 512 < O.size + 1
            · have tl : decide (512 < O.size + 1) = true := decide_eq_true hlg
              have hfe := Hid.mk' (HE7.out (by rw [HL.out, hadd.out.2]; exact hlg))
              have hfa := Hid.mk' (exA_bad _ _ hfe.out (by decide))
              go_wp2_with fail
              go_ret2
              refine ⟨?_, HB2.out.alloc (by omega) _⟩
              rw [hfe.out, hfa.out]
              rfl
            · have tl : decide (512 < O.size + 1) = false := decide_eq_false hlg
              have HE8 := Hid.mk' (HE6.out (by rw [HL.out, hadd.out.2]; exact hlg))
              rw [hadd.out.1] at HE8 HT6
              go_wp2_with fail
              go_roundw
              case rel => exact ⟨k + 1, O2, by omega, by go_num, by rw [hO2.out], by omega, HE8.out, HT6.out, HB2.out.alloc (by omega) _⟩
              case measure => simp [intOf]; omega
          · have hx3 : 3 ≤ x := by omega
            have hx6 : x ≤ 66 := by omega
            have hy1 : 1 ≤ y := by omega
            obtain ⟨n, hn⟩ : ∃ n : Nat, x = (n : Int) := ⟨x.toNat, by omega⟩
            obtain ⟨d, hdd⟩ : ∃ d : Nat, y = (d : Int) := ⟨y.toNat, by omega⟩
            subst hn hdd
            have hdl : d ≤ O.size := by omega
            have hd1' : 1 ≤ d := by omega
            have hn66 : n ≤ 66 := by omega
            have hn3 : 3 ≤ n := by omega
            have hadd : Hid (addM O.data.toList ⟨(n : Int), (d : Int), z⟩ = O.data.toList ++ (List.range n).map (fun j => O.data.toList.getD (O.size - d + j % d) 0) ∧ szM ⟨(n : Int), (d : Int), z⟩ = n) := by
              refine ⟨?_, ?_⟩
              · unfold addM
                rw [if_neg (by simp only; omega)]
                simp only [Int.toNat_natCast]
                rw [cpy_eq d hd1' n _ (by rw [HL.out]; exact hdl), HL.out]
              · unfold szM
                rw [if_neg (by simp only; omega)]
                simp only [Int.toNat_natCast]
            obtain ⟨e0, he0⟩ : ∃ e0, O.size - d = e0 := ⟨_, rfl⟩
            have x1 : (O.size : Int) - (d : Int) = (e0 : Int) := by omega
            have he1 : e0 ≤ O.size := by omega
            obtain ⟨F, hF⟩ : ∃ F, Hid (O.extract e0 O.size = F) := ⟨_, Hid.mk' rfl⟩
            have hFs : F.size = d := by rw [← hF.out, ByteArray.size_extract]; omega
            have HX1 : Hid (∀ r, r < d → (F.extract r (r + 1)).data.toList = [O.data.toList.getD (O.size - d + r) 0]) := fun r hr => ext_one O F d r hdl (by rw [he0]; exact hF.out) hr
            have hx0' : decide ((0 : Int) < (n : Int)) = true := decide_eq_true (by omega)
            clear ho hx0 he0
            go_wp2_with fail
            rw [hF.out]
            obtain ⟨W3, hW3⟩ : ∃ W3, Hid (w2.alloc (.cells #[.int .u8 (z : Int)] 5) = W3) := ⟨_, Hid.mk' rfl⟩
            have HB3 : Hid (Below w.heap.size w W3) := by rw [← hW3.out]; exact HB2.out.alloc (by omega) _
            rw [hW3.out]
            rw [hW3.out] at g0 g1
            clear hcv hba
            go_loopw [8, 43] (fun mv jv ws => ∃ (j q : Nat) (P : ByteArray), j ≤ n ∧ jv = .int .i64 (j : Int) ∧ mv = .string P ∧ P.data.toList = (List.range j).map (fun i => O.data.toList.getD (O.size - d + i % d) 0) ∧ ws = W3.drewN q) (fun _ jv _ => n - (intOf jv).toNat)
            case atStart => exact ⟨0, 0, ⟨#[]⟩, Nat.zero_le _, rfl, rfl, rfl, rfl⟩
            case round =>
              obtain ⟨j, q, P, hj, rfl, rfl, hPl, rfl⟩ := hrel
              have HPl := Hid.mk' hPl
              have hPs : P.size = j := by rw [← sz_list, hPl]; simp
              clear hPl
              by_cases hjn : j < n
              · obtain ⟨r, hr⟩ : ∃ r, j % d = r := ⟨_, rfl⟩
                have hrd : r < d := by rw [← hr]; exact Nat.mod_lt _ (by omega)
                have x3 : (j : Int) % (d : Int) = (r : Int) := by rw [← hr]; exact (Int.natCast_emod j d).symm
                have hxr := HX1.out r hrd
                have hd0 : ((d : Int) == 0) = false := by rw [beq_eq_false_iff_ne]; omega
                obtain ⟨G, hG⟩ : ∃ G, Hid (F.extract r (r + 1) = G) := ⟨_, Hid.mk' rfl⟩
                rw [hG.out] at hxr
                have hGs : G.size = 1 := by rw [← sz_list, hxr]; rfl
                have HP2 : Hid ((P ++ G).data.toList = (List.range (j + 1)).map (fun i => O.data.toList.getD (O.size - d + i % d) 0)) := by
                  show _ = _
                  rw [ByteArray.data_append, Array.toList_append, HPl.out, hxr, List.range_succ, List.map_append, List.map_singleton, hr]
                clear hr hxr
                go_wp2_with fail
                go_quiet (fail)
                go_wp2_with fail
                go_roundw
                case rel => exact ⟨j + 1, _, P ++ G, by omega, by go_num, by rw [← hG.out], HP2.out, rfl⟩
                case measure => simp [intOf]; omega
              · have hjn2 : j = n := by omega
                subst hjn2
                have hOP : (O ++ P).size = O.size + j := by rw [ByteArray.size_append, hPs]
                have HO2 : Hid ((O ++ P).data.toList = addM O.data.toList ⟨(j : Int), (d : Int), z⟩) := by
                  show _ = _
                  rw [hadd.out.1, ByteArray.data_append, Array.toList_append, HPl.out]
                obtain ⟨O2, hO2⟩ : ∃ O2, Hid (O ++ P = O2) := ⟨_, Hid.mk' rfl⟩
                rw [hO2.out] at hOP HO2
                by_cases hlg : 512 < O.size + j
                · have tl : decide (512 < O.size + j) = true := decide_eq_true hlg
                  have hfe := Hid.mk' (HE7.out (by rw [HL.out, hadd.out.2]; exact hlg))
                  have hfa := Hid.mk' (exA_bad _ _ hfe.out (by decide))
                  go_wp2_with fail
                  go_ret2
                  refine ⟨?_, below_dE HB3.out _⟩
                  rw [hfe.out, hfa.out]
                  rfl
                · have tl : decide (512 < O.size + j) = false := decide_eq_false hlg
                  have HE8 := Hid.mk' (HE6.out (by rw [HL.out, hadd.out.2]; exact hlg))
                  rw [← HO2.out] at HE8 HT6
                  go_wp2_with fail
                  go_roundw
                  case rel => exact ⟨k + 1, O2, by omega, by go_num, by rw [hO2.out], by omega, HE8.out, HT6.out, below_dE HB3.out _⟩
                  case measure => simp [intOf]; omega
    · have hkl : k = len := by omega
      have hfe : Hid (exE (mkL M 0 len) [] = 0) := by show _ = _; rw [HE.out, hkl, mkL_end]; rfl
      have hfa : Hid (exA (mkL M 0 len) = O.data.toList) := by show _ = _; rw [exA_ok _ hfe.out, HT.out, hkl, mkL_end]; rfl
      clear hkl
      go_wp2_with fail
      go_ret2
      refine ⟨?_, HB.out⟩
      rw [hfe.out, hfa.out]
      rfl
end Go.Proofs.Ytpkidjledgcemaa
