/- The law InodeBack, walked. -/
import Derived.Test.YtbailfianjmflabInReadWalks
import Derived.Test.YtbailfianjmflabInWriteWalks
import Derived.Test.YtbailfianjmflabSameInWalks
namespace Go.Proofs.Ytbailfianjmflab
open Go.RowKit

def litI : Ino := ⟨1, 2, 3, [⟨4, 5⟩]⟩
theorem litI_chk : chkI litI = 0 := by decide +kernel
theorem litI_txt : wiT litI = ⟨#[1, 0, 0, 0, 2, 0, 3, 4, 5]⟩ := by
  rw [wiT_ok litI_chk]
  apply bytes_ext
  show inB litI = _
  decide +kernel
theorem lit_pls (w : World) (p : Pla) (hp : PlaB p) : Pls (w.alloc (.cells #[.int .i64 p.cl, .int .i64 p.nh] 29)) (some ⟨w.heap.size, 0, none⟩) 1 1 [p] := by
  have h := boxV_new w (pl2 p) 29
  refine ⟨rfl, by omega, ⟨rfl, fun _ => ⟨w.heap.size, 0, rfl, by simp, fun j u hj => ?_⟩⟩, fun x hx => by rw [List.mem_singleton.1 hx]; exact hp, Nat.le_refl _, by unfold maxLen; omega, fun e => by cases e⟩
  rw [Nat.zero_add]
  exact h.c j u (by simpa [plC] using hj)
set_option maxRecDepth 20000 in
set_option maxHeartbeats 3200000 in
theorem inodeBack_at (i : Ino) (a0 : Option Addr) (n c : Nat) (s : ByteArray) (w : World) (h : Pls w a0 n c i.ps) (hs : s.size ≤ 140737488355328) :
    Calls Try.prog 3 #[.agg #[.int .i64 i.kd, .int .i64 i.gn, .int .i64 i.sz, .slice a0 n c], .string s] w fun e w' => e = .returned (.bool true) ∧ Below w.heap.size w w' := by
  have HI : Hid (∀ w : World, Pls w a0 n c i.ps → Calls Try.prog 7 #[.agg #[.int .i64 i.kd, .int .i64 i.gn, .int .i64 i.sz, .slice a0 n c]] w fun e w' => e = .returned (.tuple #[.string (wiT i), .int .i64 (chkI i)]) ∧ Below w.heap.size w w') := fun w h => iwrite_any i a0 n c w h
  obtain ⟨T, hT⟩ : ∃ T, Hid (wiT i = T) := ⟨_, Hid.mk' rfl⟩
  obtain ⟨q, hq⟩ : ∃ q, Hid (chkI i = q) := ⟨_, Hid.mk' rfl⟩
  have HT0 : Hid (q = 0 → T.size ≤ 100 ∧ rdI T.data.toList = i ∧ rdIE T.data.toList = 0) := fun h0 => by
    have hc := hq.out.trans h0
    have e : T = txp (inB i) := by rw [← hT.out]; exact wiT_ok hc
    have hr := readI_back hc
    refine ⟨?_, ?_⟩
    · rw [e, txp_size, inB_len]
      have := okI_len (chkI_ok hc)
      omega
    · rw [e, txp_list]
      exact rdI_yes hr
  have HT1 : Hid (q ≠ 0 → T = ⟨#[]⟩) := fun h0 => by
    rw [← hT.out]
    exact wiT_no (by rw [hq.out]; exact h0)
  rw [hT.out, hq.out] at HI
  have HW := Hid.mk' (fun w => iwrite_any litI (some ⟨w, 0, none⟩) 1 1)
  rw [litI_txt, litI_chk] at HW
  have hlit := Hid.mk' (fun W : World => lit_pls W ⟨4, 5⟩ ⟨⟨by decide, by decide⟩, ⟨by decide, by decide⟩⟩)
  simp only at hlit
  have HV0 : Hid (BoxV (w.alloc (.cells #[.int .i64 i.kd, .int .i64 i.gn, .int .i64 i.sz, .slice a0 n c] 24)) w.heap.size (inV i.kd i.gn i.sz a0 n c)) := boxV_new w (inV i.kd i.gn i.sz a0 n c) 24
  have hB0 := below_boxP (w := w) #[.int .i64 i.kd, .int .i64 i.gn, .int .i64 i.sz, .slice a0 n c] 24
  have hs0 : (w.alloc (.cells #[.int .i64 i.kd, .int .i64 i.gn, .int .i64 i.sz, .slice a0 n c] 24)).heap.size = w.heap.size + 1 := by simp
  obtain ⟨W0, hW0⟩ : ∃ W, Hid (w.alloc (.cells #[.int .i64 i.kd, .int .i64 i.gn, .int .i64 i.sz, .slice a0 n c] 24) = W) := ⟨_, Hid.mk' rfl⟩
  rw [hW0.out] at HV0 hB0 hs0
  have hlt := hlit.out W0
  have hB1 := below_boxP (w := W0) #[.int .i64 4, .int .i64 5] 29
  obtain ⟨W1, hW1⟩ : ∃ W, Hid (W0.alloc (.cells #[.int .i64 4, .int .i64 5] 29) = W) := ⟨_, Hid.mk' rfl⟩
  rw [hW1.out] at hlt hB1
  rw [hs0] at hlt
  have HLt := Hid.mk' hlt
  have HB1 := Hid.mk' (hB0.trans (hB1.mono hB0.size))
  have HV1 := Hid.mk' (HV0.out.below hB1)
  have HL1 := Hid.mk' (h.below HB1.out)
  clear hlt hB1 hB0 h hlit
  go_enter Try.func3, Try.ntmps3
  go_wp2_with fail
  rw [hW0.out, hW1.out]
  refine (HW.out _ W1 HLt.out).mono ?_
  rintro e w2 ⟨rfl, hb⟩
  have HB2 := Hid.mk' (HB1.out.trans (hb.mono HB1.out.size))
  have HV2 := Hid.mk' (HV1.out.below hb)
  have HL2 := Hid.mk' (HL1.out.below hb)
  clear hb
  go_wp2_with fail
  obtain ⟨J, hJ⟩ : ∃ I, Hid (rdI s.data.toList = I) := ⟨_, Hid.mk' rfl⟩
  obtain ⟨r, hr⟩ : ∃ q, Hid (rdIE s.data.toList = q) := ⟨_, Hid.mk' rfl⟩
  refine (iread_any s w2 hs).mono ?_
  rintro e w3 ⟨⟨a1, c1, rfl, h1⟩, hb3⟩
  rw [hJ.out] at h1
  rw [hJ.out, hr.out]
  have hbx := below_boxP (w := w3) #[.int .i64 J.kd, .int .i64 J.gn, .int .i64 J.sz, .slice a1 J.ps.length c1] 24
  have hbb := hb3.trans (hbx.mono hb3.size)
  have HP3 := Hid.mk' (h1.below hbx)
  have HG3 : Hid (BoxV (w3.alloc (.cells #[.int .i64 J.kd, .int .i64 J.gn, .int .i64 J.sz, .slice a1 J.ps.length c1] 24)) w3.heap.size (inV J.kd J.gn J.sz a1 J.ps.length c1)) := boxV_new w3 (inV J.kd J.gn J.sz a1 J.ps.length c1) 24
  have HB3 := Hid.mk' (HB2.out.trans (hbb.mono HB2.out.size))
  have HV3 := Hid.mk' (HV2.out.below hbb)
  have HL3 := Hid.mk' (HL2.out.below hbb)
  obtain ⟨W3, hW3⟩ : ∃ W, Hid (w3.alloc (.cells #[.int .i64 J.kd, .int .i64 J.gn, .int .i64 J.sz, .slice a1 J.ps.length c1] 24) = W) := ⟨_, Hid.mk' rfl⟩
  rw [hW3.out] at HP3 HG3 HB3 HV3 HL3
  clear h1 hb3 hbx hbb
  have d0 := HV3.out.c 0 _ rfl
  have d1 := HV3.out.c 1 _ rfl
  have d2 := HV3.out.c 2 _ rfl
  have d3 := HV3.out.c 3 _ rfl
  by_cases hr0 : r = 0
  · subst hr0
    have hrI : readI s.data.toList = some J := by
      cases hh : readI s.data.toList with
      | none => have := (rdI_no hh).2; rw [hr.out] at this; simp at this
      | some i => rw [← hJ.out, (rdI_yes hh).1]
    have hinv := readI_inv hrI
    have hJ0 : Hid (chkI J = 0) := hinv.1
    have hJT : Hid (wiT J = s) := by
      show _ = _
      rw [wiT_ok hinv.1, hinv.2]
      apply bytes_ext
      rfl
    have tq : (s.toList == s.toList) = true := by simp
    clear hrI hinv
    go_wp2_with fail
    rw [hW3.out]
    go_wp2_with fail
    refine (iwrite_any J a1 J.ps.length c1 W3 HP3.out).mono ?_
    rintro e w4 ⟨rfl, hb⟩
    rw [hJ0.out, hJT.out]
    have HBt := Hid.mk' (HB3.out.trans (hb.mono HB3.out.size))
    have HVt := Hid.mk' (HV3.out.below hb)
    have HLt := Hid.mk' (HL3.out.below hb)
    have d0 := HVt.out.c 0 _ rfl
    have d1 := HVt.out.c 1 _ rfl
    have d2 := HVt.out.c 2 _ rfl
    have d3 := HVt.out.c 3 _ rfl
    clear hb
    go_wp2_with fail
    refine (HI.out _ HLt.out).mono ?_
    rintro e w5 ⟨rfl, hb⟩
    have HB5 := Hid.mk' (HBt.out.trans (hb.mono HBt.out.size))
    have HV5 := Hid.mk' (HVt.out.below hb)
    have HL5 := Hid.mk' (HLt.out.below hb)
    clear hb
    by_cases h0 : q = 0
    · have hT2 := HT0.out h0
      subst h0
      go_wp2_with fail
      refine (iread_any T w5 (by omega)).mono ?_
      rintro e w6 ⟨⟨a2, c2, rfl, h2⟩, hb6⟩
      rw [hT2.2.1] at h2
      rw [hT2.2.1, hT2.2.2]
      have hbx := below_boxP (w := w6) #[.int .i64 i.kd, .int .i64 i.gn, .int .i64 i.sz, .slice a2 i.ps.length c2] 24
      have hbb := hb6.trans (hbx.mono hb6.size)
      have HP6 := Hid.mk' (h2.below hbx)
      have HB6 := Hid.mk' (HB5.out.trans (hbb.mono HB5.out.size))
      have HV6 := Hid.mk' (HV5.out.below hbb)
      have HL6 := Hid.mk' (HL5.out.below hbb)
      have d0 := HV6.out.c 0 _ rfl
      have d1 := HV6.out.c 1 _ rfl
      have d2 := HV6.out.c 2 _ rfl
      have d3 := HV6.out.c 3 _ rfl
      clear h2 hb6 hbx hbb hT2
      go_wp2_with fail
      refine (samei_yes i a0 n c a2 i.ps.length c2 _ HL6.out HP6.out).mono ?_
      rintro e w7 ⟨rfl, hb⟩
      have HB7 := Hid.mk' (HB6.out.trans (hb.mono HB6.out.size))
      clear hb
      go_wp2_with fail
      go_ret
      exact ⟨rfl, HB7.out⟩
    · have hTe := HT1.out h0
      subst hTe
      have tq2 : (q != 0) = true := by rw [bne_iff_ne]; exact h0
      clear h0
      go_wp2_with fail
      go_ret
      exact ⟨rfl, HB5.out⟩
  · have tq : (r == 0) = false := by rw [beq_eq_false_iff_ne]; exact hr0
    have HBt := HB3
    have HVt := HV3
    have HLt := HL3
    rw [← hW3.out] at d0 d1 d2 d3
    clear hr0
    go_wp2_with fail
    rw [hW3.out]
    refine (HI.out _ HLt.out).mono ?_
    rintro e w5 ⟨rfl, hb⟩
    have HB5 := Hid.mk' (HBt.out.trans (hb.mono HBt.out.size))
    have HV5 := Hid.mk' (HVt.out.below hb)
    have HL5 := Hid.mk' (HLt.out.below hb)
    clear hb
    by_cases h0 : q = 0
    · have hT2 := HT0.out h0
      subst h0
      go_wp2_with fail
      refine (iread_any T w5 (by omega)).mono ?_
      rintro e w6 ⟨⟨a2, c2, rfl, h2⟩, hb6⟩
      rw [hT2.2.1] at h2
      rw [hT2.2.1, hT2.2.2]
      have hbx := below_boxP (w := w6) #[.int .i64 i.kd, .int .i64 i.gn, .int .i64 i.sz, .slice a2 i.ps.length c2] 24
      have hbb := hb6.trans (hbx.mono hb6.size)
      have HP6 := Hid.mk' (h2.below hbx)
      have HB6 := Hid.mk' (HB5.out.trans (hbb.mono HB5.out.size))
      have HV6 := Hid.mk' (HV5.out.below hbb)
      have HL6 := Hid.mk' (HL5.out.below hbb)
      have d0 := HV6.out.c 0 _ rfl
      have d1 := HV6.out.c 1 _ rfl
      have d2 := HV6.out.c 2 _ rfl
      have d3 := HV6.out.c 3 _ rfl
      clear h2 hb6 hbx hbb hT2
      go_wp2_with fail
      refine (samei_yes i a0 n c a2 i.ps.length c2 _ HL6.out HP6.out).mono ?_
      rintro e w7 ⟨rfl, hb⟩
      have HB7 := Hid.mk' (HB6.out.trans (hb.mono HB6.out.size))
      clear hb
      go_wp2_with fail
      go_ret
      exact ⟨rfl, HB7.out⟩
    · have hTe := HT1.out h0
      subst hTe
      have tq2 : (q != 0) = true := by rw [bne_iff_ne]; exact h0
      clear h0
      go_wp2_with fail
      go_ret
      exact ⟨rfl, HB5.out⟩
theorem inodeBack_walk (i : Ino) (a0 : Option Addr) (n c : Nat) (s : ByteArray) (w : World) (h : Pls w a0 n c i.ps) (_w1 : s.size ≤ maxLen) (z1 : s.data.toList.length ≤ reachBytes) :
    Calls Try.prog 3 #[.agg #[.int .i64 i.kd, .int .i64 i.gn, .int .i64 i.sz, .slice a0 n c], .string s] w fun e w' => e = .returned (.bool true) ∧ Below w.heap.size w w' := by
  have hr := reachBytes_lt
  have e0 : s.data.toList.length = s.size := by rw [Array.length_toList]; rfl
  exact inodeBack_at i a0 n c s w h (by omega)
end Go.Proofs.Ytbailfianjmflab
