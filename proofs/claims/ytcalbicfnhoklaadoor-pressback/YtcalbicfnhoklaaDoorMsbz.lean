/- Texts of ours, one behind the other: WriteMarksWalks PressWalks PressBackMath PressBackLaw -/
import Derived.Test.YtcalbicfnhoklaaDoorWeaveWalks
import Derived.Test.YtcalbicfnhoklaaDoorFindWalks
import Derived.Test.YtcalbicfnhoklaaDoorMsai
import Derived.Test.YtcalbicfnhoklaaDoorMsah
import Derived.Test.YtcalbicfnhoklaaDoorTrimWalks
import Derived.Test.YtcalbicfnhoklaaDoorPOpenWalks
import Derived.Test.YtcalbicfnhoklaaDoorMsad

/- What press.writeMarks and press.Press answer. -/
namespace Go.Proofs.YtcalbicfnhoklaaDoor
open Go.RowKit

/-- what the body of a form of marks is made of -/
structure Body (s : List UInt8) (b : List UInt8) : Prop where
  is : ∃ (ms : List Mk) (T1 T2 : Nat → Nat), FindOk s ms ∧ (∀ m ∈ ms, MkFd m) ∧ EncOk (ms.map sgnM) 320 T1 ∧ EncOk (lgsM ms) 9 T2 ∧
    b = putB ms.length ++ rwB (fun i => (T1 i : Int)) 320 ++ rwB (fun i => (T2 i : Int)) 9 ++ packS (pieA (fun i => (T1 i : Int)) (fun i => (T2 i : Int)) ms).length (pV (pieA (fun i => (T1 i : Int)) (fun i => (T2 i : Int)) ms)) (pW (pieA (fun i => (T1 i : Int)) (fun i => (T2 i : Int)) ms))
/-- marks that say a text of 512 bytes at most -/
theorem fd_of : ∀ (ms : List Mk) (out : List UInt8), exE ms out = 0 → out.length ≤ 512 → (∀ m ∈ ms, m.by' < 256) → ∀ m ∈ ms, MkFd m := by
  intro ms
  induction ms with
  | nil => intro out _ _ _ m hm; simp at hm
  | cons a t ih =>
    intro out h ho hb m hm
    cases hok : okM a with
    | false => rw [exE_form _ _ _ hok] at h; omega
    | true =>
      by_cases hd : (out.length : Int) < a.ds
      · rw [exE_dist _ _ _ hok hd] at h; omega
      · by_cases hl : 512 < out.length + szM a
        · rw [exE_large _ _ _ hok hd hl] at h; omega
        · rw [exE_step _ _ _ hok hd hl] at h
          rcases List.mem_cons.1 hm with rfl | hm
          · have hby := hb m (by simp)
            rcases okM_of hok with ⟨h1, h2⟩ | ⟨h1, h2, h3, h4⟩
            · exact .inl ⟨h1, h2, hby⟩
            · refine .inr ⟨h1, h2, h3, ?_, h4⟩
              have hz : szM m = m.ln.toNat := by unfold szM; rw [if_neg (by omega)]
              rw [hz] at hl
              omega
          · exact ih _ h (by rw [addM_len]; omega) (fun m' hm' => hb m' (by simp [hm'])) m hm
theorem len_of_few : ∀ (ms : List Mk) (out : List UInt8), exE ms out = 0 → out.length ≤ 512 → ms.length + out.length ≤ 512 := by
  intro ms
  induction ms with
  | nil => intro out _ h; simpa using h
  | cons a t ih =>
    intro out h ho
    cases hok : okM a with
    | false => rw [exE_form _ _ _ hok] at h; omega
    | true =>
      by_cases hd : (out.length : Int) < a.ds
      · rw [exE_dist _ _ _ hok hd] at h; omega
      · by_cases hl : 512 < out.length + szM a
        · rw [exE_large _ _ _ hok hd hl] at h; omega
        · rw [exE_step _ _ _ hok hd hl] at h
          have h1 := ih _ h (by rw [addM_len]; omega)
          rw [addM_len] at h1
          have h2 : 1 ≤ szM a := by
            unfold szM
            rcases okM_of hok with ⟨q1, _⟩ | ⟨q1, _⟩
            · rw [if_pos q1]; exact Nat.le_refl _
            · rw [if_neg (by omega)]; omega
          rw [List.length_cons]; omega
theorem wds_NN {w : World} {N n : Nat} {v : Value} {l : List Nat} (h : w.ownsRow N 3 1 v n (cellsNN l)) (hn : l.length = n) (hl : n ≤ 512) (hb : ∀ x ∈ l, x ≤ 512) : ∃ ao cap, v = .slice ao n cap ∧ Wds w ao n (rowS l) := by
  subst hn
  have hB : ∀ i, i < l.length → -9223372036854775808 ≤ rowS l i ∧ rowS l i ≤ 9223372036854775807 := fun i hi => by
    rw [rowS_at l i hi]
    have := hb _ (List.getElem_mem hi)
    omega
  rcases h.2 with ⟨rfl, h0⟩ | ⟨g, cap, cur, rfl, _, hgg, _, _, _, _⟩
  · exact ⟨none, 0, by rw [h0], by omega, fun hp => by omega, hB⟩
  · refine ⟨some ⟨g, 0, none⟩, cap, rfl, by omega, fun _ => ⟨g, 0, rfl, (Array.getElem?_eq_some_iff.1 hgg).1, fun i hi => ?_⟩, hB⟩
    rw [Nat.zero_add, h.cellAt i (by omega), rowS_at l i hi]
    simp [cellsNN, hi]
theorem sgs_lt {ms : List Mk} (h : ∀ m ∈ ms, MkFd m) : ∀ s ∈ ms.map sgnM, s < 320 := by
  intro s hs
  obtain ⟨m, hm, rfl⟩ := List.mem_map.1 hs
  exact (sgnM_lt (h m hm)).1
theorem lgs_lt {ms : List Mk} (h : ∀ m ∈ ms, MkFd m) : ∀ s ∈ lgsM ms, s < 9 := by
  intro s hs
  unfold lgsM at hs
  obtain ⟨m, hm, rfl⟩ := List.mem_map.1 hs
  obtain ⟨hm1, hm2⟩ := List.mem_filter.1 hm
  exact (lg_of (h m hm1) (of_decide_eq_true hm2)).2.2
theorem has_of {ms : List Mk} {T1 T2 : Nat → Nat} (h : ∀ m ∈ ms, MkFd m) (h1 : EncOk (ms.map sgnM) 320 T1) (h2 : EncOk (lgsM ms) 9 T2) : ∀ m ∈ ms, HasS (fun i => (T1 i : Int)) (fun i => (T2 i : Int)) m := by
  intro m hm
  refine ⟨h m hm, ?_, fun hn => ?_⟩
  · have := h1.has _ (List.mem_map.2 ⟨m, hm, rfl⟩)
    show (0 : Int) < ((T1 (sgnM m) : Nat) : Int)
    omega
  · have := h2.has (lgN m.ds.toNat) (by unfold lgsM; exact List.mem_map.2 ⟨m, List.mem_filter.2 ⟨hm, decide_eq_true hn⟩, rfl⟩)
    show (0 : Int) < ((T2 (lgN m.ds.toNat) : Nat) : Int)
    omega
/-- the bits of all pieces can be packed -/
theorem pack_okM {ms : List Mk} {T1 T2 : Nat → Nat} (hn : ms.length ≤ 512) (h1 : EncOk (ms.map sgnM) 320 T1) (h2 : EncOk (lgsM ms) 9 T2) (hm : ∀ m ∈ ms, MkFd m) :
    packE (pieA (fun i => (T1 i : Int)) (fun i => (T2 i : Int)) ms).length (pV (pieA (fun i => (T1 i : Int)) (fun i => (T2 i : Int)) ms)) (pW (pieA (fun i => (T1 i : Int)) (fun i => (T2 i : Int)) ms)) = 0 := by
  have he := fun i hi => pie_errI h1.can h2.can (has_of hm h1 h2) i hi
  have hl := pie_len (fun i => (T1 i : Int)) (fun i => (T2 i : Int)) ms
  unfold packE
  have hw := wid_15 (pieA (fun i => (T1 i : Int)) (fun i => (T2 i : Int)) ms) (pieA (fun i => (T1 i : Int)) (fun i => (T2 i : Int)) ms).length (fun i hi => (he i hi).2.1)
  rw [if_pos (firstErr_ok _ _ _ fun i hi => (he i hi).1), if_neg (by omega)]
theorem row_norm {l : List Nat} {N : Nat} {T : Nat → Nat} (h : EncOk l N T) : rowQ (lsF (fun i => (T i : Int)) 0 N) = fun i => (T i : Int) := by
  funext i
  unfold rowQ
  by_cases hi : i < N
  · rw [lsF_get _ _ _ hi, Int.toNat_natCast]
  · rw [List.getD_eq_getElem?_getD, List.getElem?_eq_none (by rw [lsF_length]; omega), h.hi i (by omega)]; rfl
/-- what is written is read -/
theorem body_back {s b : List UInt8} (h : Body s b) : rmR b = some s := by
  obtain ⟨ms, T1, T2, hf, hfd, h1, h2, rfl⟩ := h.is
  have hn : ms.length ≤ 512 := by have := len_of_few ms [] hf.e (by simp); simpa using this
  have hm := has_of hfd h1 h2
  have hpk := pack_okM hn h1 h2 hfd
  obtain ⟨pk, hpk'⟩ : ∃ pk, packS (pieA (fun i => (T1 i : Int)) (fun i => (T2 i : Int)) ms).length (pV (pieA (fun i => (T1 i : Int)) (fun i => (T2 i : Int)) ms)) (pW (pieA (fun i => (T1 i : Int)) (fun i => (T2 i : Int)) ms)) = pk := ⟨_, rfl⟩
  rw [hpk']
  have hbytes : (⟨pk.toArray⟩ : ByteArray).data.toList = bytesOf (packN (pV (pieA (fun i => (T1 i : Int)) (fun i => (T2 i : Int)) ms)) (pW (pieA (fun i => (T1 i : Int)) (fun i => (T2 i : Int)) ms)) (pieA (fun i => (T1 i : Int)) (fun i => (T2 i : Int)) ms).length) ((widSum (pW (pieA (fun i => (T1 i : Int)) (fun i => (T2 i : Int)) ms)) (pieA (fun i => (T1 i : Int)) (fun i => (T2 i : Int)) ms).length + 7) / 8) := by
    rw [← hpk']; unfold packS; rw [if_pos hpk]
  have hrd := read_marks h1.can h2.can hm ⟨pk.toArray⟩ hbytes ms.length (Nat.le_refl _)
  have hen := read_end h1.can h2.can hm ⟨pk.toArray⟩ hbytes
  rw [List.take_length] at hrd
  obtain ⟨g1, g2, g3⟩ := get_put ms.length (by omega) (rwB (fun i => (T1 i : Int)) 320 ++ (rwB (fun i => (T2 i : Int)) 9 ++ pk))
  have r1 := row_norm h1
  have r2 := row_norm h2
  obtain ⟨p1, p2, p3⟩ := runs_back h1.fill (rwB (fun i => (T2 i : Int)) 9 ++ pk)
  obtain ⟨q1, q2, q3⟩ := runs_back h2.fill pk
  have hk1 : rbk (rwB (fun i => (T1 i : Int)) 320 ++ (rwB (fun i => (T2 i : Int)) 9 ++ pk)) 320 = some (lsF (fun i => (T1 i : Int)) 0 320, rwB (fun i => (T2 i : Int)) 9 ++ pk) := by
    unfold rbk
    rw [p2, p3, r1, if_pos ⟨p1, by rw [lsF_length], h1.can⟩, List.drop_left]
  have hk2 : rbk (rwB (fun i => (T2 i : Int)) 9 ++ pk) 9 = some (lsF (fun i => (T2 i : Int)) 0 9, pk) := by
    unfold rbk
    rw [q2, q3, r2, if_pos ⟨q1, by rw [lsF_length], h2.can⟩, List.drop_left]
  rw [List.append_assoc, List.append_assoc]
  have hall := rmR_all (t := putB ms.length ++ (rwB (fun i => (T1 i : Int)) 320 ++ (rwB (fun i => (T2 i : Int)) 9 ++ pk))) (ms := ms) (e := widSum (pW (pieA (fun i => (T1 i : Int)) (fun i => (T2 i : Int)) ms)) (pieA (fun i => (T1 i : Int)) (fun i => (T2 i : Int)) ms).length) ⟨g1, by rw [g2]; exact hn⟩ (by rw [g3, List.drop_left]; exact hk1) hk2 (by rw [r1, r2, g2]; exact hrd)
  rw [hall, if_pos ⟨hf.e, hen⟩, hf.t]
end Go.Proofs.YtcalbicfnhoklaaDoor

/- What press.writeMarks and press.Press answer. -/
namespace Go.Proofs.YtcalbicfnhoklaaDoor
open Go.RowKit

theorem lgs_le (ms : List Mk) : (lgsM ms).length ≤ ms.length := lgsM_len ms
theorem size_mk (l : List UInt8) : (⟨l.toArray⟩ : ByteArray).size = l.length := by show l.toArray.size = _; simp
theorem cat_mk (a b : List UInt8) : (⟨a.toArray⟩ : ByteArray) ++ ⟨b.toArray⟩ = ⟨(a ++ b).toArray⟩ := by
  apply bytes_ext
  rw [ByteArray.data_append, Array.toList_append]
theorem rw_len {W : Nat → Int} {len : Nat} (h : fillE W len = 0) : (rwB W len).length ≤ 330 := by
  have h1 := (runs_short h).2
  have h2 := (fill_good h).1
  omega
theorem pack_len {n : Nat} {V : Nat → Nat} {W : Nat → Int} : (packS n V W).length ≤ 8193 := by
  unfold packS
  split
  · rename_i h
    rw [bytesOf_length]
    unfold packE at h
    split at h
    · split at h
      · omega
      · omega
    · rename_i h2
      exact absurd h h2
  · simp

set_option maxRecDepth 20000 in
set_option maxHeartbeats 2000000 in
theorem wmarks_any (s : ByteArray) (w : World) (hs : s.size ≤ 512) :
    Calls Tryd.prog 12 #[.string s] w fun e w' => (∃ b : List UInt8, e = .returned (.string ⟨b.toArray⟩) ∧ Body s.data.toList b ∧ b.length ≤ 9000) ∧ Below w.heap.size w w' := by
  go_enter Tryd.func12, Tryd.ntmps12
  go_wp2_with fail
  refine (find_any s _ hs).mono ?_
  rintro e w1 ⟨⟨v, ms, rfl, hown, hf⟩, hb1⟩
  have HF := Hid.mk' hf
  have HB1 := Hid.mk' hb1
  have hn : ms.length ≤ 512 := by have := len_of_few ms [] hf.e (by simp); simpa using this
  have HFd := Hid.mk' (fd_of ms [] hf.e (by simp) (fun m hm => (hf.b m hm).2.2))
  obtain ⟨ao, cap, rfl, hc1, hc2, hM⟩ := mks_of_own hown rfl (by omega) hf.b
  have HM := Hid.mk' hM
  obtain ⟨n, hnn⟩ : ∃ n, Hid (ms.length = n) := ⟨_, Hid.mk' rfl⟩
  rw [hnn.out] at HM hn ⊢
  clear hown hf hb1 hM hc1 hc2
  go_wp2_with fail
  refine (signs_any ao cap ms n _ hnn.out hn HM.out HFd.out).mono ?_
  rintro e w2 ⟨⟨u, v, rfl, hu, hv⟩, hb2⟩
  have HB2 : Hid (Below w.heap.size w w2) := HB1.out.trans (hb2.mono HB1.out.size)
  have HM2 := Hid.mk' (mks_below HM.out hb2)
  have hlc : (lgsM ms).length ≤ n := by rw [← hnn.out]; exact lgs_le ms
  obtain ⟨a1, c1, rfl, hW1⟩ := wds_NN hu (by rw [List.length_map]; exact hnn.out) hn (fun x hx => by have := sgs_lt HFd.out x hx; omega)
  obtain ⟨c, hcc⟩ : ∃ c, Hid ((lgsM ms).length = c) := ⟨_, Hid.mk' rfl⟩
  obtain ⟨a2, c2, rfl, hW2⟩ := wds_NN hv rfl (by omega) (fun x hx => by have := lgs_lt HFd.out x hx; omega)
  rw [hcc.out] at hW2 hlc ⊢
  have HW1 := Hid.mk' hW1
  have HW2 := Hid.mk' hW2
  clear hu hv hb2 hW1 hW2
  go_wp2_with fail
  refine (encode_any a1 n c1 (ms.map sgnM) 320 _ (by rw [List.length_map]; exact hnn.out) hn (by omega) HW1.out (sgs_lt HFd.out)).mono ?_
  rintro e w3 ⟨⟨T1, ao1, co1, rfl, hE1, hP1⟩, hb3⟩
  have HB3 : Hid (Below w.heap.size w w3) := HB2.out.trans (hb3.mono HB2.out.size)
  have HE1 := Hid.mk' hE1
  have HP1 := Hid.mk' hP1
  have HM3 := Hid.mk' (mks_below HM2.out hb3)
  have HW2' := Hid.mk' (wds_below HW2.out hb3)
  have hf1 := rw_len hE1.fill
  obtain ⟨f1, hf1'⟩ : ∃ f, Hid (rwB (fun i => (T1 i : Int)) 320 = f) := ⟨_, Hid.mk' rfl⟩
  rw [hf1'.out] at hf1 ⊢
  clear hE1 hP1 hb3
  go_wp2_with fail
  refine (encode_any a2 c c2 (lgsM ms) 9 _ hcc.out (by omega) (by omega) HW2'.out (lgs_lt HFd.out)).mono ?_
  rintro e w4 ⟨⟨T2, ao2, co2, rfl, hE2, hP2⟩, hb4⟩
  have HB4 : Hid (Below w.heap.size w w4) := HB3.out.trans (hb4.mono HB3.out.size)
  have HE2 := Hid.mk' hE2
  have HP2 := Hid.mk' hP2
  have HM4 := Hid.mk' (mks_below HM3.out hb4)
  have HW24 := Hid.mk' (wds_below HW2'.out hb4)
  have HP14 := Hid.mk' (pcs_below HP1.out hb4)
  have hf2 := rw_len hE2.fill
  obtain ⟨f2, hf2'⟩ : ∃ f, Hid (rwB (fun i => (T2 i : Int)) 9 = f) := ⟨_, Hid.mk' rfl⟩
  rw [hf2'.out] at hf2 ⊢
  clear hE2 hP2 hb4
  have HHas := Hid.mk' (has_of HFd.out HE1.out HE2.out)
  go_wp2_with fail
  refine (weave_any ms n c (fun i => (T1 i : Int)) (fun i => (T2 i : Int)) ao ao1 a2 ao2 cap co1 c2 co2 _ hnn.out hn hcc.out HHas.out HM4.out HP14.out HW24.out HP2.out (fun i hi => by have := HE1.out.le i hi; omega) (fun i hi => by have := HE2.out.le i hi; omega)).mono ?_
  rintro e w5 ⟨⟨v5, rfl, hown⟩, hb5⟩
  have HB5 : Hid (Below w.heap.size w w5) := HB4.out.trans (hb5.mono HB4.out.size)
  have hpl := pie_len (fun i => (T1 i : Int)) (fun i => (T2 i : Int)) ms
  rw [hnn.out] at hpl
  obtain ⟨a5, c5, rfl, hPc⟩ := pcs_of_own hown rfl (by omega) (fun p hp => by
    have h := pie_err HE1.out.can HE2.out.can HHas.out p hp
    have h2 := ok_wid _ _ h.1
    have h3 : 2 ^ p.2 ≤ 2 ^ 15 := Nat.pow_le_pow_right (by decide) h.2
    rw [Int.toNat_natCast] at h2
    omega)
  have HPc := Hid.mk' hPc
  clear hown hb5 hPc
  obtain ⟨np, hnp⟩ : ∃ x, Hid ((pieA (fun i => (T1 i : Int)) (fun i => (T2 i : Int)) ms).length = x) := ⟨_, Hid.mk' rfl⟩
  rw [hnp.out] at HPc hpl ⊢
  go_wp2_with fail
  refine (pack_any a5 np c5 _ _ _ HPc.out).mono ?_
  rintro e w6 ⟨rfl, hb6⟩
  have HB6 : Hid (Below w.heap.size w w6) := HB5.out.trans (hb6.mono HB5.out.size)
  have hkl := pack_len (n := np) (V := pV (pieA (fun i => (T1 i : Int)) (fun i => (T2 i : Int)) ms)) (W := pW (pieA (fun i => (T1 i : Int)) (fun i => (T2 i : Int)) ms))
  obtain ⟨f3, hf3'⟩ : ∃ f, Hid (packS np (pV (pieA (fun i => (T1 i : Int)) (fun i => (T2 i : Int)) ms)) (pW (pieA (fun i => (T1 i : Int)) (fun i => (T2 i : Int)) ms)) = f) := ⟨_, Hid.mk' rfl⟩
  rw [hf3'.out] at hkl ⊢
  obtain ⟨pe, hpe⟩ : ∃ x, Hid (packE np (pV (pieA (fun i => (T1 i : Int)) (fun i => (T2 i : Int)) ms)) (pW (pieA (fun i => (T1 i : Int)) (fun i => (T2 i : Int)) ms)) = x) := ⟨_, Hid.mk' rfl⟩
  rw [hpe.out]
  clear hb6
  have eu : IntKind.u64.wrap (n : Int) = (n : Int) := by rw [IntKind.wrap_u64]; omega
  have hp10 := putB_len10 n (by omega)
  go_wp2_with fail
  refine (put_num n _ (by omega)).mono ?_
  rintro e w7 ⟨rfl, hb7⟩
  have HB7 : Hid (Below w.heap.size w w7) := HB6.out.trans (hb7.mono HB6.out.size)
  clear hb7
  have HBd : Hid (Body s.data.toList (putB n ++ f1 ++ f2 ++ f3)) := ⟨ms, T1, T2, HF.out, HFd.out, HE1.out, HE2.out, by rw [hnn.out, hf1'.out, hf2'.out, hnp.out, hf3'.out]⟩
  have z0 := size_mk (putB n)
  have z1 := size_mk f1
  have z2 := size_mk f2
  have z3 := size_mk f3
  have HCat : Hid ((⟨(putB n).toArray⟩ : ByteArray) ++ ⟨f1.toArray⟩ ++ ⟨f2.toArray⟩ ++ ⟨f3.toArray⟩ = ⟨(putB n ++ f1 ++ f2 ++ f3).toArray⟩) := by show _ = _; rw [cat_mk, cat_mk, cat_mk]
  have HLn : Hid ((putB n ++ f1 ++ f2 ++ f3).length ≤ 9000) := by show _ ≤ _; simp only [List.length_append]; omega
  generalize (⟨(putB n).toArray⟩ : ByteArray) = g0 at *
  generalize (⟨f1.toArray⟩ : ByteArray) = g1 at *
  generalize (⟨f2.toArray⟩ : ByteArray) = g2 at *
  generalize (⟨f3.toArray⟩ : ByteArray) = g3 at *
  go_wp2_with fail
  go_ret
  exact ⟨⟨_, by rw [← HCat.out]; rfl, HBd.out, HLn.out⟩, HB7.out⟩

/-- are all noughts? -/
def nou (s : List UInt8) : Prop := ∀ i, i < s.length → s.getD i 0 = 0
/-- what Press answers of a cluster -/
def PrAns (s t : List UInt8) : Prop :=
  (nou s ∧ t = 0 :: putB s.length) ∨ (¬ nou s ∧ ∃ b, Body s b ∧ t = if (2 :: putB s.length ++ b).length < (1 :: putB s.length ++ s).length then 2 :: putB s.length ++ b else 1 :: putB s.length ++ s)

set_option maxRecDepth 20000 in
set_option maxHeartbeats 2000000 in
theorem press_any (s : ByteArray) (w : World) (hs : s.size ≤ 512) :
    Calls Tryd.prog 6 #[.string s] w fun e w' => (∃ t : ByteArray, e = .returned (.tuple #[.string t, .int .i64 0]) ∧ PrAns s.data.toList t.data.toList) ∧ Below w.heap.size w w' := by
  have hl : Hid (s.data.toList.length = s.size) := by show _ = _; simp
  have t5 : decide (512 < s.size) = false := decide_eq_false (by omega)
  have hp10 := putB_len10 s.size (by omega)
  go_enter Tryd.func6, Tryd.ntmps6
  go_wp2_with fail
  refine (trim_any s _ hs).mono ?_
  rintro e w1 ⟨⟨T, rfl, hT⟩, hb1⟩
  have HB1 := Hid.mk' hb1
  have HT : Hid (T.data.toList = [] ↔ nou s.data.toList) := by
    show _ ↔ _
    unfold nou
    rw [hl.out]; exact hT
  clear hb1 hT
  by_cases h0 : T.data.toList = []
  · have te : T.toList.isEmpty = true := by rw [empty_isQ]; exact decide_eq_true h0
    have HA : Hid (PrAns s.data.toList (⟨(0 :: putB s.size).toArray⟩ : ByteArray).data.toList) := .inl ⟨HT.out.1 h0, by rw [hl.out]⟩
    clear h0
    go_wp2_with fail
    refine (head_any 0 s _ hs).mono ?_
    rintro e w2 ⟨rfl, hb2⟩
    have HB2 : Hid (Below w.heap.size w w2) := HB1.out.trans (hb2.mono HB1.out.size)
    clear hb2
    go_wp2_with fail
    go_ret2
    exact ⟨⟨_, rfl, HA.out⟩, HB2.out⟩
  · have te : T.toList.isEmpty = false := by rw [empty_isQ]; exact decide_eq_false h0
    have HNo : Hid (¬ nou s.data.toList) := fun h => h0 (HT.out.2 h)
    clear h0
    go_wp2_with fail
    refine (head_any 1 s _ hs).mono ?_
    rintro e w2 ⟨rfl, hb2⟩
    have HB2 : Hid (Below w.heap.size w w2) := HB1.out.trans (hb2.mono HB1.out.size)
    clear hb2
    go_wp2_with fail
    refine (head_any 2 s _ hs).mono ?_
    rintro e w3 ⟨rfl, hb3⟩
    have HB3 : Hid (Below w.heap.size w w3) := HB2.out.trans (hb3.mono HB2.out.size)
    clear hb3
    go_wp2_with fail
    refine (wmarks_any s _ hs).mono ?_
    rintro e w4 ⟨⟨b, rfl, hbd, hbl⟩, hb4⟩
    have HB4 : Hid (Below w.heap.size w w4) := HB3.out.trans (hb4.mono HB3.out.size)
    have HBd := Hid.mk' hbd
    clear hb4 hbd
    have zh1 := size_mk (1 :: putB s.size)
    have zh2 := size_mk (2 :: putB s.size)
    have zb := size_mk b
    have L1 : Hid (((⟨(1 :: putB s.size).toArray⟩ : ByteArray) ++ s).data.toList = 1 :: putB s.data.toList.length ++ s.data.toList) := by
      show _ = _
      rw [ByteArray.data_append, Array.toList_append, hl.out]
    have L2 : Hid (((⟨(2 :: putB s.size).toArray⟩ : ByteArray) ++ ⟨b.toArray⟩).data.toList = 2 :: putB s.data.toList.length ++ b) := by
      show _ = _
      rw [ByteArray.data_append, Array.toList_append, hl.out]
    have HA : Hid (∀ t : ByteArray, t.data.toList = (if (2 :: putB s.data.toList.length ++ b).length < (1 :: putB s.data.toList.length ++ s.data.toList).length then 2 :: putB s.data.toList.length ++ b else 1 :: putB s.data.toList.length ++ s.data.toList) → PrAns s.data.toList t.data.toList) := fun t ht => .inr ⟨HNo.out, b, HBd.out, ht⟩
    rw [← L1.out, ← L2.out] at HA
    simp only [List.length_cons] at zh1 zh2
    generalize (⟨(1 :: putB s.size).toArray⟩ : ByteArray) = g1 at *
    generalize (⟨(2 :: putB s.size).toArray⟩ : ByteArray) = g2 at *
    generalize (⟨b.toArray⟩ : ByteArray) = g3 at *
    obtain ⟨pl, hpl⟩ : ∃ x, g1 ++ s = x := ⟨_, rfl⟩
    obtain ⟨sh, hsh⟩ : ∃ x, g2 ++ g3 = x := ⟨_, rfl⟩
    have zpl : pl.size = g1.size + s.size := by rw [← hpl, ByteArray.size_append]
    have zsh : sh.size = g2.size + g3.size := by rw [← hsh, ByteArray.size_append]
    rw [hpl, hsh] at HA
    rw [hpl]
    have ep : Hid (pl.data.toList.length = pl.size) := by show _ = _; simp
    have es : Hid (sh.data.toList.length = sh.size) := by show _ = _; simp
    rw [ep.out, es.out] at HA
    have b1 : g2.size ≤ 600 := by omega
    have b2 : g3.size ≤ 9000 := by omega
    have b3 : pl.size ≤ 600 := by omega
    have b4 : sh.size ≤ 9600 := by omega
    clear hpl L1 L2 zpl zsh zh1 zh2 zb hbl hp10
    by_cases hlt : sh.size < pl.size
    · have t6 : decide (sh.size < pl.size) = true := decide_eq_true hlt
      have HF := Hid.mk' (HA.out sh (by rw [if_pos hlt]))
      clear hlt HA
      go_wp2_with fail
      go_ret2
      exact ⟨⟨_, rfl, HF.out⟩, HB4.out⟩
    · have t6 : decide (sh.size < pl.size) = false := decide_eq_false hlt
      have HF := Hid.mk' (HA.out pl (by rw [if_neg hlt]))
      clear hlt HA
      go_wp2_with fail
      go_ret2
      exact ⟨⟨_, rfl, HF.out⟩, HB4.out⟩
theorem press_large (s : ByteArray) (w : World) (hs : 512 < s.size) (hb : s.size ≤ 140737488355328) :
    Calls Tryd.prog 6 #[.string s] w fun e w' => e = .returned (.tuple #[.string ⟨#[]⟩, .int .i64 2]) ∧ w' = w := by
  go_enter Tryd.func6, Tryd.ntmps6
  go_wp2_with fail
  go_ret2
  exact ⟨rfl, rfl⟩
end Go.Proofs.YtcalbicfnhoklaaDoor

/- What is pressed is opened as it was. No Go in sight. -/
namespace Go.Proofs.YtcalbicfnhoklaaDoor

theorem rep_zero {s : List UInt8} (h : nou s) : List.replicate s.length 0 = s := by
  apply List.ext_getElem
  · simp
  · intro i h1 h2
    rw [List.getElem_replicate]
    have := h i h2
    rw [List.getD_eq_getElem?_getD, List.getElem?_eq_getElem h2, Option.getD_some] at this
    exact this.symm
theorem open_form (f : UInt8) (n : Nat) (hn : n ≤ 512) (b : List UInt8) : openR (f :: (putB n ++ b)) = bodyR f n b := by
  rw [openR_cons]
  obtain ⟨g1, g2, g3⟩ := get_put n (by omega) b
  rw [g1, g2, g3, List.drop_left, if_pos ⟨rfl, hn⟩]
theorem pr_size {s t : List UInt8} (h : PrAns s t) : t.length ≤ s.length + 1 + (putB s.length).length := by
  rcases h with ⟨_, rfl⟩ | ⟨_, b, _, rfl⟩
  · simp only [List.length_cons]; omega
  · split
    · rename_i hlt
      simp only [List.length_append, List.length_cons] at hlt ⊢
      omega
    · simp only [List.length_append, List.length_cons]; omega
theorem press_back {s t : List UInt8} (hs : s.length ≤ 512) (h : PrAns s t) : openR t = some s := by
  rcases h with ⟨h0, rfl⟩ | ⟨_, b, hb, rfl⟩
  · have := open_form 0 s.length hs []
    rw [List.append_nil] at this
    rw [this]
    unfold bodyR
    rw [if_pos rfl, if_pos rfl, rep_zero h0]
  · split
    · rw [List.cons_append, open_form 2 s.length hs b]
      unfold bodyR
      rw [if_neg (by decide), if_neg (by decide), if_pos rfl, body_back hb]
      simp
    · rw [List.cons_append, open_form 1 s.length hs s]
      unfold bodyR
      rw [if_neg (by decide), if_pos rfl, if_pos rfl]
end Go.Proofs.YtcalbicfnhoklaaDoor

/- The law PressBack, walked. -/
namespace Go.Proofs.YtcalbicfnhoklaaDoor
open Go.RowKit

set_option maxRecDepth 20000 in
set_option maxHeartbeats 800000 in
theorem pressBack_core (a0 : ByteArray) (w : World) (z0 : a0.data.toList.length ≤ reachBytes) :
    Calls Tryd.prog 3 #[.string a0] w fun e w' => e = .returned (.bool true) ∧ Below w.heap.size w w' := by
  have hl0 : a0.data.toList.length = a0.size := by simp
  unfold reachBytes at z0
  rw [hl0] at z0
  have HL := Hid.mk' hl0
  clear hl0
  by_cases h5 : a0.size ≤ 512
  · have t5 : decide (512 < a0.size) = false := decide_eq_false (by omega)
    go_enter Tryd.func3, Tryd.ntmps3
    go_wp2_with fail
    refine (press_any a0 _ h5).mono ?_
    rintro e w1 ⟨⟨t, rfl, ht⟩, hb1⟩
    have HB1 := Hid.mk' hb1
    have HO := Hid.mk' (press_back (by rw [HL.out]; exact h5) ht)
    have hts : t.size ≤ 140737488355328 := by
      have := pr_size ht
      rw [HL.out] at this
      have h2 : t.data.toList.length = t.size := by simp
      have h3 := putB_len10 a0.size (by omega)
      omega
    clear hb1 ht
    go_wp2_with fail
    refine (popen_any t _ hts).mono ?_
    rintro e w2 ⟨⟨x, e1, rfl, hans⟩, hb2⟩
    have HB2 : Hid (Below w.heap.size w w2) := HB1.out.trans (hb2.mono HB1.out.size)
    clear hb2
    rcases hans with ⟨rfl, hx⟩ | ⟨rfl, rfl, hx⟩
    · rw [HO.out] at hx
      obtain rfl : a0 = x := bytes_ext (Option.some.inj hx)
      have t7 : (a0.toList == a0.toList) = true := by simp
      clear hx
      go_wp2_with fail
      go_ret
      exact ⟨rfl, HB2.out⟩
    · rw [HO.out] at hx; cases hx
  · have t5 : decide (512 < a0.size) = true := decide_eq_true (by omega)
    go_enter Tryd.func3, Tryd.ntmps3
    go_wp2_with fail
    refine (press_large a0 _ (by omega) (by omega)).mono ?_
    rintro e w' ⟨rfl, hw'⟩; obtain rfl := hw'.symm
    go_wp2_with fail
    go_ret
    exact ⟨rfl, Below.refl _ _⟩
theorem pressBack_walk (a0 : ByteArray) (_w0 : a0.size ≤ maxLen) (z0 : a0.data.toList.length ≤ reachBytes) (w : World) (_h : True) :
    Calls Tryd.prog 3 #[.string a0] w fun e w' => e = .returned (.bool true) ∧ Below w.heap.size w w' := pressBack_core a0 w z0
end Go.Proofs.YtcalbicfnhoklaaDoor
