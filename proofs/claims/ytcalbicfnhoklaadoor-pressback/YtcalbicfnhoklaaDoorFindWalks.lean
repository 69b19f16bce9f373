import Derived.Test.YtcalbicfnhoklaaDoorCopiesWalks
import Derived.Test.YtcalbicfnhoklaaDoorMsah
import Derived.BigRegion

/- What lz.Find answers. -/
namespace Go.Proofs.YtcalbicfnhoklaaDoor
open Go.RowKit

/-- marks that say s, as few as there may be -/
structure FindOk (s : List UInt8) (ms : List Mk) : Prop where
  few : FewIs s ms.length
  e : exE ms [] = 0
  t : exT ms [] = s
  b : ∀ m ∈ ms, (-9223372036854775808 ≤ m.ln ∧ m.ln ≤ 9223372036854775807) ∧ (-9223372036854775808 ≤ m.ds ∧ m.ds ≤ 9223372036854775807) ∧ m.by' < 256
/-- on the way, at p -/
structure FindSt (s : List UInt8) (K : Nat → Nat) (p : Nat) (ms : List Mk) : Prop where
  n : ms.length + K p = K 0
  e : exE ms [] = 0
  t : exT ms [] = s.take p
  b : ∀ m ∈ ms, (-9223372036854775808 ≤ m.ln ∧ m.ln ≤ 9223372036854775807) ∧ (-9223372036854775808 ≤ m.ds ∧ m.ds ≤ 9223372036854775807) ∧ m.by' < 256
theorem find_start (s : List UInt8) (K : Nat → Nat) : FindSt s K 0 [] := ⟨by simp, rfl, by simp [exT], fun m hm => by simp at hm⟩
theorem find_end {s : List UInt8} {K : Nat → Nat} {ms : List Mk} (h : FindSt s K s.length ms) (h0 : K s.length = 0) (hf : FewIs s (K 0)) : FindOk s ms :=
  ⟨by have := h.n; rw [h0, Nat.add_zero] at this; rw [this]; exact hf, h.e, by rw [h.t, List.take_length], h.b⟩
theorem find_add {s : List UInt8} {K : Nat → Nat} {p z : Nat} {ms : List Mk} (h : FindSt s K p ms) (m : Mk) (hp : p + z ≤ s.length) (h5 : s.length ≤ 512) (hk : K p = K (p + z) + 1) (hok : okM m = true) (hds : m.ds ≤ p) (hsz : szM m = z) (had : addM (s.take p) m = s.take (p + z))
    (hb : (-9223372036854775808 ≤ m.ln ∧ m.ln ≤ 9223372036854775807) ∧ (-9223372036854775808 ≤ m.ds ∧ m.ds ≤ 9223372036854775807) ∧ m.by' < 256) : FindSt s K (p + z) (ms ++ [m]) := by
  have hl : (s.take p).length = p := by rw [List.length_take]; omega
  refine ⟨by have := h.n; rw [List.length_append]; simp; omega, ?_, ?_, fun m' hm' => ?_⟩
  · rw [exE_cat, if_pos h.e, h.t, exE_step _ _ _ hok (by rw [hl]; omega) (by rw [hl, hsz]; omega)]; rfl
  · rw [exT_cat, h.t, exT, had]; rfl
  · rw [List.mem_append] at hm'
    rcases hm' with h1 | h1
    · exact h.b m' h1
    · rw [List.mem_singleton.1 h1]; exact hb
theorem find_byte {s : List UInt8} {K : Nat → Nat} {p : Nat} {ms : List Mk} (h : FindSt s K p ms) (hp : p + 1 ≤ s.length) (h5 : s.length ≤ 512) (hk : K p = K (p + 1) + 1) : FindSt s K (p + 1) (ms ++ [⟨0, 0, (s.getD p 0).toNat⟩]) := by
  refine find_add h _ hp h5 hk (okM_mk (.inl ⟨rfl, rfl⟩)) (by simp only; omega) rfl ?_ ⟨by simp, by simp, (s.getD p 0).toNat_lt⟩
  unfold addM
  rw [if_pos rfl]
  simp only [UInt8.ofNat_toNat]
  exact take_snoc s p (by omega)
theorem find_copy {s : List UInt8} {K : Nat → Nat} {p z l d : Nat} {ms : List Mk} (h : FindSt s K p ms) (hp : p + z ≤ s.length) (h5 : s.length ≤ 512) (hk : K p = K (p + z) + 1) (hz : 3 ≤ z) (hzl : z ≤ l) (hc : CopOk s p l d) : FindSt s K (p + z) (ms ++ [⟨(z : Int), (d : Int), 0⟩]) := by
  rcases hc.b with ⟨h0, _⟩ | ⟨h1, h2, h3, h4, h6, h7⟩
  · omega
  · refine find_add h _ hp h5 hk (okM_mk (.inr ⟨by simp only; omega, by simp only; omega, by simp only; omega, rfl⟩)) (by simp only; omega) ?_ ?_ ⟨by simp only; omega, by simp only; omega, by simp only; omega⟩
    · unfold szM
      rw [if_neg (by simp only; omega)]
      simp only [Int.toNat_natCast]
    · unfold addM
      rw [if_neg (by simp only; omega)]
      simp only [Int.toNat_natCast]
      exact cpy_take s d h4 z p h6 hp (sameAt_le h7 hzl)

theorem cells_mk3' (w : World) (o : Obj) (m : Mk) (t : TypeId) : ∀ j u, (mk3 m)[j]? = some u → ((w.alloc o).alloc (.cells #[.int .i64 m.ln, .int .i64 m.ds, .int .u8 (m.by' : Int)] t)).cell? ((⟨w.heap.size + 1, 0, none⟩ : Addr).add j) = some u := by
  have h := cells_mk3 (w.alloc o) m t
  rwa [show (w.alloc o).heap.size = w.heap.size + 1 by simp] at h
theorem cells_mk3d (w : World) (o : Obj) (m : Mk) (t : TypeId) : ∀ j u, (mk3 m)[j]? = some u → ((w.alloc o).drew.alloc (.cells #[.int .i64 m.ln, .int .i64 m.ds, .int .u8 (m.by' : Int)] t)).cell? ((⟨w.heap.size + 1, 0, none⟩ : Addr).add j) = some u := by
  have h := cells_mk3 (w.alloc o).drew m t
  rwa [show (w.alloc o).drew.heap.size = w.heap.size + 1 by show (w.alloc o).heap.size = _; simp] at h
theorem own_set3 {w : World} {base size n g : Nat} {e : TypeId} {v : Value} {xs : List Value} (h : w.ownsRow base e size v n xs) (hne : v.ownBlock ≠ some g) (a b c : Value) :
    (((w.setCell ⟨g, 0, none⟩ a).setCell ⟨g, 1, none⟩ b).setCell ⟨g, 2, none⟩ c).ownsRow base e size v n xs :=
  h.kept (row := some g) ⟨rfl, rfl, rfl, by simp [World.setCell], fun k _ hk => (heap_setCell_other _ _ _ _ (by intro e; exact hk (by simp [e]))).trans ((heap_setCell_other _ _ _ _ (by intro e; exact hk (by simp [e]))).trans (heap_setCell_other _ _ _ _ (by intro e; exact hk (by simp [e]))))⟩ (.inr hne)

set_option maxRecDepth 20000 in
set_option maxHeartbeats 2000000 in
theorem find_any (s : ByteArray) (w : World) (hs : s.size ≤ 512) :
    Calls Tryd.prog 22 #[.string s] w fun e w' => (∃ v ms, e = .returned (.tuple #[v, .int .i64 0]) ∧ w'.ownsRow w.heap.size 66 3 v ms.length (mkC ms) ∧ FindOk s.data.toList ms) ∧ Below w.heap.size w w' := by
  have HSl := Hid.mk' (sz_listC s)
  obtain ⟨i0, hi, hz0, hz1, hz2⟩ := info_parts infoMk
  have KI := Hid.mk' hi
  have KZ0 := Hid.mk' hz0
  have KZ1 := Hid.mk' hz1
  have KZ2 := Hid.mk' hz2
  clear hi hz0 hz1 hz2
  go_enter Tryd.func22, Tryd.ntmps22
  go_wp2_with fail
  refine (copies_any s _ hs).mono ?_
  rintro e w1 ⟨⟨g1, L, D, rfl, hg1, hrow, hcop⟩, hb1⟩
  have HR1 := Hid.mk' hrow
  have HC := Hid.mk' hcop
  have HB1 := Hid.mk' hb1
  have hs1 := hb1.size
  have HL66 : Hid (∀ i, i < s.size → L i ≤ 66 ∧ D i ≤ 512 ∧ i + L i ≤ s.size) := fun i hi => by
    rcases (hcop i hi).b with h | h
    · omega
    · rw [HSl.out] at h; omega
  have HM1 := Hid.mk' (hrow.mks hs (fun i hi => (HL66.out i hi).1) (fun i hi => (HL66.out i hi).2.1))
  have hgl := hrow.lt
  clear hrow hcop hb1
  go_wp2_with fail
  refine (sizes_any (some ⟨g1, 0, none⟩) s.size s.size _ L _ HM1.out hs (fun i hi => ⟨rfl, (HL66.out i hi).2.2⟩)).mono ?_
  rintro e w2 ⟨⟨g2, Z, K, rfl, hg2, hz, hst⟩, hb2⟩
  have HZ := Hid.mk' hz
  have HS := Hid.mk' hst
  have HR2 : Hid (RowM3 w2 g1 s.size L D) := HR1.out.block (hb2.block _ hgl) hb2.size
  have HB2 := Hid.mk' (HB1.out.trans (hb2.mono hs1))
  have hs2 := hb2.size
  have hg2l := hz.lt
  have HFew : Hid (FewIs s.data.toList (K 0)) := few_sizes (L := L) (D := D) (Z := Z) (by rw [HSl.out]; exact HC.out) (by rw [HSl.out]; exact HS.out)
  clear hz hst hb2
  go_wp2_with fail
  go_loopw [6, 7] (fun lv pv wr => ∃ (p : Nat) (ms : List Mk), p ≤ s.size ∧ pv = .int .i64 (p : Int) ∧ wr.ownsRow w2.heap.size 66 3 lv ms.length (mkC ms) ∧ ms.length ≤ p ∧ FindSt s.data.toList K p ms ∧ Below w2.heap.size w2 wr) (fun _ pv _ => s.size - (intOf pv).toNat)
  case atStart => exact ⟨0, [], Nat.zero_le _, rfl, World.ownsRow_nil _ _ _ _, Nat.le_refl _, find_start _ _, Below.refl _ _⟩
  case round =>
    obtain ⟨p, ms, hp, rfl, hown, hml, hfs, hbl⟩ := hrel
    have HO := Hid.mk' hown
    have HF := Hid.mk' hfs
    have HB := Hid.mk' hbl
    have hsr := hbl.size
    clear hown hfs hbl
    by_cases hlt : p < s.size
    · obtain ⟨hok, hzn, hkk⟩ := HS.out.z p (Nat.zero_le _) hlt
      have hKK := Hid.mk' hkk
      have HC0 : Hid (∀ ws : World, Below w2.heap.size w2 ws → ws.cell? ⟨g2, p, none⟩ = some (.int .i64 (Z p : Int)) ∧ ws.cell? ⟨g1, p * 3 + 1, none⟩ = some (.int .i64 (D p : Int))) := fun ws hb => ⟨(hb.cell (p := ⟨g2, p, none⟩) hg2l).trans (HZ.out.cell p hlt), (hb.cell (p := ⟨g1, p * 3 + 1, none⟩) HR2.out.lt).trans (HR2.out.c1 p hlt)⟩
      have hLD := HL66.out p hlt
      have hD512 := hLD.2.1
      have hL66 := hLD.1
      have hgd := getD_byteL s p hlt
      have hb256 := s[p].toNat_lt
      obtain ⟨z, hz⟩ : ∃ z, Z p = z := ⟨_, rfl⟩
      rw [hz] at hok hzn hKK HC0
      clear hkk hz hLD
      have HBox := Hid.mk' (box3_new wr 0 0 s[p].toNat 66)
      have HBW : Hid (Below w2.heap.size w2 (wr.alloc (.cells #[.int .i64 0, .int .i64 0, .int .u8 (s[p].toNat : Int)] 66))) := HB.out.alloc hsr _
      have HOW : Hid ((wr.alloc (.cells #[.int .i64 0, .int .i64 0, .int .u8 (s[p].toNat : Int)] 66)).ownsRow w2.heap.size 66 3 u6 ms.length (mkC ms)) := HO.out.alloc _
      have hnB : Hid (u6.ownBlock ≠ some wr.heap.size) := fun h => by have := (HO.out.lt _ h).2; omega
      have cz := (HC0.out _ HBW.out).1
      have cd := (HC0.out _ HBW.out).2
      have b0 := HBox.out.c0
      have b1 := HBox.out.c1
      have b2 := HBox.out.c2
      have e0 := HBox.out.f0
      have e1 := HBox.out.f1
      have e2 := HBox.out.f2
      have hms : ms.length ≤ 512 := by omega
      by_cases hz1 : z = 1
      · subst hz1
        have HF2 := Hid.mk' (find_byte HF.out (by rw [HSl.out]; exact hzn) (by rw [HSl.out]; exact hs) hKK.out)
        rw [hgd] at HF2
        clear hgd
        go_wp2_with (at_builtin; refine wpList_append_own _ rfl (.tmp 45) (.tmp 47) 47 rfl w2.heap.size 66 i0 (.agg #[.int .i64 0, .int .i64 0, .int .u8 0]) 3 24 Tryd.underlying47 KI.out KZ0.out KZ1.out KZ2.out rfl (by decide) u6 _ _ rfl (HOW.out.alloc _) ⟨wr.heap.size + 1, 0, none⟩ 1 1 (mk3 ⟨0, 0, s[p].toNat⟩) rfl rfl (cells_mk3' wr _ ⟨0, 0, s[p].toNat⟩ _) (mk3_one _) (by unfold maxLen; omega) (by omega) (by simp; omega) ?_; intro v5 w5 hown5 hgrow5 _; have HB5 : Hid (Below w2.heap.size w2 w5) := ((HBW.out.alloc (by simp; omega) _).grown hgrow5 (by simp; omega) fun i hi => (HO.out.lt i hi).1); have cz5 := (HC0.out _ HB5.out).1)
        have HO5 : Hid (w5.ownsRow w2.heap.size 66 3 v5 (ms ++ [(⟨0, 0, s[p].toNat⟩ : Mk)]).length (mkC (ms ++ [(⟨0, 0, s[p].toNat⟩ : Mk)]))) := by rw [mkC_snoc, List.length_append]; exact hown5
        clear hown5 hgrow5
        go_roundw
        case rel => exact ⟨p + 1, ms ++ [⟨0, 0, s[p].toNat⟩], by omega, by go_num, HO5.out, by simp; omega, HF2.out, HB5.out⟩
        case measure => simp [intOf]; omega
      · have hz3 : 3 ≤ z ∧ z ≤ L p := by rcases hok with h | h; exact absurd h hz1; exact h
        have hz3a := hz3.1
        have hz66 : z ≤ 66 := by omega
        have HF2 := Hid.mk' (find_copy HF.out (by rw [HSl.out]; exact hzn) (by rw [HSl.out]; exact hs) hKK.out hz3.1 hz3.2 (HC.out p hlt))
        have tz : decide (1 < z) = true := decide_eq_true (by omega)
        obtain ⟨d, hd⟩ : ∃ d, D p = d := ⟨_, rfl⟩
        rw [hd] at HF2 cd hD512
        clear hgd hok hz1 hz3 hd
        go_wp2_with fail
        go_region
        have hbx := box3_new wr (z : Int) (d : Int) 0 66
        have y0 : (wr.alloc (.cells #[.int .i64 (z : Int), .int .i64 (d : Int), .int .u8 0] 66)).drew.cell? ⟨wr.heap.size, 0, none⟩ = some (.int .i64 (z : Int)) := hbx.c0
        have y1 : (wr.alloc (.cells #[.int .i64 (z : Int), .int .i64 (d : Int), .int .u8 0] 66)).drew.cell? ⟨wr.heap.size, 1, none⟩ = some (.int .i64 (d : Int)) := hbx.c1
        have y2 : (wr.alloc (.cells #[.int .i64 (z : Int), .int .i64 (d : Int), .int .u8 0] 66)).drew.cell? ⟨wr.heap.size, 2, none⟩ = some (.int .u8 0) := hbx.c2
        have HOX : Hid ((wr.alloc (.cells #[.int .i64 (z : Int), .int .i64 (d : Int), .int .u8 0] 66)).drew.ownsRow w2.heap.size 66 3 u6 ms.length (mkC ms)) := (HO.out.alloc _).drew
        have HBX : Hid (Below w2.heap.size w2 (wr.alloc (.cells #[.int .i64 (z : Int), .int .i64 (d : Int), .int .u8 0] 66)).drew) := (HB.out.alloc hsr _).drew
        clear hbx cz cd b0 b1 b2 e0 e1 e2 HBW HOW HBox
        go_wp2_with (at_builtin; refine wpList_append_own _ rfl (.tmp 45) (.tmp 47) 47 rfl w2.heap.size 66 i0 (.agg #[.int .i64 0, .int .i64 0, .int .u8 0]) 3 24 Tryd.underlying47 KI.out KZ0.out KZ1.out KZ2.out rfl (by decide) u6 _ _ rfl (HOX.out.alloc _) ⟨wr.heap.size + 1, 0, none⟩ 1 1 (mk3 ⟨(z : Int), (d : Int), 0⟩) rfl rfl (cells_mk3d wr _ ⟨(z : Int), (d : Int), 0⟩ _) (mk3_one _) (by unfold maxLen; omega) (by omega) (by simp; omega) ?_; intro v5 w5 hown5 hgrow5 _; have HB5 : Hid (Below w2.heap.size w2 w5) := ((HBX.out.alloc (by simp; omega) _).grown hgrow5 (by simp; omega) fun i hi => (HO.out.lt i hi).1); have cz5 := (HC0.out _ HB5.out).1)
        have HO5 : Hid (w5.ownsRow w2.heap.size 66 3 v5 (ms ++ [(⟨(z : Int), (d : Int), 0⟩ : Mk)]).length (mkC (ms ++ [(⟨(z : Int), (d : Int), 0⟩ : Mk)]))) := by rw [mkC_snoc, List.length_append]; exact hown5
        clear hown5 hgrow5
        go_roundw
        case rel => exact ⟨p + z, ms ++ [⟨(z : Int), (d : Int), 0⟩], by omega, by go_num, HO5.out, by simp; omega, HF2.out, HB5.out⟩
        case measure => simp [intOf]; omega
    · have hpe : p = s.size := by omega
      have HFin : Hid (FindOk s.data.toList ms) := by
        refine find_end (K := K) (by rw [HSl.out, ← hpe]; exact HF.out) (by rw [HSl.out]; exact HS.out.e) HFew.out
      have HOf : Hid (wr.ownsRow w.heap.size 66 3 u6 ms.length (mkC ms)) := by
        refine ⟨HO.out.1, ?_⟩
        rcases HO.out.2 with h | ⟨g, cap, cur, h1, h2, h3⟩
        · exact .inl h
        · exact .inr ⟨g, cap, cur, h1, by omega, h3⟩
      have HBf : Hid (Below w.heap.size w wr) := HB2.out.trans (HB.out.mono (by omega))
      go_wp2_with fail
      go_ret2
      exact ⟨⟨u6, ms, rfl, HOf.out, HFin.out⟩, HBf.out⟩
theorem find_large (s : ByteArray) (w : World) (hs : 512 < s.size) (hb : s.size ≤ 140737488355328) :
    Calls Tryd.prog 22 #[.string s] w fun e w' => e = .returned (.tuple #[.slice none 0 0, .int .i64 2]) ∧ w' = w := by
  go_enter Tryd.func22, Tryd.ntmps22
  go_wp2_with fail
  go_ret2
  exact ⟨rfl, rfl⟩
end Go.Proofs.YtcalbicfnhoklaaDoor
