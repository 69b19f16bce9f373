/- The law SealBursts, walked. -/
import Derived.Test.YtbhobflnaogomaaDoorOpenWalks
import Derived.Test.YtbhobflnaogomaaDoorBurstAny
import Derived.Test.YtbhobflnaogomaaDoorWithinWalks
namespace Go.Proofs.YtbhobflnaogomaaDoor
open Go.RowKit

/-- a text of the same length that has the sum of what was sealed is what was sealed -/
theorem opn_turned {k n : Int} {b t : ByteArray} (h : selE k n b.size = 0) (ht : t.size = (slT k n b).size) (hi : sumC (slT k n b).data.toList = sumC t.data.toList ↔ slT k n b = t) : (slT k n b = t ∧ opE t.data.toList = 0) ∨ (slT k n b ≠ t ∧ opE t.data.toList = 5) := by
  obtain ⟨⟨h1, h2, h3⟩, h4⟩ := selE_ok h
  obtain ⟨k', rfl⟩ := Int.eq_ofNat_of_zero_le (show 0 ≤ k by omega)
  obtain ⟨n', rfl⟩ := Int.eq_ofNat_of_zero_le h2
  have h' : selE (k' : Int) (n' : Int) b.data.toList.length = 0 := by rw [size_list]; exact h
  obtain ⟨o1, _, _, _⟩ := open_sel h'
  have e : (slT (k' : Int) (n' : Int) b).data.toList = selS k' n' b.data.toList := by
    unfold slT
    rw [if_pos h]
    simp only [Int.toNat_natCast]
    rw [txS_list]
  by_cases heq : slT (k' : Int) (n' : Int) b = t
  · refine .inl ⟨heq, ?_⟩
    rw [← heq, e]; exact o1
  · refine .inr ⟨heq, ?_⟩
    have hl : t.data.toList.length = 11 + b.size := by rw [size_list, ht, ← size_list, e, selS_len, size_list]
    have hng : ¬ Good t.data.toList := by
      intro hg
      refine heq (hi.1 ?_)
      rw [good_sum hg, e, good_sum (selS_good _ _ _)]
    unfold Good at hng
    unfold opE
    rw [if_neg (by omega), if_neg (by omega), if_neg hng]
theorem noughts_opn (m : Nat) (h : m ≤ 1000) : opE (List.replicate (11 + m) (0 : UInt8)) = 4 ∨ opE (List.replicate (11 + m) (0 : UInt8)) = 5 := by
  have hl : (List.replicate (11 + m) (0 : UInt8)).length = 11 + m := List.length_replicate
  have hk : kiS (List.replicate (11 + m) (0 : UInt8)) = 0 := by
    unfold kiS
    rw [List.take_replicate, show min 1 (11 + m) = 1 by omega]
    decide
  unfold opE
  rw [if_neg (by omega), if_neg (by omega), hk]
  split
  · rw [if_neg (fun h => by have := (mayS_iff _ _).1 h.1; omega)]; exact .inl rfl
  · exact .inr rfl
theorem infoByteN : (Tryd.prog.info? 5).map (fun i => (i.zero, i.size, i.bytes)) = some (some (.int .u8 0), 1, 1) := by kernel_rfl
theorem made_stringN (n : Nat) (w : World) : (convert 31 9 (.slice (some ⟨w.heap.size, 0, none⟩) n n)).run Tryd.prog (w.alloc (.cells (madeCells #[.int .u8 0] n) 5)) = .ok (.string (txS (List.replicate n 0))) (w.alloc (.cells (madeCells #[.int .u8 0] n) 5)) := by
  have h := run_convert_bytes_back (P := Tryd.prog) (w.alloc (.cells (madeCells #[.int .u8 0] n) 5)) 31 9 5 ⟨w.heap.size, 0, none⟩ n (List.replicate n 0) Tryd.underlying31 Tryd.underlying5 Tryd.underlying9 fun j hj => by
    have hj' : j < n := by simpa using hj
    rw [show (⟨w.heap.size, 0, none⟩ : Addr).add j = ⟨w.heap.size, j, none⟩ by unfold Addr.add; split <;> simp_all, World.cell?_alloc_new]
    simp [madeCells, hj', Nat.mod_one]
  rwa [List.length_replicate] at h
set_option maxRecDepth 20000 in
set_option maxHeartbeats 800000 in
theorem sealBursts_at (k n : Int) (b : ByteArray) (v : Int) (u : BitVec 32) (w : World) (hb : b.size ≤ 140737488355328) (v1 : -9223372036854775808 ≤ v) (v2 : v ≤ 9223372036854775807) (hT : Tab w) :
    Calls Tryd.prog 6 #[.int .i64 k, .int .i64 n, .string b, .int .i64 v, .int .u32 (B u)] w fun e w' => e = .returned (.bool true) ∧ Below w.heap.size w w' := by
  have HT := Hid.mk' hT
  obtain ⟨T, hTt⟩ : ∃ T, Hid (slT k n b = T) := ⟨_, Hid.mk' rfl⟩
  obtain ⟨q, hq⟩ : ∃ q, Hid (selE k n b.size = q) := ⟨_, Hid.mk' rfl⟩
  go_enter Tryd.func6, Tryd.ntmps6
  go_wp2_with fail
  refine (seal_any k n b w HT.out hb).mono ?_
  rintro e w1 ⟨he, hb1⟩
  rw [sl_ans he, hTt.out, hq.out]
  have HB1 := Hid.mk' hb1
  clear hb1 he
  by_cases h0 : q = 0
  · subst h0
    have hTz : T.size ≤ 1011 := by
      rw [← hTt.out]
      unfold slT
      have := (selE_ok hq.out).2
      rw [if_pos hq.out, txS_size, selS_len, size_list]; omega
    have hturn := Hid.mk' (fun (t : ByteArray) => @opn_turned k n b t)
    rw [hTt.out] at hturn
    go_wp2_with fail
    refine (burst_any T v u w1 v1 v2 (by omega)).mono ?_
    rintro e w2 ⟨⟨t, rfl, hsz, hiff⟩, hb2⟩
    have HB2 := Hid.mk' (HB1.out.trans (hb2.mono HB1.out.size))
    have hres := Hid.mk' (hturn.out t hq.out hsz hiff)
    have htz : t.size ≤ 140737488355328 := by omega
    clear hb2 hsz hiff
    obtain ⟨q2, hq2⟩ : ∃ q, Hid ((opn4 t.data.toList).2.2 = q) := ⟨_, Hid.mk' rfl⟩
    have hq2' : Hid (q2 = opE t.data.toList) := by
      show _ = _
      rw [← hq2.out]
      unfold opn4
      split
      · rename_i h; rw [h]
      · rfl
    go_wp2_with fail
    refine (open_any t w2 (tab_belowS HT.out HB2.out) htz).mono ?_
    rintro e w3 ⟨he, hb3⟩
    rw [opn_ans he, hq2.out]
    have HB3 := Hid.mk' (HB2.out.trans (hb3.mono HB2.out.size))
    clear hb3 he
    go_wp2_with fail
    refine (within_at v 1001 w3 v1 v2 (by omega) (by omega)).mono ?_
    rintro e w4 ⟨⟨m, rfl, hm⟩, rfl⟩
    have hm' : m ≤ 1000 := by omega
    have em : (11 : Int) + (m : Int) = ((11 + m : Nat) : Int) := by omega
    obtain ⟨M, hM⟩ : ∃ M, Hid (11 + m = M) := ⟨_, Hid.mk' rfl⟩
    rw [hM.out] at em
    have hM2 : M ≤ 1011 := by have := hM.out; omega
    have hno := Hid.mk' (noughts_opn m hm')
    rw [hM.out] at hno
    have hmk := fun w => run_make_row' (P := Tryd.prog) 31 5 (.int .u8 0) 1 Tryd.underlying31 infoByteN rfl .i64 .i64 M (by omega) (by omega) w
    have hcv := fun w => made_stringN M w
    clear hm
    go_wp2_with fail
    have HB4 := Hid.mk' (HB3.out.alloc HB3.out.size (.cells (madeCells #[.int .u8 0] M) 5))
    refine (open_any (txS (List.replicate M 0)) _ (tab_belowS HT.out HB4.out) (by rw [txS_size, List.length_replicate]; omega)).mono ?_
    rintro e w5 ⟨he, hb5⟩
    rw [opn_ans he]
    have HB5 := Hid.mk' (HB4.out.trans (hb5.mono HB4.out.size))
    clear hb5 he
    obtain ⟨q3, hq3⟩ : ∃ q, Hid ((opn4 (txS (List.replicate M 0)).data.toList).2.2 = q) := ⟨_, Hid.mk' rfl⟩
    have hq3' : Hid (q3 = 4 ∨ q3 = 5) := by
      show _ ∨ _
      rw [← hq3.out, txS_list]
      unfold opn4
      have h := hno.out
      split
      · rename_i h0; rw [h0] at h; omega
      · exact h
    rw [hq3.out]
    rcases hres.out with ⟨rfl, h2⟩ | ⟨h1, h2⟩
    · have e2 : q2 = 0 := by rw [hq2'.out, h2]
      subst e2
      rcases hq3'.out with rfl | rfl
      all_goals
        go_wp2_with fail
        go_ret
        exact ⟨rfl, HB5.out⟩
    · have e2 : q2 = 5 := by rw [hq2'.out, h2]
      subst e2
      have tT : (T.toList == t.toList) = false := by
        rw [beq_eq_false_iff_ne, ByteArray.toList_eq, ByteArray.toList_eq]
        exact fun h => h1 (bytes_ext h)
      clear h1 h2
      rcases hq3'.out with rfl | rfl
      all_goals
        go_wp2_with fail
        go_ret
        exact ⟨rfl, HB5.out⟩
  · have hTe : T = ⟨#[]⟩ := by rw [← hTt.out]; unfold slT; rw [hq.out, if_neg h0]
    have tq : (q != 0) = true := by rw [bne_iff_ne]; exact h0
    subst hTe
    clear h0
    go_wp2_with fail
    go_ret
    exact ⟨rfl, HB1.out⟩
theorem sealBursts_walk (a0 a1 : Int) (a2 : ByteArray) (a3 a4 : Int) (_w0 : (Lit.int .i64 a0).wf = true) (_w1 : (Lit.int .i64 a1).wf = true) (_w2 : a2.size ≤ maxLen) (w3 : (Lit.int .i64 a3).wf = true) (w4 : (Lit.int .u32 a4).wf = true) (z2 : a2.data.toList.length ≤ reachBytes) (w : World) (hT : Tab w) :
    Calls Tryd.prog 6 #[.int .i64 a0, .int .i64 a1, .string a2, .int .i64 a3, .int .u32 a4] w fun e w' => e = .returned (.bool true) ∧ Below w.heap.size w w' := by
  obtain ⟨n, rfl, hn⟩ := u32_nat w4
  obtain ⟨h1, h2⟩ := bounds_i64 w3
  rw [B_of n hn]
  exact sealBursts_at a0 a1 a2 a3 _ w (by have := reachBytes_lt; rw [size_list] at z2; omega) h1 h2 hT
end Go.Proofs.YtbhobflnaogomaaDoor
