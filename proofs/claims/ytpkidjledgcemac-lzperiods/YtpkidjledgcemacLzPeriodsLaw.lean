/- The law LzPeriods, walked. -/
import Derived.Test.YtpkidjledgcemacExpandWalks
import Derived.Test.YtpkidjledgcemacWithinWalks
import Derived.Test.YtpkidjledgcemacRowMk
import Derived.Test.YtpkidjledgcemacPeriodMath
import Derived.Deep.QuietTactic
import Derived.BigQuiet
namespace Go.Proofs.Ytpkidjledgcemac
open Go.RowKit

theorem below_dP {B : Nat} {a w : World} (h : Below B a w) (q : Nat) : Below B a (w.drewN q) := ⟨h.os, h.tape, h.output, h.size, h.block⟩
theorem getD_byteP (s : ByteArray) (k : Nat) (h : k < s.size) : s.data.toList.getD k 0 = s[k] := by
  rw [List.getD_eq_getElem?_getD, List.getElem?_eq_getElem (by simpa using h)]; rfl
theorem sz_listP (s : ByteArray) : s.data.toList.length = s.size := by rw [Array.length_toList]; rfl
theorem take_byM (s : ByteArray) (k : Nat) (h : k < s.size) : (s.data.toList.take (k + 1)).map byM = (s.data.toList.take k).map byM ++ [⟨0, 0, s[k].toNat⟩] := by
  rw [List.take_succ_eq_append_getElem (by rw [sz_listP]; exact h), List.map_append, List.map_singleton]; rfl

set_option maxRecDepth 20000 in
set_option maxHeartbeats 2000000 in
theorem lzPeriods_walk (a0 : ByteArray) (a1 : Int) (w : World) (_w0 : a0.size ≤ maxLen) (z0 : a0.data.toList.length ≤ reachBytes) (w1 : (Lit.int .i64 a1).wf = true) :
    Calls Try.prog 5 #[.string a0, .int .i64 a1] w fun e w' => e = .returned (.bool true) ∧ Below w.heap.size w w' := by
  obtain ⟨k1, k2⟩ := bounds_i64 w1
  have hsz : a0.size ≤ 140737488355328 := by
    have e := sz_listP a0
    have := reachBytes_lt
    omega
  obtain ⟨i0, hi, hz0, hz1, hz2⟩ := info_parts infoMk
  have KI := Hid.mk' hi
  have KZ0 := Hid.mk' hz0
  have KZ1 := Hid.mk' hz1
  have KZ2 := Hid.mk' hz2
  clear hi hz0 hz1 hz2 w1
  obtain ⟨m0, hm0⟩ : ∃ m, min a0.size 60 = m := ⟨_, rfl⟩
  have hmin : (if (60 : Int) < (a0.size : Int) then (60 : Int) else (a0.size : Int)) = (m0 : Int) := by rw [← hm0]; split <;> omega
  have hm1 : m0 ≤ a0.size := by omega
  have hm2 : m0 ≤ 60 := by omega
  obtain ⟨S0, hS0⟩ : ∃ S, a0.extract 0 m0 = S := ⟨_, rfl⟩
  have hS0s : S0.size = m0 := by rw [← hS0, ByteArray.size_extract]; omega
  have hm3 : m0 = 0 → a0.size = 0 := fun h => by omega
  clear hm0
  by_cases hm : m0 = 0
  · have hE : S0.toList.isEmpty = true := by
      rw [ByteArray.toList_eq]
      have : S0.data.toList.length = 0 := by rw [sz_listP]; omega
      rw [List.length_eq_zero_iff.1 this]; rfl
    go_enter Try.func5, Try.ntmps5
    go_wp2_with fail
    obtain ⟨S, hS⟩ : ∃ S, Hid (ByteArray.mk #[120] = S) := ⟨_, Hid.mk' rfl⟩
    have hS1 : 1 ≤ S.size := by rw [← hS.out]; decide
    have hS2 : S.size ≤ 60 := by rw [← hS.out]; decide
    rw [hS.out]
    clear hS0 hS0s hE hmin
    refine (within_at a1 64 _ k1 k2 (by omega) (by omega)).mono ?_
    rintro e w ⟨⟨r, rfl, hr⟩, rfl⟩
    obtain ⟨n, hn⟩ : ∃ n, 3 + r = n := ⟨_, rfl⟩
    have x3 : (3 : Int) + (r : Int) = (n : Int) := by omega
    have hn3 : 3 ≤ n := by omega
    have hn66 : n ≤ 66 := by omega
    clear hr hn
    go_wp2_with fail
    clear x3
    go_loopw [5, 22] (fun lv iv wr => ∃ k : Nat, k ≤ S.size ∧ iv = .int .i64 (k : Int) ∧ wr.ownsRow w.heap.size 28 3 lv k (mkC ((S.data.toList.take k).map byM)) ∧ Below w.heap.size w wr) (fun _ iv _ => S.size - (intOf iv).toNat)
    case atStart => exact ⟨0, Nat.zero_le _, rfl, World.ownsRow_nil _ _ _ _, Below.refl _ _⟩
    case round =>
      obtain ⟨k, hk, rfl, hown, hbl⟩ := hrel
      have HO := Hid.mk' hown
      have HB := Hid.mk' hbl
      have hsb := hbl.size
      clear hown hbl
      by_cases hlt : k < S.size
      · have htk := Hid.mk' (take_byM S k hlt)
        have hb256 := S[k].toNat_lt
        go_wp2_with (at_builtin; refine wpList_append_own _ rfl (.tmp 25) (.tmp 30) 22 rfl w.heap.size 28 i0 (.agg #[.int .i64 0, .int .i64 0, .int .u8 0]) 3 24 Try.underlying22 KI.out KZ0.out KZ1.out KZ2.out rfl (by decide) u5 _ _ rfl (HO.out.alloc _) ⟨wr.heap.size, 0, none⟩ 1 1 (mk3 ⟨0, 0, S[k].toNat⟩) rfl rfl (cells_mk3 _ ⟨0, 0, S[k].toNat⟩ _) (mk3_one _) (by unfold maxLen; omega) (by omega) (by simp; omega) ?_; intro v5 w5 hown5 hgrow5 _)
        have HO5 : Hid (w5.ownsRow w.heap.size 28 3 v5 (k + 1) (mkC ((S.data.toList.take (k + 1)).map byM))) := by rw [htk.out, mkC_snoc]; exact hown5
        have HB5 : Hid (Below w.heap.size w w5) := (HB.out.alloc hsb _).grown hgrow5 (by simp; omega) fun i hi => (HO.out.lt i hi).1
        clear hown5 hgrow5
        go_wp2_with fail
        go_roundw
        case rel => exact ⟨k + 1, by omega, by go_num, HO5.out, HB5.out⟩
        case measure => simp [intOf]; omega
      · have hks : k = S.size := by omega
        have HOk : Hid (wr.ownsRow w.heap.size 28 3 u5 S.size (mkC (S.data.toList.map byM))) := by
          have := HO.out
          rw [hks, ← sz_listP, List.take_length, sz_listP] at this
          exact this
        have hper := ex_period S.data.toList n (by rw [sz_listP]; exact hS1) (by rw [sz_listP]; exact hS2) hn3 hn66
        rw [sz_listP] at hper
        clear HO hks
        go_wp2_with (at_builtin; refine wpList_append_own _ rfl (.tmp 34) (.tmp 39) 22 rfl w.heap.size 28 i0 (.agg #[.int .i64 0, .int .i64 0, .int .u8 0]) 3 24 Try.underlying22 KI.out KZ0.out KZ1.out KZ2.out rfl (by decide) u5 _ _ rfl (HOk.out.alloc _) ⟨wr.heap.size, 0, none⟩ 1 1 (mk3 ⟨(n : Int), (S.size : Int), 0⟩) rfl rfl (cells_mk3 _ ⟨(n : Int), (S.size : Int), 0⟩ _) (mk3_one _) (by unfold maxLen; omega) (by omega) (by simp; omega) ?_; intro v5 w5 hown5 hgrow5 _)
        have HB5 : Hid (Below w.heap.size w w5) := (HB.out.alloc hsb _).grown hgrow5 (by simp; omega) fun i hi => (HOk.out.lt i hi).1
        have hll : (S.data.toList.map byM ++ [(⟨(n : Int), (S.size : Int), 0⟩ : Mk)]).length = S.size + 1 := by simp
        obtain ⟨ao, cp, rfl, _, _, hmk⟩ := mks_of_own (l := S.data.toList.map byM ++ [(⟨(n : Int), (S.size : Int), 0⟩ : Mk)]) (by rw [mkC_snoc]; exact hown5) hll.symm (by omega) (by
          intro m hm
          rw [List.mem_append] at hm
          rcases hm with hm | hm
          · obtain ⟨b, _, rfl⟩ := List.mem_map.1 hm
            have := b.toNat_lt
            exact ⟨by simp [byM], by simp [byM], by simpa [byM] using this⟩
          · rw [List.mem_singleton.1 hm]
            exact ⟨by simp only; omega, by simp only; omega, by simp only; omega⟩)
        have HMk := Hid.mk' hmk
        have hrow := mkL_row (S.data.toList.map byM ++ [(⟨(n : Int), (S.size : Int), 0⟩ : Mk)])
        rw [hll] at hrow
        have HRow := Hid.mk' hrow
        clear hown5 hgrow5 hmk hrow hll
        go_wp2_with fail
        refine (expand_any ao (S.size + 1) cp _ _ HMk.out).mono ?_
        rintro e w6 ⟨rfl, hb6⟩
        have HB6 := Hid.mk' (HB5.out.trans (hb6.mono HB5.out.size))
        rw [HRow.out, hper.1]
        obtain ⟨T, hT⟩ : ∃ T, Hid (ByteArray.mk (exA (S.data.toList.map byM ++ [(⟨(n : Int), (S.size : Int), 0⟩ : Mk)])).toArray = T) := ⟨_, Hid.mk' rfl⟩
        have hTs : T.size = S.size + n := by rw [← hT.out]; exact hper.2.1
        have HTg : Hid (∀ i, i < S.size + n → T.data.toList.getD i 0 = S.data.toList.getD (i % S.size) 0) := by rw [← hT.out]; exact hper.2.2
        rw [hT.out]
        clear hb6 hper
        have tne : ((S.size : Int) + (n : Int) != (S.size : Int) + (n : Int)) = false := by simp
        obtain ⟨L, hL⟩ : ∃ L, S.size + n = L := ⟨_, rfl⟩
        have xL : (S.size : Int) + (n : Int) = (L : Int) := by omega
        rw [hL] at hTs HTg
        go_wp2_with fail
        clear xL tne
        go_loopw [57] (fun iv ws => ∃ i q : Nat, i ≤ L ∧ iv = .int .i64 (i : Int) ∧ ws = w6.drewN q) (fun iv _ => L - (intOf iv).toNat)
        case atStart => exact ⟨0, 0, Nat.zero_le _, rfl, rfl⟩
        case round =>
          obtain ⟨i, q, hi, rfl, rfl⟩ := hrel
          by_cases hil : i < L
          · obtain ⟨r2, hr2⟩ : ∃ r2, i % S.size = r2 := ⟨_, rfl⟩
            have hr2s : r2 < S.size := by rw [← hr2]; exact Nat.mod_lt _ (by omega)
            have x5 : (i : Int) % (S.size : Int) = (r2 : Int) := by rw [← hr2]; exact (Int.natCast_emod i S.size).symm
            have hS0' : ((S.size : Int) == 0) = false := by rw [beq_eq_false_iff_ne]; omega
            have hiT : i < T.size := by omega
            have heq := HTg.out i hil
            rw [hr2, getD_byteP T i hiT, getD_byteP S r2 hr2s] at heq
            have tq : ((T[i].toNat : Int) != (S[r2].toNat : Int)) = false := by rw [heq]; simp
            have hiTs : (i : Int) < (T.size : Int) := by omega
            clear hr2 heq
            go_wp2_with fail
            go_quiet (fail)
            go_wp2_with fail
            go_roundw
            case rel => exact ⟨i + 1, _, by omega, by go_num, rfl⟩
            case measure => simp [intOf]; omega
          · go_wp2_with fail
            go_ret
            exact ⟨rfl, below_dP HB6.out _⟩
  · have hE : S0.toList.isEmpty = false := by
      rw [ByteArray.toList_eq]
      cases hl : S0.data.toList with
      | nil => have := sz_listP S0; rw [hl] at this; simp at this; omega
      | cons a t => rfl
    go_enter Try.func5, Try.ntmps5
    go_wp2_with fail
    obtain ⟨S, hS⟩ : ∃ S, Hid (S0 = S) := ⟨_, Hid.mk' rfl⟩
    have hS1 : 1 ≤ S.size := by rw [← hS.out]; omega
    have hS2 : S.size ≤ 60 := by rw [← hS.out]; omega
    rw [hS.out]
    clear hS0 hS0s hE hmin
    refine (within_at a1 64 _ k1 k2 (by omega) (by omega)).mono ?_
    rintro e w ⟨⟨r, rfl, hr⟩, rfl⟩
    obtain ⟨n, hn⟩ : ∃ n, 3 + r = n := ⟨_, rfl⟩
    have x3 : (3 : Int) + (r : Int) = (n : Int) := by omega
    have hn3 : 3 ≤ n := by omega
    have hn66 : n ≤ 66 := by omega
    clear hr hn
    go_wp2_with fail
    clear x3
    go_loopw [5, 22] (fun lv iv wr => ∃ k : Nat, k ≤ S.size ∧ iv = .int .i64 (k : Int) ∧ wr.ownsRow w.heap.size 28 3 lv k (mkC ((S.data.toList.take k).map byM)) ∧ Below w.heap.size w wr) (fun _ iv _ => S.size - (intOf iv).toNat)
    case atStart => exact ⟨0, Nat.zero_le _, rfl, World.ownsRow_nil _ _ _ _, Below.refl _ _⟩
    case round =>
      obtain ⟨k, hk, rfl, hown, hbl⟩ := hrel
      have HO := Hid.mk' hown
      have HB := Hid.mk' hbl
      have hsb := hbl.size
      clear hown hbl
      by_cases hlt : k < S.size
      · have htk := Hid.mk' (take_byM S k hlt)
        have hb256 := S[k].toNat_lt
        go_wp2_with (at_builtin; refine wpList_append_own _ rfl (.tmp 25) (.tmp 30) 22 rfl w.heap.size 28 i0 (.agg #[.int .i64 0, .int .i64 0, .int .u8 0]) 3 24 Try.underlying22 KI.out KZ0.out KZ1.out KZ2.out rfl (by decide) u5 _ _ rfl (HO.out.alloc _) ⟨wr.heap.size, 0, none⟩ 1 1 (mk3 ⟨0, 0, S[k].toNat⟩) rfl rfl (cells_mk3 _ ⟨0, 0, S[k].toNat⟩ _) (mk3_one _) (by unfold maxLen; omega) (by omega) (by simp; omega) ?_; intro v5 w5 hown5 hgrow5 _)
        have HO5 : Hid (w5.ownsRow w.heap.size 28 3 v5 (k + 1) (mkC ((S.data.toList.take (k + 1)).map byM))) := by rw [htk.out, mkC_snoc]; exact hown5
        have HB5 : Hid (Below w.heap.size w w5) := (HB.out.alloc hsb _).grown hgrow5 (by simp; omega) fun i hi => (HO.out.lt i hi).1
        clear hown5 hgrow5
        go_wp2_with fail
        go_roundw
        case rel => exact ⟨k + 1, by omega, by go_num, HO5.out, HB5.out⟩
        case measure => simp [intOf]; omega
      · have hks : k = S.size := by omega
        have HOk : Hid (wr.ownsRow w.heap.size 28 3 u5 S.size (mkC (S.data.toList.map byM))) := by
          have := HO.out
          rw [hks, ← sz_listP, List.take_length, sz_listP] at this
          exact this
        have hper := ex_period S.data.toList n (by rw [sz_listP]; exact hS1) (by rw [sz_listP]; exact hS2) hn3 hn66
        rw [sz_listP] at hper
        clear HO hks
        go_wp2_with (at_builtin; refine wpList_append_own _ rfl (.tmp 34) (.tmp 39) 22 rfl w.heap.size 28 i0 (.agg #[.int .i64 0, .int .i64 0, .int .u8 0]) 3 24 Try.underlying22 KI.out KZ0.out KZ1.out KZ2.out rfl (by decide) u5 _ _ rfl (HOk.out.alloc _) ⟨wr.heap.size, 0, none⟩ 1 1 (mk3 ⟨(n : Int), (S.size : Int), 0⟩) rfl rfl (cells_mk3 _ ⟨(n : Int), (S.size : Int), 0⟩ _) (mk3_one _) (by unfold maxLen; omega) (by omega) (by simp; omega) ?_; intro v5 w5 hown5 hgrow5 _)
        have HB5 : Hid (Below w.heap.size w w5) := (HB.out.alloc hsb _).grown hgrow5 (by simp; omega) fun i hi => (HOk.out.lt i hi).1
        have hll : (S.data.toList.map byM ++ [(⟨(n : Int), (S.size : Int), 0⟩ : Mk)]).length = S.size + 1 := by simp
        obtain ⟨ao, cp, rfl, _, _, hmk⟩ := mks_of_own (l := S.data.toList.map byM ++ [(⟨(n : Int), (S.size : Int), 0⟩ : Mk)]) (by rw [mkC_snoc]; exact hown5) hll.symm (by omega) (by
          intro m hm
          rw [List.mem_append] at hm
          rcases hm with hm | hm
          · obtain ⟨b, _, rfl⟩ := List.mem_map.1 hm
            have := b.toNat_lt
            exact ⟨by simp [byM], by simp [byM], by simpa [byM] using this⟩
          · rw [List.mem_singleton.1 hm]
            exact ⟨by simp only; omega, by simp only; omega, by simp only; omega⟩)
        have HMk := Hid.mk' hmk
        have hrow := mkL_row (S.data.toList.map byM ++ [(⟨(n : Int), (S.size : Int), 0⟩ : Mk)])
        rw [hll] at hrow
        have HRow := Hid.mk' hrow
        clear hown5 hgrow5 hmk hrow hll
        go_wp2_with fail
        refine (expand_any ao (S.size + 1) cp _ _ HMk.out).mono ?_
        rintro e w6 ⟨rfl, hb6⟩
        have HB6 := Hid.mk' (HB5.out.trans (hb6.mono HB5.out.size))
        rw [HRow.out, hper.1]
        obtain ⟨T, hT⟩ : ∃ T, Hid (ByteArray.mk (exA (S.data.toList.map byM ++ [(⟨(n : Int), (S.size : Int), 0⟩ : Mk)])).toArray = T) := ⟨_, Hid.mk' rfl⟩
        have hTs : T.size = S.size + n := by rw [← hT.out]; exact hper.2.1
        have HTg : Hid (∀ i, i < S.size + n → T.data.toList.getD i 0 = S.data.toList.getD (i % S.size) 0) := by rw [← hT.out]; exact hper.2.2
        rw [hT.out]
        clear hb6 hper
        have tne : ((S.size : Int) + (n : Int) != (S.size : Int) + (n : Int)) = false := by simp
        obtain ⟨L, hL⟩ : ∃ L, S.size + n = L := ⟨_, rfl⟩
        have xL : (S.size : Int) + (n : Int) = (L : Int) := by omega
        rw [hL] at hTs HTg
        go_wp2_with fail
        clear xL tne
        go_loopw [57] (fun iv ws => ∃ i q : Nat, i ≤ L ∧ iv = .int .i64 (i : Int) ∧ ws = w6.drewN q) (fun iv _ => L - (intOf iv).toNat)
        case atStart => exact ⟨0, 0, Nat.zero_le _, rfl, rfl⟩
        case round =>
          obtain ⟨i, q, hi, rfl, rfl⟩ := hrel
          by_cases hil : i < L
          · obtain ⟨r2, hr2⟩ : ∃ r2, i % S.size = r2 := ⟨_, rfl⟩
            have hr2s : r2 < S.size := by rw [← hr2]; exact Nat.mod_lt _ (by omega)
            have x5 : (i : Int) % (S.size : Int) = (r2 : Int) := by rw [← hr2]; exact (Int.natCast_emod i S.size).symm
            have hS0' : ((S.size : Int) == 0) = false := by rw [beq_eq_false_iff_ne]; omega
            have hiT : i < T.size := by omega
            have heq := HTg.out i hil
            rw [hr2, getD_byteP T i hiT, getD_byteP S r2 hr2s] at heq
            have tq : ((T[i].toNat : Int) != (S[r2].toNat : Int)) = false := by rw [heq]; simp
            have hiTs : (i : Int) < (T.size : Int) := by omega
            clear hr2 heq
            go_wp2_with fail
            go_quiet (fail)
            go_wp2_with fail
            go_roundw
            case rel => exact ⟨i + 1, _, by omega, by go_num, rfl⟩
            case measure => simp [intOf]; omega
          · go_wp2_with fail
            go_ret
            exact ⟨rfl, below_dP HB6.out _⟩
end Go.Proofs.Ytpkidjledgcemac
