import Derived.Test.YtcalbicfnhoklaaDoorLenTop
import Derived.Test.YtcalbicfnhoklaaDoorMsag
import Derived.Test.YtcalbicfnhoklaaDoorMsah
import Derived.Test.YtcalbicfnhoklaaDoorMsai
import Derived.Test.YtcalbicfnhoklaaDoorMsaj

/- What press.signsOf answers. -/
namespace Go.Proofs.YtcalbicfnhoklaaDoor
open Go.RowKit

def cellsNN (l : List Nat) : List Value := l.map fun i : Nat => .int .i64 (i : Int)
theorem cellsNN_snoc (l : List Nat) (k : Nat) : cellsNN (l ++ [k]) = cellsNN l ++ [.int .i64 (k : Int)] := by simp [cellsNN]
theorem one_new' (w : World) (o : Obj) (x : Int) (t : TypeId) : ∀ j u, [Value.int .i64 x][j]? = some u → ((w.alloc o).alloc (.cells #[.int .i64 x] t)).cell? ((⟨w.heap.size + 1, 0, none⟩ : Addr).add j) = some u := by
  have h := cell_one_new (w.alloc o) (.int .i64 x) t
  rwa [show (w.alloc o).heap.size = w.heap.size + 1 by simp] at h
set_option maxRecDepth 20000 in
set_option maxHeartbeats 2000000 in
theorem signs_any (a0 : Option Addr) (cap : Nat) (ms : List Mk) (n : Nat) (w : World) (hn : ms.length = n) (hn5 : n ≤ 512) (hP : Mks w a0 n (rowM ms)) (hm : ∀ m ∈ ms, MkFd m) :
    Calls Tryd.prog 23 #[.slice a0 n cap] w fun e w' => (∃ u v, e = .returned (.tuple #[u, v]) ∧ w'.ownsRow w.heap.size 3 1 u n (cellsNN (ms.map sgnM)) ∧ w'.ownsRow w.heap.size 3 1 v (lgsM ms).length (cellsNN (lgsM ms))) ∧ Below w.heap.size w w' := by
  have HP := Hid.mk' hP
  have HM := Hid.mk' hm
  have HN := Hid.mk' hn
  obtain ⟨i0, hi, hz0, hz1, hz2⟩ := info_parts infoI64
  have KI := Hid.mk' hi
  have KZ0 := Hid.mk' hz0
  have KZ1 := Hid.mk' hz1
  have KZ2 := Hid.mk' hz2
  clear hi hz0 hz1 hz2 hP hm hn
  go_enter Tryd.func23, Tryd.ntmps23
  go_wp2_with fail
  go_loopw [2, 3, 8] (fun uv vv iv wr => ∃ k : Nat, k ≤ n ∧ iv = .int .i64 (k : Int) ∧ wr.ownsRow w.heap.size 3 1 uv k (cellsNN ((ms.take k).map sgnM)) ∧ wr.ownsRow w.heap.size 3 1 vv (lgsM (ms.take k)).length (cellsNN (lgsM (ms.take k))) ∧ Apart uv vv ∧ Below w.heap.size w wr) (fun _ _ iv _ => n - (intOf iv).toNat)
  case atStart => exact ⟨0, Nat.zero_le _, rfl, World.ownsRow_nil _ _ _ _, World.ownsRow_nil _ _ _ _, .inl rfl, Below.refl _ _⟩
  case round =>
    obtain ⟨k, hk, rfl, hu, hv, hap, hbl⟩ := hrel
    have HU := Hid.mk' hu
    have HV := Hid.mk' hv
    have HA := Hid.mk' hap
    have HB := Hid.mk' hbl
    have hsr := hbl.size
    clear hu hv hap hbl
    by_cases hlt : k < n
    · obtain ⟨b0, off0, rfl, hb0, hc0⟩ := HP.out.at' (by omega)
      obtain ⟨m, hmk⟩ : ∃ m, Hid (ms[k]'(by rw [HN.out]; exact hlt) = m) := ⟨_, Hid.mk' rfl⟩
      have hrm : rowM ms k = m := by unfold rowM; rw [List.getD_eq_getElem?_getD, List.getElem?_eq_getElem (by rw [HN.out]; exact hlt), ← hmk.out]; rfl
      have hfd := HM.out m (by rw [← hmk.out]; exact List.getElem_mem _)
      have htk : Hid (ms.take (k + 1) = ms.take k ++ [m]) := by show _ = _; rw [List.take_succ_eq_append_getElem (by rw [HN.out]; exact hlt), hmk.out]
      have d0 := (HB.out.cell (p := ⟨b0, off0 + k * 3, none⟩) hb0).trans (hc0 k hlt).1
      have d1 := (HB.out.cell (p := ⟨b0, off0 + k * 3 + 1, none⟩) hb0).trans (hc0 k hlt).2.1
      have d2 := (HB.out.cell (p := ⟨b0, off0 + k * 3 + 2, none⟩) hb0).trans (hc0 k hlt).2.2
      rw [hrm] at d0 d1 d2
      clear hc0 hrm
      have hlg := lgsM_len (ms.take k)
      rw [List.length_take, HN.out] at hlg
      rcases hfd with ⟨h1, h2, h3⟩ | ⟨h1, h2, h3, h4, h5⟩
      · obtain ⟨b, hb⟩ : ∃ b, m.by' = b := ⟨_, rfl⟩
        rw [h1] at d0
        rw [h2] at d1
        rw [hb] at d2 h3
        have HBox := box3_new wr 0 0 b 66
        have c0 := HBox.c0
        have c2 := HBox.c2
        have HUa : Hid ((wr.alloc (.cells #[.int .i64 0, .int .i64 0, .int .u8 (b : Int)] 66)).ownsRow w.heap.size 3 1 u2 k (cellsNN ((ms.take k).map sgnM))) := HU.out.alloc _
        have HVa : Hid ((wr.alloc (.cells #[.int .i64 0, .int .i64 0, .int .u8 (b : Int)] 66)).ownsRow w.heap.size 3 1 u3 (lgsM (ms.take k)).length (cellsNN (lgsM (ms.take k)))) := HV.out.alloc _
        have HBa : Hid (Below w.heap.size w (wr.alloc (.cells #[.int .i64 0, .int .i64 0, .int .u8 (b : Int)] 66))) := HB.out.alloc hsr _
        clear HBox
        have hsg : Hid (sgnM m = b) := by show _ = _; unfold sgnM; rw [if_pos h1, hb]
        have hlgs : Hid (lgsM (ms.take (k + 1)) = lgsM (ms.take k)) := by show _ = _; rw [htk.out, lgsM_snoc, if_pos h1, List.append_nil]
        clear hb h1 h2
        go_wp2_with (at_builtin; refine wpList_append_at rfl (.tmp 15) (.tmp 19) 50 rfl w.heap.size 3 i0 (.int .i64 0) 1 8 Tryd.underlying50 KI.out KZ0.out KZ1.out KZ2.out rfl (by decide) u2 _ _ rfl (HUa.out.alloc _) ⟨wr.heap.size + 1, 0, none⟩ 1 1 [.int .i64 (b : Int)] rfl rfl (one_new' wr _ _ _) (one_int _ _) (by unfold maxLen; omega) (by omega) (by simp; omega) ?_; intro v5 w5 hown5 hgrow5 hat5)
        have HU5 : Hid (w5.ownsRow w.heap.size 3 1 v5 (k + 1) (cellsNN ((ms.take (k + 1)).map sgnM))) := by
          rw [htk.out, List.map_append, List.map_singleton, cellsNN_snoc, hsg.out]; exact hown5
        have HV5 : Hid (w5.ownsRow w.heap.size 3 1 u3 (lgsM (ms.take (k + 1))).length (cellsNN (lgsM (ms.take (k + 1))))) := by
          rw [hlgs.out]
          exact (HVa.out.alloc _).kept hgrow5 HA.out.symm
        have HA5 : Hid (Apart v5 u3) := (apart_grown HA.out.symm (HVa.out.alloc _) (HUa.out.alloc _) hgrow5 hat5).symm
        have HB5 : Hid (Below w.heap.size w w5) := (HBa.out.alloc (by simp; omega) _).grown hgrow5 (by simp; omega) fun i hi => (HU.out.lt i hi).1
        clear hown5 hgrow5 hat5
        go_roundw
        case rel => exact ⟨k + 1, hlt, by go_num, HU5.out, HV5.out, HA5.out, HB5.out⟩
        case measure => simp [intOf]; omega
      · obtain ⟨l, hl⟩ : ∃ l : Nat, m.ln = (l : Int) := ⟨m.ln.toNat, by omega⟩
        obtain ⟨d, hd⟩ : ∃ d : Nat, m.ds = (d : Int) := ⟨m.ds.toNat, by omega⟩
        rw [hl] at d0 h1 h2
        rw [hd] at d1 h3 h4
        rw [h5] at d2
        have hl0 : ((l : Int) == 0) = false := by rw [beq_eq_false_iff_ne]; omega
        obtain ⟨sg, hsg'⟩ : ∃ sg, Hid (l + 253 = sg) := ⟨_, Hid.mk' rfl⟩
        have esg : IntKind.i64.wrap ((l : Int) + 253) = (sg : Int) := by rw [IntKind.wrap_i64, ← hsg'.out]; omega
        have hsg : Hid (sgnM m = sg) := by show _ = _; unfold sgnM; rw [if_neg (by rw [hl]; omega), hl, ← hsg'.out]; omega
        have hlgs : Hid (lgsM (ms.take (k + 1)) = lgsM (ms.take k) ++ [lgN d]) := by show _ = _; rw [htk.out, lgsM_snoc, if_neg (by rw [hl]; omega), hd, Int.toNat_natCast]
        have hlgd := (lg_is ⟨d, by omega⟩ (by show 0 < d; omega)).2.2.2
        simp only at hlgd
        have hd1 : 0 < d ∧ d < 512 := by omega
        obtain ⟨lg, hlg'⟩ : ∃ lg, Hid (lgN d = lg) := ⟨_, Hid.mk' rfl⟩
        rw [hlg'.out] at hlgs hlgd
        have ed : IntKind.u64.wrap (d : Int) = (d : Int) := by rw [IntKind.wrap_u64]; omega
        have elg : IntKind.i64.wrap (((lg + 1 : Nat) : Int) - 1) = (lg : Int) := by rw [IntKind.wrap_i64]; omega
        obtain ⟨lg1, hlg1⟩ : ∃ x, Hid (lg + 1 = x) := ⟨_, Hid.mk' rfl⟩
        rw [hlg1.out] at elg
        have hlg1b : lg1 ≤ 9 := by have := hlg1.out; omega
        have HBox := box3_new wr (l : Int) (d : Int) 0 66
        have c0 := HBox.c0
        have c1 := HBox.c1
        have HUa : Hid ((wr.alloc (.cells #[.int .i64 (l : Int), .int .i64 (d : Int), .int .u8 0] 66)).ownsRow w.heap.size 3 1 u2 k (cellsNN ((ms.take k).map sgnM))) := HU.out.alloc _
        have HVa : Hid ((wr.alloc (.cells #[.int .i64 (l : Int), .int .i64 (d : Int), .int .u8 0] 66)).ownsRow w.heap.size 3 1 u3 (lgsM (ms.take k)).length (cellsNN (lgsM (ms.take k)))) := HV.out.alloc _
        have HBa : Hid (Below w.heap.size w (wr.alloc (.cells #[.int .i64 (l : Int), .int .i64 (d : Int), .int .u8 0] 66))) := HB.out.alloc hsr _
        have HX1 := Hid.mk' c1
        clear HBox hl hd h5
        go_wp2_with (at_builtin; first | (refine wpList_append_at rfl (.tmp 21) (.tmp 25) 50 rfl w.heap.size 3 i0 (.int .i64 0) 1 8 Tryd.underlying50 KI.out KZ0.out KZ1.out KZ2.out rfl (by decide) u2 _ _ rfl (HUa.out.alloc _) ⟨wr.heap.size + 1, 0, none⟩ 1 1 [.int .i64 (sg : Int)] rfl rfl (one_new' wr _ _ _) (one_int _ _) (by unfold maxLen; omega) (by omega) (by simp; omega) ?_; intro v5 w5 hown5 hgrow5 hat5; have hgw5 : (wr.alloc (.cells #[.int .i64 (l : Int), .int .i64 (d : Int), .int .u8 0] 66)).heap.size ≤ w5.heap.size := (by have := hgrow5.size; simp at this ⊢; omega); have c5 : w5.cell? ⟨wr.heap.size, 1, none⟩ = some (.int .i64 (d : Int)) := (World.cell?_of_block (hgrow5.block wr.heap.size (by simp; omega) (fun he => by have := (HU.out.lt _ he.symm).2; omega))).trans ((World.cell?_of_block (Below.heap_alloc _ _ wr.heap.size (by simp))).trans HX1.out)) | fail)
        have HU5 : Hid (w5.ownsRow w.heap.size 3 1 v5 (k + 1) (cellsNN ((ms.take (k + 1)).map sgnM))) := by
          rw [htk.out, List.map_append, List.map_singleton, cellsNN_snoc, hsg.out]; exact hown5
        have HV5 : Hid (w5.ownsRow w.heap.size 3 1 u3 (lgsM (ms.take k)).length (cellsNN (lgsM (ms.take k)))) := (HVa.out.alloc _).kept hgrow5 HA.out.symm
        have HA5 : Hid (Apart v5 u3) := (apart_grown HA.out.symm (HVa.out.alloc _) (HUa.out.alloc _) hgrow5 hat5).symm
        have HB5 : Hid (Below w.heap.size w w5) := (HBa.out.alloc (by simp; omega) _).grown hgrow5 (by simp; omega) fun i hi => (HU.out.lt i hi).1
        have hs5 := HB5.out.size
        clear hown5 hgrow5 hat5
        refine (len_lo d w5 hd1.1 hd1.2).mono ?_
        rintro e w' ⟨rfl, hw'⟩; obtain rfl := hw'.symm
        rw [hlg'.out, hlg1.out]
        go_wp2_with (at_builtin; first | (refine wpList_append_at rfl (.tmp 27) (.tmp 33) 50 rfl w.heap.size 3 i0 (.int .i64 0) 1 8 Tryd.underlying50 KI.out KZ0.out KZ1.out KZ2.out rfl (by decide) u3 _ _ rfl (HV5.out.alloc _) ⟨w5.heap.size, 0, none⟩ 1 1 [.int .i64 (lg : Int)] rfl rfl (cell_one_new _ _ _) (one_int _ _) (by unfold maxLen; omega) (by omega) (by simp; omega) ?_; intro v6 w6 hown6 hgrow6 hat6) | fail)
        have HV6 : Hid (w6.ownsRow w.heap.size 3 1 v6 (lgsM (ms.take (k + 1))).length (cellsNN (lgsM (ms.take (k + 1))))) := by
          rw [hlgs.out, cellsNN_snoc, List.length_append]; exact hown6
        have HU6 : Hid (w6.ownsRow w.heap.size 3 1 v5 (k + 1) (cellsNN ((ms.take (k + 1)).map sgnM))) := (HU5.out.alloc _).kept hgrow6 HA5.out
        have HA6 : Hid (Apart v5 v6) := apart_grown HA5.out (HU5.out.alloc _) (HV5.out.alloc _) hgrow6 hat6
        have HB6 : Hid (Below w.heap.size w w6) := (HB5.out.alloc hs5 _).grown hgrow6 (by simp; omega) fun i hi => (HV5.out.lt i hi).1
        clear hown6 hgrow6 hat6
        go_roundw
        case rel => exact ⟨k + 1, hlt, by go_num, HU6.out, HV6.out, HA6.out, HB6.out⟩
        case measure => simp [intOf]; omega
    · have hkn : Hid (ms.take k = ms) := by show _ = _; exact List.take_of_length_le (by rw [HN.out]; omega)
      rw [hkn.out] at HU HV
      have hkn2 : Hid (k = n) := by show _ = _; omega
      rw [hkn2.out] at HU
      go_wp2_with fail
      go_ret2
      exact ⟨⟨_, _, rfl, HU.out, HV.out⟩, HB.out⟩
end Go.Proofs.YtcalbicfnhoklaaDoor
