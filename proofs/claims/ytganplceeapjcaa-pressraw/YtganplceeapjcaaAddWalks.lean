/- What lz.size and lz.add answer. -/
import Derived.Test.YtganplceeapjcaaBytesKit
import Derived.Test.YtganplceeapjcaaMarkMath
import Derived.Test.YtganplceeapjcaaGrowAt
namespace Go.Proofs.Ytganplceeapjcaa
open Go.RowKit

set_option maxHeartbeats 400000 in
theorem size_any (x y : Int) (z : Nat) (w : World) (h : okM ⟨x, y, z⟩ = true) :
    Calls Try.prog 36 #[.agg #[.int .i64 x, .int .i64 y, .int .u8 (z : Int)]] w fun e w' => e = .returned (.int .i64 (szM ⟨x, y, z⟩ : Nat)) ∧ Below w.heap.size w w' := by
  have hB : Hid (∀ o : Obj, Below w.heap.size w (w.alloc o)) := fun o => (Below.refl _ _).alloc (Nat.le_refl _) o
  have ho := okM_of h
  clear h
  simp only at ho
  by_cases h0 : x = 0
  · subst h0
    go_enter Try.func36, Try.ntmps36
    go_wp2_with fail
    go_ret
    exact ⟨rfl, hB.out _⟩
  · have hs : Hid ((szM ⟨x, y, z⟩ : Int) = x) := by
      show _ = _
      unfold szM
      rw [if_neg h0]
      simp only
      omega
    have hmx : (if x < 1 then (1 : Int) else x) = x := by rw [if_neg (by omega)]
    have h3 : 1 < x := by omega
    clear ho h0
    go_enter Try.func36, Try.ntmps36
    go_wp2_with fail
    go_ret
    exact ⟨by rw [hs.out]; first | rfl | (congr 2), hB.out _⟩

theorem cell_one_new2 (w : World) (o : Obj) (v : Value) (t : TypeId) : ∀ j u, [v][j]? = some u → ((w.alloc o).alloc (.cells #[v] t)).cell? ((⟨w.heap.size + 1, 0, none⟩ : Addr).add j) = some u := by
  have h := cell_one_new (w.alloc o) v t
  rwa [show (w.alloc o).heap.size = w.heap.size + 1 by simp] at h
theorem own_byte {w : World} {N n : Nat} {v : Value} {l : List UInt8} (h : w.ownsRow N 5 1 v n (cellsB l)) (hn : n = l.length) (j : Nat) (hj : j < l.length) :
    ∃ g cap, v = .slice (some ⟨g, 0, none⟩) n cap ∧ g < w.heap.size ∧ w.cell? ⟨g, j, none⟩ = some (.int .u8 ((l.getD j 0).toNat : Int)) := by
  obtain ⟨g, cap, hv, _, hg, hc⟩ := own_some h (by omega)
  refine ⟨g, cap, hv, hg, ?_⟩
  have := hc j (.int .u8 ((l.getD j 0).toNat : Int)) (by
    unfold cellsB
    rw [List.getElem?_map, List.getElem?_eq_getElem hj, List.getD_eq_getElem?_getD, List.getElem?_eq_getElem hj]; rfl)
  rw [show (⟨g, 0, none⟩ : Addr).add j = ⟨g, j, none⟩ by unfold Addr.add; split <;> simp_all] at this
  exact this

set_option maxRecDepth 20000 in
set_option maxHeartbeats 1000000 in
theorem add_any (N : Nat) (w0 : World) (v : Value) (l : List UInt8) (x y : Int) (z : Nat) (w : World) (hown : w.ownsRow N 5 1 v l.length (cellsB l)) (hbl : Below N w0 w) (hN : N ≤ w.heap.size) (hok : okM ⟨x, y, z⟩ = true) (hd : y ≤ l.length) (hl : l.length + szM ⟨x, y, z⟩ ≤ 512) (hz : z < 256) :
    Calls Try.prog 37 #[v, .agg #[.int .i64 x, .int .i64 y, .int .u8 (z : Int)]] w fun e w' => (∃ v', e = .returned v' ∧ w'.ownsRow N 5 1 v' (addM l ⟨x, y, z⟩).length (cellsB (addM l ⟨x, y, z⟩))) ∧ Below N w0 w' := by
  obtain ⟨i0, hi, hz0, hz1, hz2⟩ := info_parts infoByteP
  have KI := Hid.mk' hi
  have KZ0 := Hid.mk' hz0
  have KZ1 := Hid.mk' hz1
  have KZ2 := Hid.mk' hz2
  clear hi hz0 hz1 hz2
  have ho := okM_of hok
  simp only at ho
  clear hok
  have hnB : Hid (v.ownBlock ≠ some w.heap.size) := fun h => by have := (hown.lt _ h).2; omega
  have HO := Hid.mk' hown
  have HB := Hid.mk' hbl
  clear hown hbl
  by_cases h0 : x = 0
  · have had : Hid (addM l ⟨x, y, z⟩ = l ++ [UInt8.ofNat z]) := by show _ = _; unfold addM; rw [if_pos h0]
    have hzv : Hid (((UInt8.ofNat z).toNat : Int) = z) := by show _ = _; rw [UInt8.toNat_ofNat']; omega
    have hl2 : l.length ≤ 512 := by omega
    subst h0
    clear ho hl hd
    generalize UInt8.ofNat z = b at *
    go_enter Try.func37, Try.ntmps37
    go_wp2_with (at_builtin; refine wpList_append_own _ rfl (.tmp 8) (.tmp 11) 33 rfl N 5 i0 (.int .u8 0) 1 1 Try.underlying33 KI.out KZ0.out KZ1.out KZ2.out rfl (by decide) v _ _ rfl ((HO.out.alloc _).alloc _) ⟨w.heap.size + 1, 0, none⟩ 1 1 [.int .u8 (z : Int)] rfl rfl (cell_one_new2 w _ _ _) (one_int _ _) (by unfold maxLen; omega) (by omega) (by simp; omega) ?_; intro v' w1 hown1 hgrow1 _)
    have HB4 : Hid (Below N w0 w1) := ((HB.out.alloc hN _).alloc (by simp; omega) _).grown hgrow1 (by simp; omega) fun i hi => (HO.out.lt i hi).1
    have HO4 : Hid (w1.ownsRow N 5 1 v' (l ++ [b]).length (cellsB (l ++ [b]))) := by
      rw [List.length_append, cellsB_snoc, hzv.out]; exact hown1
    clear hown1 hgrow1
    go_wp2_with fail
    go_ret
    rw [had.out]
    exact ⟨⟨v', rfl, HO4.out⟩, HB4.out⟩
  · have hx3 : 3 ≤ x := by omega
    have hx6 : x ≤ 66 := by omega
    have hy1 : 1 ≤ y := by omega
    have t0 : (x == 0) = false := by rw [beq_eq_false_iff_ne]; omega
    obtain ⟨n, hn⟩ : ∃ n : Nat, x = (n : Int) := ⟨x.toNat, by omega⟩
    obtain ⟨d, hdd⟩ : ∃ d : Nat, y = (d : Int) := ⟨y.toNat, by omega⟩
    subst hn hdd
    have had : Hid (addM l ⟨(n : Int), (d : Int), z⟩ = cpy d n l) := by
      show _ = _
      unfold addM
      rw [if_neg (by simp only; omega)]
      simp only [Int.toNat_natCast]
    have hln : l.length + n ≤ 512 := by
      have : szM ⟨(n : Int), (d : Int), z⟩ = n := by unfold szM; rw [if_neg (by simp only; omega)]; simp only [Int.toNat_natCast]
      omega
    have hdl : d ≤ l.length := by omega
    have hd1 : 1 ≤ d := by omega
    clear ho hl hd h0
    go_enter Try.func37, Try.ntmps37
    go_wp2_with fail
    obtain ⟨W1, hW1⟩ : ∃ W1, Hid (w.alloc (.cells #[.int .i64 (n : Int), .int .i64 (d : Int), .int .u8 (z : Int)] 53) = W1) := ⟨_, Hid.mk' rfl⟩
    have HO1 : Hid (W1.ownsRow N 5 1 v l.length (cellsB l)) := by rw [← hW1.out]; exact HO.out.alloc _
    have HB1 : Hid (Below N w0 W1) := by rw [← hW1.out]; exact HB.out.alloc hN _
    have HC1 : Hid (W1.cell? ⟨w.heap.size, 1, none⟩ = some (.int .i64 (d : Int))) := by rw [← hW1.out]; show _ = _; rw [World.cell?_alloc_new]; rfl
    have HS1 : Hid (w.heap.size < W1.heap.size) := by rw [← hW1.out]; show _ < _; simp
    rw [hW1.out]
    go_loopw [0, 15] (fun ov iv wr => ∃ (k : Nat) (m : List UInt8), k ≤ n ∧ iv = .int .i64 (k : Int) ∧ wr.ownsRow N 5 1 ov m.length (cellsB m) ∧ m.length = l.length + k ∧ cpy d (n - k) m = cpy d n l ∧ wr.cell? ⟨w.heap.size, 1, none⟩ = some (.int .i64 (d : Int)) ∧ ov.ownBlock ≠ some w.heap.size ∧ w.heap.size < wr.heap.size ∧ Below N w0 wr) (fun _ iv _ => n - (intOf iv).toNat)
    case atStart => exact ⟨0, l, Nat.zero_le _, rfl, HO1.out, rfl, rfl, HC1.out, hnB.out, HS1.out, HB1.out⟩
    case round =>
      obtain ⟨k, m, hk, rfl, hown, hml, hcp, hcd, hne, hsz, hbl⟩ := hrel
      have HOr := Hid.mk' hown
      have HCp := Hid.mk' hcp
      have HNe := Hid.mk' hne
      have HBr := Hid.mk' hbl
      have HML := Hid.mk' hml
      clear hown hcp hne hbl
      by_cases hlt : k < n
      · obtain ⟨j, hj⟩ : ∃ j, m.length - d = j := ⟨_, rfl⟩
        obtain ⟨g, cp, rfl, hg, hcell⟩ := own_byte HOr.out rfl j (by omega)
        have HStep : Hid (cpy d (n - (k + 1)) (m ++ [m.getD j 0]) = cpy d n l) := by
          show _ = _
          rw [← HCp.out, show n - k = (n - (k + 1)) + 1 by omega, cpy, hj]
        obtain ⟨L, hL⟩ : ∃ L, m.length = L := ⟨_, rfl⟩
        have hLd : (L : Int) - (d : Int) = (j : Int) := by omega
        have hjL : j < L := by omega
        have hLb : L ≤ 512 := by omega
        generalize m.getD j 0 = b at *
        rw [hL]
        rw [hL] at HOr
        clear hml hj
        go_wp2_with (at_builtin; refine wpList_append_own_at _ rfl (.tmp 17) (.tmp 26) 33 rfl N 5 i0 (.int .u8 0) 1 1 Try.underlying33 KI.out KZ0.out KZ1.out KZ2.out rfl (by decide) (.slice (some ⟨g, 0, none⟩) L cp) _ _ rfl (HOr.out.alloc _) ⟨wr.heap.size, 0, none⟩ 1 1 [.int .u8 (b.toNat : Int)] rfl rfl (cell_one_new _ _ _) (one_int _ _) (by unfold maxLen; omega) (by omega) (by have := HBr.out.size; simp; omega) ?_; intro v5 w5 hown5 hgrow5 _ hat5)
        have HO5 : Hid (w5.ownsRow N 5 1 v5 (m ++ [b]).length (cellsB (m ++ [b]))) := by
          rw [List.length_append, cellsB_snoc, hL]; exact hown5
        have HB5 : Hid (Below N w0 w5) := (HBr.out.alloc (by have := HBr.out.size; omega) _).grown hgrow5 (by have := HBr.out.size; simp; omega) fun i hi => (HOr.out.lt i hi).1
        have hs5 := hgrow5.size
        have hs6 : w.heap.size < w5.heap.size := by simp at hs5; omega
        have HC5 : Hid (w5.cell? ⟨w.heap.size, 1, none⟩ = some (.int .i64 (d : Int))) := by
          show _ = _
          rw [World.cell?_of_block (hgrow5.block w.heap.size (by simp; omega) (fun he => HNe.out he.symm))]
          rw [World.cell?_of_block (w := wr) (heap_alloc_old wr _ hsz)]
          exact hcd
        have HN5 : Hid (v5.ownBlock ≠ some w.heap.size) := by
          intro he
          rcases hat5 with h1 | h1
          · exact HNe.out (h1 ▸ he)
          · rw [he] at h1
            simp at h1
            omega
        have HL5 : Hid ((m ++ [b]).length = l.length + (k + 1)) := by show _ = _; have := HML.out; simp; omega
        clear hown5 hgrow5 hat5
        go_wp2_with fail
        go_roundw
        case rel => exact ⟨k + 1, m ++ [b], by omega, by go_num, HO5.out, HL5.out, HStep.out, HC5.out, HN5.out, hs6, HB5.out⟩
        case measure => simp [intOf]; omega
      · have hkn : k = n := by omega
        have hend : Hid (m = cpy d n l) := by
          show _ = _
          rw [← HCp.out, hkn, Nat.sub_self]; rfl
        go_wp2_with fail
        go_ret
        rw [had.out, ← hend.out]
        exact ⟨⟨_, rfl, HOr.out⟩, HBr.out⟩
end Go.Proofs.Ytganplceeapjcaa
