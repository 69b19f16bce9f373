/- What inode.WritePlace and inode.Write answer. -/
import Derived.Test.YtbailfianjmflaaInChkWalks
import Derived.Test.YtbailfianjmflaaFixWalks
import Derived.Test.YtbailfianjmflaaOneText
import Derived.Deep.RegionHeldLaw
namespace Go.Proofs.Ytbailfianjmflaa
open Go.RowKit

/-- a list of bytes as a text -/
def txp (l : List UInt8) : ByteArray := ⟨l.toArray⟩
theorem txp_size (l : List UInt8) : (txp l).size = l.length := rfl
theorem txp_app (a b : List UInt8) : txp a ++ txp b = txp (a ++ b) := by
  apply bytes_ext
  simp only [ByteArray.data_append, Array.toList_append]
  rfl
theorem txp_list (l : List UInt8) : (txp l).data.toList = l := rfl
theorem two_string (w : World) (x y : Int) :
    (convert 71 9 (.slice (some ⟨w.heap.size, 0, none⟩) 2 2)).run Try.prog (w.alloc (.cells #[.int .u8 x, .int .u8 y] 5)) =
      .ok (.string (strOfNums [x, y])) (w.alloc (.cells #[.int .u8 x, .int .u8 y] 5)) :=
  run_convert_bytes_arg (P := Try.prog) _ 71 5 Try.underlying71 Try.underlying5 w.heap.size 0 2 2 [x, y] rfl
    (fun i hi => by
      rcases (show i = 0 ∨ i = 1 by omega) with rfl | rfl <;> simp) 9 Try.underlying9
theorem two_text (c n : Nat) : strOfNums [(c : Int), (n : Int)] = txp (plB ⟨(c : Int), (n : Int)⟩) := by
  apply bytes_ext
  show [UInt8.ofNat ((c : Int)).toNat, UInt8.ofNat ((n : Int)).toNat] = plB ⟨(c : Int), (n : Int)⟩
  rfl
set_option maxRecDepth 20000 in
set_option maxHeartbeats 800000 in
theorem wplace_any (p : Pla) (w : World) (h : rtB p = true) :
    Calls Try.prog 32 #[.agg #[.int .i64 p.cl, .int .i64 p.nh]] w fun e w' => e = .returned (.string (txp (plB p))) ∧ Below w.heap.size w w' := by
  have HX := Hid.mk' (bxPl w p 26)
  have hb := rtB_b h
  obtain ⟨c, n⟩ := p
  simp only at HX hb ⊢
  obtain ⟨c, rfl⟩ := Int.eq_ofNat_of_zero_le hb.1
  obtain ⟨n, rfl⟩ := Int.eq_ofNat_of_zero_le hb.2.2.1
  have HB := Hid.mk' (below_boxP (w := w) #[.int .i64 (c : Int), .int .i64 (n : Int)] 26)
  have e1 : IntKind.u8.wrap (c : Int) = c := by rw [IntKind.wrap_u8]; omega
  have e2 : IntKind.u8.wrap (n : Int) = n := by rw [IntKind.wrap_u8]; omega
  have HB2 := Hid.mk' (HB.out.alloc HB.out.size (.cells #[.int .u8 (c : Int), .int .u8 (n : Int)] 5))
  have hcs := two_string (w.alloc (.cells #[.int .i64 (c : Int), .int .i64 (n : Int)] 26)) (c : Int) (n : Int)
  have hs0 : (w.alloc (.cells #[.int .i64 (c : Int), .int .i64 (n : Int)] 26)).heap.size = w.heap.size + 1 := by simp
  rw [two_text, hs0] at hcs
  clear hb h hs0 HX
  go_enter Try.func32, Try.ntmps32
  go_wp2_with fail
  go_ret
  exact ⟨rfl, HB2.out⟩
/-- what Write answers, as a text and an error -/
def wiT (i : Ino) : ByteArray := if chkI i = 0 then txp (inB i) else ⟨#[]⟩
theorem wiT_ok {i : Ino} (h : chkI i = 0) : wiT i = txp (inB i) := if_pos h
theorem wiT_no {i : Ino} (h : chkI i ≠ 0) : wiT i = ⟨#[]⟩ := if_neg h
/-- a number in m bytes, as a text -/
def fxI (n : Nat) (m : Int) : ByteArray := txp (fixB n m.toNat)
theorem fxI_size (n : Nat) (m : Nat) : (fxI n (m : Int)).size = m := by unfold fxI; rw [txp_size, fixB_length]; rfl
theorem fix_txp (n : Nat) (m : Int) (w : World) (h1 : 1 ≤ m) (h8 : m ≤ 8) :
    Calls Try.prog 31 #[.int .u64 n, .int .i64 m] w fun e w' => e = .returned (.string (fxI n m)) ∧ Below w.heap.size w w' := by
  obtain ⟨k, rfl⟩ := Int.eq_ofNat_of_zero_le (show 0 ≤ m by omega)
  exact fix_in n k w (by omega) (by omega)
set_option maxRecDepth 20000 in
set_option maxHeartbeats 1600000 in
theorem iwrite_any (i : Ino) (a0 : Option Addr) (n c : Nat) (w : World) (h : Pls w a0 n c i.ps) :
    Calls Try.prog 9 #[.agg #[.int .i64 i.kd, .int .i64 i.gn, .int .i64 i.sz, .slice a0 n c]] w fun e w' => e = .returned (.tuple #[.string (wiT i), .int .i64 (chkI i)]) ∧ Below w.heap.size w w' := by
  have HN : Hid (∀ w : World, Pls w a0 n c i.ps → Calls Try.prog 11 #[.agg #[.int .i64 i.kd, .int .i64 i.gn, .int .i64 i.sz, .slice a0 n c]] w fun e w' => e = .returned (.int .i64 (chkI i)) ∧ Below w.heap.size w w') := fun w h => icheck_any i a0 n c w h
  have hV := boxV_new w (inV i.kd i.gn i.sz a0 n c) 24
  have HB : Hid (Below w.heap.size w (w.alloc (.cells #[.int .i64 i.kd, .int .i64 i.gn, .int .i64 i.sz, .slice a0 n c] 24))) := below_boxP _ _
  obtain ⟨W0, hW0⟩ : ∃ W, Hid (w.alloc (.cells #[.int .i64 i.kd, .int .i64 i.gn, .int .i64 i.sz, .slice a0 n c] 24) = W) := ⟨_, Hid.mk' rfl⟩
  have e0 : (w.alloc (.cells (inV i.kd i.gn i.sz a0 n c).toArray 24)) = W0 := hW0.out
  rw [e0] at hV
  have HV := Hid.mk' hV
  rw [hW0.out] at HB
  have HL := Hid.mk' (h.below HB.out)
  have hnL := Hid.mk' h.nL
  have nB := h.nB
  have hz0 : w.heap.size ≤ W0.heap.size := HB.out.size
  have hlt0 := hV.lt
  have c0 := hV.c 0 _ rfl
  have c1 := hV.c 1 _ rfl
  have c2 := hV.c 2 _ rfl
  have c3 := hV.c 3 _ rfl
  clear h hV e0
  obtain ⟨q, hq⟩ : ∃ q, Hid (chkI i = q) := ⟨_, Hid.mk' rfl⟩
  rw [hq.out] at HN ⊢
  by_cases h0 : q = 0
  rotate_left
  · have hT : Hid (wiT i = ⟨#[]⟩) := wiT_no (by rw [hq.out]; exact h0)
    have tq : (q != 0) = true := by rw [bne_iff_ne]; exact h0
    rw [hT.out]
    clear h0
    go_enter Try.func9, Try.ntmps9
    go_wp2_with fail
    rw [hW0.out]
    go_wp2_with fail
    refine (HN.out _ HL.out).mono ?_
    rintro e w1 ⟨rfl, hb⟩
    have HB1 := Hid.mk' (HB.out.trans (hb.mono hz0))
    clear hb
    go_wp2_with fail
    go_ret2
    exact ⟨rfl, HB1.out⟩
  subst h0
  have hT : Hid (wiT i = txp (inB i)) := wiT_ok hq.out
  rw [hT.out]
  have hO := chkI_ok hq.out
  have h8 := okI_len hO
  have HR := Hid.mk' hO.r
  have hk := hO.k; have hg0 := hO.g0; have hg1 := hO.g1; have hs0 := hO.s0; have hs1 := hO.s1
  clear hO hT hq
  obtain ⟨kd, gn, sz, ps⟩ := i
  simp only at *
  obtain ⟨kd, rfl⟩ := Int.eq_ofNat_of_zero_le (show 0 ≤ kd by omega)
  obtain ⟨gn, rfl⟩ := Int.eq_ofNat_of_zero_le hg0
  obtain ⟨sz, rfl⟩ := Int.eq_ofNat_of_zero_le hs0
  have HD : Hid (fxI kd 1 ++ fxI gn 4 ++ fxI sz 2 = txp (hdI ⟨(kd : Int), (gn : Int), (sz : Int), ps⟩ ++ plsB (ps.take 0))) := by
    show _ = _
    unfold fxI
    rw [txp_app, txp_app, List.take_zero]
    show _ = txp (_ ++ [])
    rw [List.append_nil]
    rfl
  have hfin : Hid (hdI ⟨(kd : Int), (gn : Int), (sz : Int), ps⟩ ++ plsB (ps.take n) = inB ⟨(kd : Int), (gn : Int), (sz : Int), ps⟩) := by
    show _ = _
    rw [List.take_of_length_le (by rw [hnL.out]; exact Nat.le_refl _)]; rfl
  have hhl := hdI_len ⟨(kd : Int), (gn : Int), (sz : Int), ps⟩
  generalize hdI ⟨(kd : Int), (gn : Int), (sz : Int), ps⟩ = H at *
  generalize inB ⟨(kd : Int), (gn : Int), (sz : Int), ps⟩ = FT at *
  rw [hnL.out] at h8
  have e1 : IntKind.u64.wrap (kd : Int) = kd := by rw [IntKind.wrap_u64]; omega
  have e2 : IntKind.u64.wrap (gn : Int) = gn := by rw [IntKind.wrap_u64]; omega
  have e3 : IntKind.u64.wrap (sz : Int) = sz := by rw [IntKind.wrap_u64]; omega
  have z1 : (fxI kd 1).size = 1 := fxI_size kd 1
  have z2 : (fxI gn 4).size = 4 := fxI_size gn 4
  have z3 : (fxI sz 2).size = 2 := fxI_size sz 2
  clear hk hg0 hg1 hs0 hs1
  go_enter Try.func9, Try.ntmps9
  go_wp2_with fail
  rw [hW0.out]
  go_wp2_with fail
  refine (HN.out _ HL.out).mono ?_
  rintro e w1 ⟨rfl, hb⟩
  have HBw := Hid.mk' (HB.out.trans (hb.mono hz0))
  have hv1 := HV.out.below hb
  have HV1 := Hid.mk' hv1
  have HL1 := Hid.mk' (HL.out.below hb)
  have hlt1 := hv1.lt
  have c0 := hv1.c 0 _ rfl
  have c1 := hv1.c 1 _ rfl
  have c2 := hv1.c 2 _ rfl
  have c3 := hv1.c 3 _ rfl
  clear hb hv1 hz0 HV HL
  go_wp2_with fail
  go_region_held_law (fun X => X.cell? ⟨w.heap.size, 0, none⟩ = some (.int .i64 (kd : Int)) ∧ X.cell? ⟨w.heap.size, 1, none⟩ = some (.int .i64 (gn : Int)) ∧ X.cell? ⟨w.heap.size, 2, none⟩ = some (.int .i64 (sz : Int)) ∧ X.cell? ⟨w.heap.size, 3, none⟩ = some (.slice a0 n c)) (first | exact ⟨p0, p1, p2, p3⟩ | exact ⟨c0, c1, c2, c3⟩) (first
      | (go_at_call 31; refine (fix_txp _ _ _ (by decide) (by decide)).mono ?_; rintro e w2 ⟨rfl, hb⟩; have HB1 : Hid (Below w1.heap.size w1 w2) := (by first | exact HB1.out.trans (hb.mono HB1.out.size) | exact ((Below.refl _ w1).drew).trans hb | fail); clear hb; have hx := HV1.out.below HB1.out; have p0 := hx.c 0 _ rfl; have p1 := hx.c 1 _ rfl; have p2 := hx.c 2 _ rfl; have p3 := hx.c 3 _ rfl; clear hx)
      | fail)
  all_goals
    have hz1 : w.heap.size ≤ w1.heap.size := HBw.out.size
    have HBs := Hid.mk' (HBw.out.trans (HB1.out.mono hz1))
    have HLs := Hid.mk' (HL1.out.below HB1.out)
    obtain ⟨T0, hT0⟩ : ∃ T, Hid (fxI kd 1 ++ fxI gn 4 ++ fxI sz 2 = T) := ⟨_, Hid.mk' rfl⟩
    rw [hT0.out]
    go_wp2_with fail
    clear c0 c1 c2 c3 p0 p1 p2 p3
    go_loopw [5, 30] (fun t i wr => ∃ k : Nat, k ≤ n ∧ i = .int .i64 k ∧ t = .string (txp (H ++ plsB (ps.take k))) ∧ Below w2.heap.size w2 wr) (fun _ i _ => n - (intOf i).toNat)
    case atStart => exact ⟨0, Nat.zero_le _, rfl, by rw [← hT0.out, HD.out], Below.refl _ _⟩
    case round =>
      obtain ⟨k, hk, rfl, rfl, hbl⟩ := hrel
      have HBr := Hid.mk' hbl
      have hzr := hbl.size
      clear hbl
      by_cases hlt : k < n
      · obtain ⟨b, off, rfl, hb, hx1, hx2⟩ := (HLs.out.below HBr.out).at k hlt
        have hlk : k < ps.length := by rw [hnL.out]; exact hlt
        have hor := HR.out _ (getD_memPl noPl hlk)
        have hps := Hid.mk' (plsB_take ps k hlk)
        have htl : (plsB (ps.take k)).length = 2 * k := by rw [plsB_len, List.length_take, Nat.min_eq_left (by omega)]
        generalize ps.getD k noPl = o at *
        have HX : Hid (txp (H ++ plsB (ps.take k)) ++ txp (plB o) = txp (H ++ plsB (ps.take (k + 1)))) := by show _ = _; rw [txp_app, hps.out, List.append_assoc]
        have hs1 : (txp (H ++ plsB (ps.take k))).size = 7 + 2 * k := by rw [txp_size, List.length_append, hhl, htl]
        have hs2 : (txp (plB o)).size = 2 := rfl
        have HBa := Hid.mk' (HBr.out.alloc hzr (.cells #[.int .i64 o.cl, .int .i64 o.nh] 26))
        have hsz : (wr.alloc (.cells #[.int .i64 o.cl, .int .i64 o.nh] 26)).heap.size = wr.heap.size + 1 := by simp
        have HO := Hid.mk' (fun X => wplace_any o X hor)
        clear hlk hor htl
        obtain ⟨B, hB⟩ : ∃ B, Hid (txp (H ++ plsB (ps.take k)) = B) := ⟨_, Hid.mk' rfl⟩
        obtain ⟨O, hO⟩ : ∃ B, Hid (txp (plB o) = B) := ⟨_, Hid.mk' rfl⟩
        rw [hO.out] at HX HO hs2
        rw [hB.out] at HX hs1 ⊢
        go_wp2_with fail
        refine (HO.out _).mono ?_
        rintro e w4 ⟨rfl, hb4⟩
        have HB4 := Hid.mk' (HBa.out.trans (hb4.mono (by omega)))
        clear hb4
        have hcat : ¬ 9223372036854775807 < B.size + O.size := by omega
        go_wp2_with fail
        go_roundw
        case rel => exact ⟨k + 1, by omega, by go_num, by rw [HX.out], HB4.out⟩
        case measure => simp [intOf]; omega
      · obtain rfl : k = n := by omega
        rw [hfin.out]
        go_wp2_with fail
        go_ret2
        exact ⟨rfl, HBs.out.trans (HBr.out.mono (by have := HBs.out.size; omega))⟩
end Go.Proofs.Ytbailfianjmflaa
