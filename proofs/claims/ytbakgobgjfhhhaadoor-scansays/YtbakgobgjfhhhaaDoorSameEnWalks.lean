import Derived.Test.YtbakgobgjfhhhaaDoorPsaq
import Derived.Test.YtbakgobgjfhhhaaDoorEqualB

/- slices.EqualFunc of entries that are the same. -/
namespace Go.Proofs.YtbakgobgjfhhhaaDoor
open Go.RowKit

set_option maxRecDepth 20000 in
set_option maxHeartbeats 1600000 in
theorem sameen_yes (x y : EnS) (w : World) (h : x.e = y.e) (hx : EnB w x) (hy : EnB w y) :
    Calls Tryd.prog 19 #[.agg #[.int .i64 (x.cl : Int), .slice x.a x.bl.length x.c, .bool x.la], .agg #[.int .i64 (y.cl : Int), .slice y.a y.bl.length y.c, .bool y.la]] w fun z w' => z = .returned (.bool true) ∧ Below w.heap.size w w' := by
  obtain ⟨cl, bl, la, xa, xc⟩ := x
  obtain ⟨cl2, bl2, la2, ya, yc⟩ := y
  simp only [EnS.e, Ent.mk.injEq] at h
  obtain ⟨rfl, rfl, rfl⟩ := h
  simp only at hx hy ⊢
  have hba := below_boxE (w := w) #[.int .i64 (cl : Int), .slice xa bl.length xc, .bool la] 48
  have hB : Below w.heap.size w ((w.alloc (.cells #[.int .i64 (cl : Int), .slice xa bl.length xc, .bool la] 48)).alloc (.cells #[.int .i64 (cl : Int), .slice ya bl.length yc, .bool la] 48)) := hba.alloc hba.size _
  have hv1 := (boxV_new w [.int .i64 (cl : Int), .slice xa bl.length xc, .bool la] 48).alloc (.cells #[.int .i64 (cl : Int), .slice ya bl.length yc, .bool la] 48)
  have hv2 := boxV_new (w.alloc (.cells #[.int .i64 (cl : Int), .slice xa bl.length xc, .bool la] 48)) [.int .i64 (cl : Int), .slice ya bl.length yc, .bool la] 48
  rw [show (w.alloc (.cells #[.int .i64 (cl : Int), .slice xa bl.length xc, .bool la] 48)).heap.size = w.heap.size + 1 by simp] at hv2
  have HX := Hid.mk' (EnB.below hx hB)
  have HY := Hid.mk' (EnB.below hy hB)
  have HB := Hid.mk' hB
  have c0 := hv1.c 0 _ rfl
  have c1 := hv1.c 1 _ rfl
  have c2 := hv1.c 2 _ rfl
  have d0 := hv2.c 0 _ rfl
  have d1 := hv2.c 1 _ rfl
  have d2 := hv2.c 2 _ rfl
  have nx := hx.nB
  have tl : (la == la) = true := by simp
  clear hba hB hv1 hv2 hx hy
  go_enter Tryd.func19, Tryd.ntmps19
  go_wp2_with fail
  refine (equalB_any xa ya bl.length xc bl.length yc bl bl _ HX.out.rd HY.out.rd rfl rfl nx nx).mono ?_
  rintro z w3 ⟨⟨v, rfl, hv⟩, r, rfl⟩
  rw [hv.yes rfl]
  go_wp2_with fail
  go_ret
  exact ⟨rfl, HB.out.trans (below_dE _ _)⟩
set_option maxRecDepth 20000 in
set_option maxHeartbeats 1600000 in
theorem equalEn_any (a1 a2 : Option Addr) (n c1 c2 : Nat) (l1 l2 : List EnS) (w : World) (h1 : Rd w a1 n 3 (enC l1)) (h2 : Rd w a2 n 3 (enC l2)) (n1 : l1.length = n) (n2 : l2.length = n) (he : l1.map EnS.e = l2.map EnS.e) (e1 : ∀ x ∈ l1, EnB w x) (e2 : ∀ x ∈ l2, EnB w x) (hn : n ≤ 200) :
    Calls Tryd.prog 18 #[.slice a1 n c1, .slice a2 n c2, .func (.func 19) #[] #[]] w fun z w' => z = .returned (.bool true) ∧ Below w.heap.size w w' := by
  have H1 := Hid.mk' h1
  have H2 := Hid.mk' h2
  have N1 := Hid.mk' n1
  have N2 := Hid.mk' n2
  have HE := Hid.mk' he
  have E1 := Hid.mk' e1
  have E2 := Hid.mk' e2
  clear h1 h2 n1 n2 he e1 e2
  go_enter Tryd.func18, Tryd.ntmps18
  go_wp2_with fail
  go_loopw [17] (fun i wr => ∃ k : Nat, k ≤ n ∧ i = .int .i64 k ∧ Below w.heap.size w wr) (fun i _ => n - (intOf i).toNat)
  case atStart => exact ⟨0, Nat.zero_le _, rfl, Below.refl _ _⟩
  case round =>
    obtain ⟨k, hk, rfl, hb⟩ := hrel
    have HB := Hid.mk' hb
    by_cases hlt : k < n
    · obtain ⟨g1, o1, rfl, _, dd1⟩ := (H1.out.below hb).at' (by omega)
      obtain ⟨g2, o2, rfl, _, dd2⟩ := (H2.out.below hb).at' (by omega)
      have hg1 := List.getElem?_eq_getElem (l := l1) (i := k) (by rw [N1.out]; exact hlt)
      have hg2 := List.getElem?_eq_getElem (l := l2) (i := k) (by rw [N2.out]; exact hlt)
      obtain ⟨x, hx⟩ : ∃ x, l1[k]'(by rw [N1.out]; exact hlt) = x := ⟨_, rfl⟩
      obtain ⟨y, hy⟩ : ∃ x, l2[k]'(by rw [N2.out]; exact hlt) = x := ⟨_, rfl⟩
      rw [hx] at hg1
      rw [hy] at hg2
      have hxy : Hid (x.e = y.e) := by
        have h := congrArg (fun l => l[k]?) HE.out
        simp only [List.getElem?_map, hg1, hg2, Option.map_some, Option.some.injEq] at h
        exact h
      have HX := Hid.mk' (EnB.below (E1.out x (List.mem_of_getElem? hg1)) hb)
      have HY := Hid.mk' (EnB.below (E2.out y (List.mem_of_getElem? hg2)) hb)
      obtain ⟨q1, q2, q3⟩ := enC_at hg1
      obtain ⟨r1, r2, r3⟩ := enC_at hg2
      have a1' := dd1 _ _ q1
      have a2' := dd1 _ _ q2
      have a3' := dd1 _ _ q3
      have b1' := dd2 _ _ r1
      have b2' := dd2 _ _ r2
      have b3' := dd2 _ _ r3
      rw [← Nat.add_assoc] at a2' a3' b2' b3'
      clear dd1 dd2 hg1 hg2 hx hy q1 q2 q3 r1 r2 r3 hb
      have hba := below_boxE (w := wr) #[.int .i64 (x.cl : Int), .slice x.a x.bl.length x.c, .bool x.la] 48
      have hbb := hba.alloc hba.size (.cells #[.int .i64 (y.cl : Int), .slice y.a y.bl.length y.c, .bool y.la] 48)
      have HX2 := Hid.mk' (EnB.below HX.out hbb)
      have HY2 := Hid.mk' (EnB.below HY.out hbb)
      have HB2 := Hid.mk' (HB.out.trans (hbb.mono HB.out.size))
      clear hba hbb
      go_wp2_with fail
      refine (sameen_yes x y _ hxy.out HX2.out HY2.out).mono ?_
      rintro z w3 ⟨rfl, hb⟩
      have HB3 := Hid.mk' (HB2.out.trans (hb.mono HB2.out.size))
      clear hb
      go_wp2_with fail
      go_roundw
      case rel => exact ⟨k + 1, by omega, by go_num, HB3.out⟩
      case measure => simp [intOf]; omega
    · clear hb
      go_wp2_with fail
      go_ret
      exact ⟨rfl, HB.out⟩
end Go.Proofs.YtbakgobgjfhhhaaDoor
