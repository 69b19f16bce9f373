/- What inode.ReadPlace and inode.readNumber answer. -/
import Derived.Test.YtbailfianjmflaaInChkWalks
import Derived.Test.YtbailfianjmflaaUnfixWalks
import Derived.BigRegion
namespace Go.Proofs.Ytbailfianjmflaa
open Go.RowKit

theorem infoSzPl : (Try.prog.info? 26).map (·.size) = some 2 := by kernel_rfl
theorem aggPl (w : World) : (isAgg 26).run Try.prog w = .ok true w := by
  unfold isAgg
  rw [Sem.run_bind, run_underlying Try.underlying26 w]
  rfl
theorem ext_listP (s : ByteArray) (a : Nat) : (s.extract a s.size).data.toList = s.data.toList.drop a := by
  rw [ByteArray.data_extract]
  simp only [Array.toList_extract, List.extract_eq_take_drop]
  exact List.take_of_length_le (by simp)
theorem ext_sizeP (s : ByteArray) (a : Nat) : (s.extract a s.size).size = s.size - a := by simp
theorem ext_preP (s : ByteArray) (a : Nat) : (s.extract 0 a).data.toList = s.data.toList.take a := by
  rw [ByteArray.data_extract]
  simp only [Array.toList_extract, List.extract_eq_take_drop, List.drop_zero, Nat.sub_zero]
/-- what ReadPlace answers -/
def RdPl (t : ByteArray) (e : Ending) : Prop :=
  (∃ x y r, t.data.toList = x :: y :: r.data.toList ∧ rtB (rpl x y) = true ∧ e = .returned (.tuple #[.agg #[.int .i64 x.toNat, .int .i64 y.toNat], .string r, .bool true])) ∨
  ((∀ x y r, t.data.toList = x :: y :: r → rtB (rpl x y) = false) ∧ e = .returned (.tuple #[.agg #[.int .i64 0, .int .i64 0], .string ⟨#[]⟩, .bool false]))
theorem BoxV.set2 {w : World} {g : Nat} {a b : Value} (h : BoxV w g [a, b]) (a' b' : Value) : BoxV ((w.setCell ⟨g, 0, none⟩ a').setCell ⟨g, 1, none⟩ b') g [a', b'] :=
  (h.set 0 a' (by simp)).set 1 b' (by simp)
set_option maxRecDepth 20000 in
set_option maxHeartbeats 1600000 in
theorem rdplace_any (t : ByteArray) (w : World) (ht : t.size ≤ 140737488355328) :
    Calls Try.prog 37 #[.string t] w fun e w' => RdPl t e ∧ Below w.heap.size w w' := by
  have HX := Hid.mk' (boxV_new w [.int .i64 0, .int .i64 0] 26)
  have HB := Hid.mk' (below_boxP (w := w) #[.int .i64 0, .int .i64 0] 26)
  have hl : t.data.toList.length = t.size := by rw [Array.length_toList]; rfl
  by_cases h3 : t.size < 2
  · have hn : Hid (∀ x y r, t.data.toList = x :: y :: r → rtB (rpl x y) = false) := by
      intro x y r h
      rw [h] at hl; simp at hl; omega
    have HX2 := Hid.mk' (HX.out.set2 (.int .i64 0) (.int .i64 0))
    clear hl
    go_enter Try.func37, Try.ntmps37
    go_wp2_with fail
    refine bodyPost_ret (results_boxV3 rfl _ _ w.heap.size 2 _ _ _ rfl rfl rfl HX.out rfl infoSzPl (aggPl _)) rfl ⟨.inr ⟨hn.out, rfl⟩, HB.out⟩
  have h0n : 0 < t.size := by omega
  have h1n : 1 < t.size := by omega
  obtain ⟨W0, hW0⟩ : ∃ W, Hid (w.alloc (.cells #[.int .i64 0, .int .i64 0] 26) = W) := ⟨_, Hid.mk' rfl⟩
  obtain ⟨r, hr⟩ : ∃ r, Hid (t.extract 2 t.size = r) := ⟨_, Hid.mk' rfl⟩
  obtain ⟨x, hx⟩ : ∃ x, Hid (t[0]'h0n = x) := ⟨_, Hid.mk' rfl⟩
  obtain ⟨y, hy⟩ : ∃ x, Hid (t[1]'h1n = x) := ⟨_, Hid.mk' rfl⟩
  have htl : Hid (t.data.toList = x :: y :: r.data.toList) := by
    show _ = _
    rw [← hr.out, ext_listP, ← hx.out, ← hy.out]
    have e0 := List.drop_eq_getElem_cons (l := t.data.toList) (i := 0) (by rw [hl]; omega)
    have e1 := List.drop_eq_getElem_cons (l := t.data.toList) (i := 1) (by rw [hl]; omega)
    rw [List.drop_zero] at e0
    rw [e0, e1]; rfl
  have hr' := hr.out
  have hx' := hx.out
  have hy' := hy.out
  have hlx := x.toNat_lt
  have hly := y.toNat_lt
  have ex0 : IntKind.i64.wrap (x.toNat : Int) = x.toNat := by rw [IntKind.wrap_i64]; omega
  have ey0 : IntKind.i64.wrap (y.toNat : Int) = y.toNat := by rw [IntKind.wrap_i64]; omega
  have n2 : ¬ (t.size : Int) < 2 := by omega
  have i0 : (0 : Int) < (t.size : Int) := by omega
  have i1 : (1 : Int) < (t.size : Int) := by omega
  have i2 : (2 : Int) ≤ (t.size : Int) := by omega
  have HR := Hid.mk' (fun w => right_any (rpl x y) w)
  obtain ⟨q, hq⟩ : ∃ q, Hid (rtB (rpl x y) = q) := ⟨_, Hid.mk' rfl⟩
  rw [hq.out] at HR
  simp only [rpl] at HR
  clear hl h3
  go_enter Try.func37, Try.ntmps37
  go_wp2_with fail
  rw [hW0.out] at HX HB ⊢
  have hz0 : w.heap.size ≤ W0.heap.size := HB.out.size
  have hlt0 := HX.out.lt
  have hgb := boxV_new W0 [.int .i64 (x.toNat : Int), .int .i64 (y.toNat : Int)] 26
  have hgb := hgb.drew
  have hxb := (HX.out.alloc (.cells #[.int .i64 (x.toNat : Int), .int .i64 (y.toNat : Int)] 26)).drew
  have hbb := (HB.out.alloc hz0 (.cells #[.int .i64 (x.toNat : Int), .int .i64 (y.toNat : Int)] 26)).drew
  go_region
  obtain ⟨W1, hW1⟩ : ∃ W, Hid ((W0.alloc (.cells #[.int .i64 (x.toNat : Int), .int .i64 (y.toNat : Int)] 26)).drew = W) := ⟨_, Hid.mk' rfl⟩
  have hgb2 : BoxV W1 W0.heap.size [.int .i64 (x.toNat : Int), .int .i64 (y.toNat : Int)] := by rw [← hW1.out]; exact hgb
  have hxb2 : BoxV W1 w.heap.size [.int .i64 0, .int .i64 0] := by rw [← hW1.out]; exact hxb
  have hbb2 : Below w.heap.size w W1 := by rw [← hW1.out]; exact hbb
  have HG := Hid.mk' hgb2
  have HX1 := Hid.mk' hxb2
  have HB1 := Hid.mk' hbb2
  have c0 := hgb2.c 0 _ rfl
  have c1 := hgb2.c 1 _ rfl
  clear hgb hxb hbb hgb2 hxb2 hbb2
  rw [hW1.out]
  go_wp2_with fail
  refine (HR.out _).mono ?_
  rintro e w2 ⟨rfl, hb⟩
  have HG2 := Hid.mk' (HG.out.below hb)
  have HX2 := Hid.mk' (HX1.out.below hb)
  have HB2 := Hid.mk' (HB1.out.trans (hb.mono HB1.out.size))
  have c0 := HG2.out.c 0 _ rfl
  have c1 := HG2.out.c 1 _ rfl
  have d0 := HX2.out.c 0 _ rfl
  have d1 := HX2.out.c 1 _ rfl
  have f0 := HX2.out.f 0 (by simp)
  have f1 := HX2.out.f 1 (by simp)
  clear hb
  have hne : W0.heap.size ≠ w.heap.size := by omega
  have hBS : ∀ a b, Below w.heap.size w (((w2).setCell ⟨w.heap.size, 0, none⟩ a).setCell ⟨w.heap.size, 1, none⟩ b) := fun a b => (HB2.out.setCell (Nat.le_refl _) _).setCell (Nat.le_refl _) _
  have HBS := Hid.mk' hBS
  clear hBS
  cases q with
  | false =>
    have hn : Hid (∀ x y r, t.data.toList = x :: y :: r → rtB (rpl x y) = false) := by
      intro x' y' r' h
      rw [htl.out] at h
      simp only [List.cons.injEq] at h
      obtain ⟨rfl, rfl, _⟩ := h
      exact hq.out
    have HXX := HX2.out.set2 (.int .i64 0) (.int .i64 0)
    go_wp2_with fail
    refine bodyPost_ret (results_boxV3 rfl _ _ w.heap.size 2 _ _ _ rfl rfl rfl HXX rfl infoSzPl (aggPl _)) rfl ⟨.inr ⟨hn.out, rfl⟩, HBS.out _ _⟩
  | true =>
    have HXX := ((HX2.out.drew).set2 (.int .i64 (x.toNat : Int)) (.int .i64 (y.toNat : Int)))
    have hBS2 : Below w.heap.size w (((w2.drew).setCell ⟨w.heap.size, 0, none⟩ (.int .i64 (x.toNat : Int))).setCell ⟨w.heap.size, 1, none⟩ (.int .i64 (y.toNat : Int))) := ((HB2.out.drew).setCell (Nat.le_refl _) _).setCell (Nat.le_refl _) _
    go_wp2_with fail
    go_region
    trace_state
    go_wp2_with fail
    refine bodyPost_ret (results_boxV3 rfl _ _ w.heap.size 2 _ _ _ rfl rfl rfl HXX rfl infoSzPl (aggPl _)) rfl ⟨.inl ⟨x, y, r, htl.out, hq.out, rfl⟩, hBS2⟩
end Go.Proofs.Ytbailfianjmflaa
