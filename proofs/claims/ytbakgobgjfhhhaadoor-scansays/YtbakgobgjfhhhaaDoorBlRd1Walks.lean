import Derived.Test.YtbakgobgjfhhhaaDoorBlChkWalks
import Derived.Test.YtbakgobgjfhhhaaDoorPsab
import Derived.Test.YtbakgobgjfhhhaaDoorPsad
import Derived.Test.YtbakgobgjfhhhaaDoorGetWalks
import Derived.Test.YtbakgobgjfhhhaaDoorCloneText
import Derived.Deep.RegionHeldLaw

/- What blob.readOne answers. -/
namespace Go.Proofs.YtbakgobgjfhhhaaDoor
open Go.RowKit

theorem infoSzBl : (Tryd.prog.info? 82).map (·.size) = some 4 := by kernel_rfl
theorem aggBl (w : World) : (isAgg 82).run Tryd.prog w = .ok true w := by
  unfold isAgg
  rw [Sem.run_bind, run_underlying Tryd.underlying82 w]
  rfl
theorem ext_listB (s : ByteArray) (a : Nat) : (s.extract a s.size).data.toList = s.data.toList.drop a := by
  rw [ByteArray.data_extract]
  simp only [Array.toList_extract, List.extract_eq_take_drop]
  exact List.take_of_length_le (by simp)
theorem ext_sizeB (s : ByteArray) (a : Nat) : (s.extract a s.size).size = s.size - a := by simp
theorem cset4 {X : World} {g b k : Nat} {v : Value} (h : X.cell? ⟨g, k, none⟩ = some v) (hne : g ≠ b) (a c d e : Value) : ((((X.setCell ⟨b, 0, none⟩ a).setCell ⟨b, 1, none⟩ c).setCell ⟨b, 2, none⟩ d).setCell ⟨b, 3, none⟩ e).cell? ⟨g, k, none⟩ = some v := by
  have hn : ∀ j, (⟨b, j, none⟩ : Addr) ≠ ⟨g, k, none⟩ := fun j e => by simp only [Addr.mk.injEq] at e; omega
  rw [World.cell?_setCell_other _ _ _ _ (hn 3), World.cell?_setCell_other _ _ _ _ (hn 2), World.cell?_setCell_other _ _ _ _ (hn 1), World.cell?_setCell_other _ _ _ _ (hn 0)]
  exact h
theorem below_set4 {B g : Nat} {w0 w : World} (h : Below B w0 w) (hg : B ≤ g) (x y z u : Value) : Below B w0 ((((w.setCell ⟨g, 0, none⟩ x).setCell ⟨g, 1, none⟩ y).setCell ⟨g, 2, none⟩ z).setCell ⟨g, 3, none⟩ u) := (((h.setCell hg _).setCell hg _).setCell hg _).setCell hg _
/-- what readOne answers -/
def Rd1Ans (t : ByteArray) (e : Ending) : Prop :=
  (∃ b r, rd1 t.data.toList = some (b, r.data.toList) ∧ r.size ≤ t.size ∧ e = .returned (.tuple #[.agg #[.int .i64 b.kd, .int .i64 b.io, .int .i64 b.nt, .string b.tx], .string r, .bool true])) ∨
  (rd1 t.data.toList = none ∧ ∃ x y z s r, e = .returned (.tuple #[.agg #[.int .i64 x, .int .i64 y, .int .i64 z, .string s], .string r, .bool false]))
set_option maxRecDepth 20000 in
set_option maxHeartbeats 1600000 in
theorem bone_any (t : ByteArray) (w : World) (ht : t.size ≤ 1000) :
    Calls Tryd.prog 77 #[.string t] w fun e w' => Rd1Ans t e ∧ Below w.heap.size w w' := by
  have HX := Hid.mk' (boxV_new w [.int .i64 0, .int .i64 0, .int .i64 0, .string ⟨#[]⟩] 82)
  have HB := Hid.mk' (below_box (w := w) #[.int .i64 0, .int .i64 0, .int .i64 0, .string ⟨#[]⟩] 82)
  by_cases h3 : t.size < 3
  · have hn : Hid (rd1 t.data.toList = none) := by
      have hl : t.data.toList.length = t.size := by rw [Array.length_toList]; rfl
      show _ = _
      match h : t.data.toList with
      | [] => rfl
      | [_] => rfl
      | [_, _] => rfl
      | _ :: _ :: _ :: _ => rw [h] at hl; simp at hl; omega
    go_enter Tryd.func77, Tryd.ntmps77
    go_wp2_with fail
    refine bodyPost_ret (results_boxV3 rfl _ _ w.heap.size 4 _ _ _ rfl rfl rfl HX.out rfl infoSzBl (aggBl _)) rfl ⟨.inr ⟨hn.out, 0, 0, 0, _, _, rfl⟩, HB.out⟩
  · obtain ⟨W0, hW0⟩ : ∃ W, Hid (w.alloc (.cells #[.int .i64 0, .int .i64 0, .int .i64 0, .string ⟨#[]⟩] 82) = W) := ⟨_, Hid.mk' rfl⟩
    have hW0' := hW0.out
    obtain ⟨r, hr⟩ : ∃ r, Hid (t.extract 3 t.size = r) := ⟨_, Hid.mk' rfl⟩
    have hrl : Hid (r.data.toList = t.data.toList.drop 3) := by show _ = _; rw [← hr.out, ext_listB]
    have hrz : r.size + 3 = t.size := by rw [← hr.out, ext_sizeB]; omega
    have hll : Hid (r.data.toList.length = r.size) := by show _ = _; simp
    have h0n : 0 < t.size := by omega
    have h1n : 1 < t.size := by omega
    have h2n : 2 < t.size := by omega
    have htl : Hid (t.data.toList = (t[0]'h0n) :: (t[1]'h1n) :: (t[2]'h2n) :: r.data.toList) := by
      have hl : t.data.toList.length = t.size := by rw [Array.length_toList]; rfl
      show _ = _
      rw [hrl.out]
      have e0 := List.drop_eq_getElem_cons (l := t.data.toList) (i := 0) (by omega)
      have e1 := List.drop_eq_getElem_cons (l := t.data.toList) (i := 1) (by omega)
      have e2 := List.drop_eq_getElem_cons (l := t.data.toList) (i := 2) (by omega)
      rw [List.drop_zero] at e0
      rw [e2] at e1
      rw [e1] at e0
      exact e0
    have hd : Hid (rd1 t.data.toList = if getE r.data.toList = 0 ∧ getA r.data.toList ≤ r.size - getK r.data.toList then (if chkB (rawB (t[0]'h0n) (t[1]'h1n) (t[2]'h2n) r.data.toList) = 0 then some (rawB (t[0]'h0n) (t[1]'h1n) (t[2]'h2n) r.data.toList, r.data.toList.drop (getK r.data.toList + getA r.data.toList)) else none) else none) := by
      show _ = _
      rw [htl.out, rd1, hll.out]
    have h3' : (3 : Int) ≤ (t.size : Int) := by omega
    have h0b : (0 : Int) < (t.size : Int) := by omega
    have h1b : (1 : Int) < (t.size : Int) := by omega
    have h2b : (2 : Int) < (t.size : Int) := by omega
    have hrs : r.size ≤ 997 := by omega
    have hget := Hid.mk' (fun w => get_any r w)
    have hpg := Hid.mk' (put_get r.data.toList)
    obtain ⟨E, hE⟩ : ∃ E, Hid (getE r.data.toList = E) := ⟨_, Hid.mk' rfl⟩
    obtain ⟨A, hA⟩ : ∃ E, Hid (getA r.data.toList = E) := ⟨_, Hid.mk' rfl⟩
    obtain ⟨K, hK⟩ : ∃ E, Hid (getK r.data.toList = E) := ⟨_, Hid.mk' rfl⟩
    rw [hE.out, hA.out, hK.out] at hd hget hpg
    rw [hll.out] at hpg
    have hex : t.extract 3 t.size = r := hr.out
    clear hrz h3 hW0'
    by_cases hE0 : E = 0
    · subst hE0
      obtain ⟨hk1, hk2, hk3, hk4⟩ := hpg.out rfl
      have hk4 := Hid.mk' hk4
      clear hpg
      by_cases hT : r.size - K < A
      · have hn : Hid (rd1 t.data.toList = none) := by show _ = _; rw [hd.out, if_neg (by omega)]
        have tT : decide ((r.size : Int) - (K : Int) < (A : Int)) = true := decide_eq_true (by omega)
        clear hT
        go_enter Tryd.func77, Tryd.ntmps77
        go_wp2_with fail
        refine (hget.out _).mono ?_
        rintro e w1 ⟨rfl, rfl⟩
        go_wp2_with fail
        refine bodyPost_ret (results_boxV3 rfl _ _ w.heap.size 4 _ _ _ rfl rfl rfl HX.out rfl infoSzBl (aggBl _)) rfl ⟨.inr ⟨hn.out, 0, 0, 0, _, _, rfl⟩, HB.out⟩
      · have tT : decide ((r.size : Int) - (K : Int) < (A : Int)) = false := decide_eq_false (by omega)
        obtain ⟨D, hD⟩ : ∃ D, Hid (K + A = D) := ⟨_, Hid.mk' rfl⟩
        have hKD : K ≤ D := by have := hD.out; omega
        have hDr : D ≤ r.size := by have := hD.out; omega
        have eKA : (K : Int) + (A : Int) = (D : Int) := by have := hD.out; omega
        obtain ⟨s, hs⟩ : ∃ s, Hid (r.extract K D = s) := ⟨_, Hid.mk' rfl⟩
        have hsl : Hid (s.data.toList = (r.data.toList.drop K).take A) := by
          show _ = _
          rw [← hs.out, ByteArray.data_extract]
          simp only [Array.toList_extract, List.extract_eq_take_drop]
          rw [show D - K = A by have := hD.out; omega]
        have hsz : s.size ≤ 997 := by
          have e : s.data.toList.length = s.size := by rw [Array.length_toList]; rfl
          rw [← e, hsl.out, List.length_take, List.length_drop, hll.out]; omega
        obtain ⟨q, hq⟩ : ∃ q, Hid (r.extract D r.size = q) := ⟨_, Hid.mk' rfl⟩
        have hql : Hid (q.data.toList = r.data.toList.drop (K + A)) := by show _ = _; rw [← hq.out, ext_listB, hD.out]
        have hqz : Hid (q.size ≤ t.size) := by
          have e : q.size = r.size - D := by rw [← hq.out, ext_sizeB]
          have e2 : r.size = t.size - 3 := by rw [← hr.out, ext_sizeB]
          show _ ≤ _; omega
        have hraw : Hid (rawB (t[0]'h0n) (t[1]'h1n) (t[2]'h2n) r.data.toList = ⟨(((t[0]'h0n).toNat : Nat) : Int), (((t[1]'h1n).toNat : Nat) : Int), (((t[2]'h2n).toNat : Nat) : Int), s⟩) := by
          show _ = _
          unfold rawB
          rw [hA.out, hK.out, ← hsl.out]
        have hgood : Hid (getE r.data.toList = 0 ∧ A ≤ r.size - K) := ⟨hE.out, by omega⟩
        rw [if_pos ⟨rfl, hgood.out.2⟩, hraw.out, ← hql.out] at hd
        have hex2 : r.extract K D = s := hs.out
        have hex3 : r.extract D r.size = q := hq.out
        clear hT
        obtain ⟨x0, hx0⟩ : ∃ x, Hid (t[0]'h0n = x) := ⟨_, Hid.mk' rfl⟩
        obtain ⟨x1, hx1⟩ : ∃ x, Hid (t[1]'h1n = x) := ⟨_, Hid.mk' rfl⟩
        obtain ⟨x2, hx2⟩ : ∃ x, Hid (t[2]'h2n = x) := ⟨_, Hid.mk' rfl⟩
        have hx0' := hx0.out
        have hx1' := hx1.out
        have hx2' := hx2.out
        rw [hx0', hx1', hx2'] at hd
        obtain ⟨v, hvv⟩ : ∃ v, Hid (chkB ⟨(x0.toNat : Int), (x1.toNat : Int), (x2.toNat : Int), s⟩ = v) := ⟨_, Hid.mk' rfl⟩
        have hchk := Hid.mk' (fun w => bchk_any ⟨(x0.toNat : Int), (x1.toNat : Int), (x2.toNat : Int), s⟩ w)
        rw [hvv.out] at hd hchk
        have hv : Hid ((v = 0 ∧ rd1 t.data.toList = some (⟨(x0.toNat : Int), (x1.toNat : Int), (x2.toNat : Int), s⟩, q.data.toList)) ∨ (v ≠ 0 ∧ rd1 t.data.toList = none)) := by
          show _ ∨ _
          by_cases h : v = 0
          · exact .inl ⟨h, by rw [hd.out, if_pos h]⟩
          · exact .inr ⟨h, by rw [hd.out, if_neg h]⟩
        simp only at hchk
        have hb0 := x0.toNat_lt
        have ex0 : IntKind.i64.wrap (x0.toNat : Int) = x0.toNat := by rw [IntKind.wrap_i64]; omega
        have hb1 := x1.toNat_lt
        have ex1 : IntKind.i64.wrap (x1.toNat : Int) = x1.toNat := by rw [IntKind.wrap_i64]; omega
        have hb2 := x2.toNat_lt
        have ex2 : IntKind.i64.wrap (x2.toNat : Int) = x2.toNat := by rw [IntKind.wrap_i64]; omega
        go_enter Tryd.func77, Tryd.ntmps77
        go_wp2_with fail
        refine (hget.out _).mono ?_
        rintro e w1 ⟨rfl, rfl⟩
        go_wp2_with fail
        rw [hW0.out] at HX HB ⊢
        refine wp_region_held_drew (S := fun _ => True) (by kernel_rfl) trivial (fun hHeld => ?_)
        refine wpAnyH_take (i := 0) (oi := _) (v := .string t) rfl (by kernel_rfl) (by kernel_rfl) (by kernel_rfl) (fun _ _ _ h => h) (Or.inl ⟨by rfl, ?_⟩) (by assumption) ?_
        · intro w9 _
          simp only [List.getElem_toArray, List.getElem_cons_zero]
          go_simp
        simp only [Act.put, List.getElem_toArray, List.getElem_cons_zero, List.setIfInBounds_toArray, List.set_cons_zero, List.set_cons_succ]
        refine wpAnyH_take (i := 1) (oi := _) (v := .int .u8 (x0.toNat : Int)) rfl (by kernel_rfl) (by kernel_rfl) (by kernel_rfl) (fun _ _ _ h => h) (Or.inl ⟨by rfl, ?_⟩) (by assumption) ?_
        · intro w9 _
          simp only [List.getElem_toArray, List.getElem_cons_succ, List.getElem_cons_zero]
          go_simp
        simp only [Act.put, List.getElem_toArray, List.getElem_cons_succ, List.getElem_cons_zero, List.setIfInBounds_toArray, List.set_cons_zero, List.set_cons_succ]
        refine wpAnyH_take (i := 2) (oi := _) (v := .int .i64 (x0.toNat : Int)) rfl (by kernel_rfl) (by kernel_rfl) (by kernel_rfl) (fun _ _ _ h => h) (Or.inl ⟨by rfl, ?_⟩) (by assumption) ?_
        · intro w9 _
          simp only [List.getElem_toArray, List.getElem_cons_succ, List.getElem_cons_zero]
          go_simp
        simp only [Act.put, List.getElem_toArray, List.getElem_cons_succ, List.getElem_cons_zero, List.setIfInBounds_toArray, List.set_cons_zero, List.set_cons_succ]
        refine wpAnyH_take (i := 3) (oi := _) (v := .string t) rfl (by kernel_rfl) (by kernel_rfl) (by kernel_rfl) (fun _ _ _ h => h) (Or.inl ⟨by rfl, ?_⟩) (by assumption) ?_
        · intro w9 _
          simp only [List.getElem_toArray, List.getElem_cons_succ, List.getElem_cons_zero]
          go_simp
        simp only [Act.put, List.getElem_toArray, List.getElem_cons_succ, List.getElem_cons_zero, List.setIfInBounds_toArray, List.set_cons_zero, List.set_cons_succ]
        refine wpAnyH_take (i := 4) (oi := _) (v := .int .u8 (x1.toNat : Int)) rfl (by kernel_rfl) (by kernel_rfl) (by kernel_rfl) (fun _ _ _ h => h) (Or.inl ⟨by rfl, ?_⟩) (by assumption) ?_
        · intro w9 _
          simp only [List.getElem_toArray, List.getElem_cons_succ, List.getElem_cons_zero]
          go_simp
        simp only [Act.put, List.getElem_toArray, List.getElem_cons_succ, List.getElem_cons_zero, List.setIfInBounds_toArray, List.set_cons_zero, List.set_cons_succ]
        refine wpAnyH_take (i := 5) (oi := _) (v := .int .i64 (x1.toNat : Int)) rfl (by kernel_rfl) (by kernel_rfl) (by kernel_rfl) (fun _ _ _ h => h) (Or.inl ⟨by rfl, ?_⟩) (by assumption) ?_
        · intro w9 _
          simp only [List.getElem_toArray, List.getElem_cons_succ, List.getElem_cons_zero]
          go_simp
        simp only [Act.put, List.getElem_toArray, List.getElem_cons_succ, List.getElem_cons_zero, List.setIfInBounds_toArray, List.set_cons_zero, List.set_cons_succ]
        refine wpAnyH_take (i := 6) (oi := _) (v := .string t) rfl (by kernel_rfl) (by kernel_rfl) (by kernel_rfl) (fun _ _ _ h => h) (Or.inl ⟨by rfl, ?_⟩) (by assumption) ?_
        · intro w9 _
          simp only [List.getElem_toArray, List.getElem_cons_succ, List.getElem_cons_zero]
          go_simp
        simp only [Act.put, List.getElem_toArray, List.getElem_cons_succ, List.getElem_cons_zero, List.setIfInBounds_toArray, List.set_cons_zero, List.set_cons_succ]
        refine wpAnyH_take (i := 7) (oi := _) (v := .int .u8 (x2.toNat : Int)) rfl (by kernel_rfl) (by kernel_rfl) (by kernel_rfl) (fun _ _ _ h => h) (Or.inl ⟨by rfl, ?_⟩) (by assumption) ?_
        · intro w9 _
          simp only [List.getElem_toArray, List.getElem_cons_succ, List.getElem_cons_zero]
          go_simp
        simp only [Act.put, List.getElem_toArray, List.getElem_cons_succ, List.getElem_cons_zero, List.setIfInBounds_toArray, List.set_cons_zero, List.set_cons_succ]
        refine wpAnyH_take (i := 8) (oi := _) (v := .int .i64 (x2.toNat : Int)) rfl (by kernel_rfl) (by kernel_rfl) (by kernel_rfl) (fun _ _ _ h => h) (Or.inl ⟨by rfl, ?_⟩) (by assumption) ?_
        · intro w9 _
          simp only [List.getElem_toArray, List.getElem_cons_succ, List.getElem_cons_zero]
          go_simp
        simp only [Act.put, List.getElem_toArray, List.getElem_cons_succ, List.getElem_cons_zero, List.setIfInBounds_toArray, List.set_cons_zero, List.set_cons_succ]
        refine wpAnyH_take (i := 9) (oi := _) (v := .string r) rfl (by kernel_rfl) (by kernel_rfl) (by kernel_rfl) (fun _ _ _ h => h) (Or.inl ⟨by rfl, ?_⟩) (by assumption) ?_
        · intro w9 _
          simp only [List.getElem_toArray, List.getElem_cons_succ, List.getElem_cons_zero]
          go_simp
        simp only [Act.put, List.getElem_toArray, List.getElem_cons_succ, List.getElem_cons_zero, List.setIfInBounds_toArray, List.set_cons_zero, List.set_cons_succ]
        refine wpAnyH_take (i := 10) (oi := _) (v := .int .i64 (K : Int)) rfl (by kernel_rfl) (by kernel_rfl) (by kernel_rfl) (fun _ _ _ h => h) (Or.inl ⟨by rfl, ?_⟩) (by assumption) ?_
        · intro w9 _
          simp only [List.getElem_toArray, List.getElem_cons_succ, List.getElem_cons_zero]
          go_simp
        simp only [Act.put, List.getElem_toArray, List.getElem_cons_succ, List.getElem_cons_zero, List.setIfInBounds_toArray, List.set_cons_zero, List.set_cons_succ]
        refine wpAnyH_take (i := 11) (oi := _) (v := .int .i64 (D : Int)) rfl (by kernel_rfl) (by kernel_rfl) (by kernel_rfl) (fun _ _ _ h => h) (Or.inl ⟨by rfl, ?_⟩) (by assumption) ?_
        · intro w9 _
          simp only [List.getElem_toArray, List.getElem_cons_succ, List.getElem_cons_zero]
          go_simp
        simp only [Act.put, List.getElem_toArray, List.getElem_cons_succ, List.getElem_cons_zero, List.setIfInBounds_toArray, List.set_cons_zero, List.set_cons_succ]
        refine wpAnyH_take (i := 12) (oi := _) (v := .string s) rfl (by kernel_rfl) (by kernel_rfl) (by kernel_rfl) (fun _ _ _ h => h) (Or.inl ⟨by rfl, ?_⟩) (by assumption) ?_
        · intro w9 _
          simp only [List.getElem_toArray, List.getElem_cons_succ, List.getElem_cons_zero]
          go_simp
        simp only [Act.put, List.getElem_toArray, List.getElem_cons_succ, List.getElem_cons_zero, List.setIfInBounds_toArray, List.set_cons_zero, List.set_cons_succ]
        refine wpAnyH_ready (rs := [13, 15]) (by kernel_rfl) (by simp) ?_
        refine AllReadyH.cons (o := _) rfl (fun KA hKA => ?_) (AllReadyH.cons (o := _) rfl (fun KB hKB => ?_) AllReadyH.nil)
        · simp only [List.getElem_toArray, List.getElem_cons_succ, List.getElem_cons_zero]
          go_simp
          go_at_call 58
          refine (tclone_any s _ (by omega)).mono ?_
          rintro e w1 ⟨rfl, hb⟩
          have HB1 : Hid (Below W0.heap.size W0 w1) := ((Below.refl _ W0).drew).trans hb
          clear hb
          simp only
          refine hKA.out _ _ trivial (fun hHeld2 => ?_)
          clear hKA KA
          refine wpAnyH_take (i := 14) (oi := _) (v := .agg #[.int .i64 (x0.toNat : Int), .int .i64 (x1.toNat : Int), .int .i64 (x2.toNat : Int), .string s]) rfl (by kernel_rfl) (by kernel_rfl) (by kernel_rfl) (fun _ _ _ h => h) (Or.inl ⟨by rfl, ?_⟩) (by assumption) ?_
          · intro w9 _
            simp only [List.getElem_toArray, List.getElem_cons_succ, List.getElem_cons_zero]
            go_simp
          simp only [Act.put, List.getElem_toArray, List.getElem_cons_succ, List.getElem_cons_zero, List.setIfInBounds_toArray, List.set_cons_zero, List.set_cons_succ]
          refine wpAnyH_ready (rs := [15]) (by kernel_rfl) (by simp) ?_
          refine AllReadyH.cons (o := _) rfl (fun KB hKB => ?_) AllReadyH.nil
          simp only [List.getElem_toArray, List.getElem_cons_succ, List.getElem_cons_zero]
          go_simp
          refine hKB.out _ _ trivial (fun hHeld3 => ?_)
          clear hKB KB
          refine wpAnyH_ready (rs := [16]) (by kernel_rfl) (by simp) ?_
          refine AllReadyH.cons (o := _) rfl (fun KC hKC => ?_) AllReadyH.nil
          simp only [List.getElem_toArray, List.getElem_cons_succ, List.getElem_cons_zero]
          go_simp
          refine hKC.out _ _ trivial (fun hHeld4 => ?_)
          clear hKC KC
          refine wpAnyH_done (by kernel_rfl) ?_ _
          have HG0 := boxV_new w1 [.int .i64 (x0.toNat : Int), .int .i64 (x1.toNat : Int), .int .i64 (x2.toNat : Int), .string s] 82
          have HR0 := (HX.out.below HB1.out).alloc (.cells #[.int .i64 (x0.toNat : Int), .int .i64 (x1.toNat : Int), .int .i64 (x2.toNat : Int), .string s] 82)
          have HBB0 := HB.out.trans ((HB1.out.alloc HB1.out.size (.cells #[.int .i64 (x0.toNat : Int), .int .i64 (x1.toNat : Int), .int .i64 (x2.toNat : Int), .string s] 82)).mono HB.out.size)
          obtain ⟨W2, hW2⟩ : ∃ W, Hid (w1.alloc (.cells #[.int .i64 (x0.toNat : Int), .int .i64 (x1.toNat : Int), .int .i64 (x2.toNat : Int), .string s] 82) = W) := ⟨_, Hid.mk' rfl⟩
          have HG : Hid (BoxV W2 w1.heap.size [.int .i64 (x0.toNat : Int), .int .i64 (x1.toNat : Int), .int .i64 (x2.toNat : Int), .string s]) := by rw [← hW2.out]; exact HG0
          have HR : Hid (BoxV W2 w.heap.size [.int .i64 0, .int .i64 0, .int .i64 0, .string ⟨#[]⟩]) := by rw [← hW2.out]; exact HR0
          have HB2 : Hid (Below w.heap.size w W2) := by rw [← hW2.out]; exact HBB0
          have hne : w1.heap.size ≠ w.heap.size := by have h1 := HX.out.lt; have h2 := HB1.out.size; omega
          rw [hW2.out]
          clear HG0 HR0 HBB0
          have c0 := HG.out.c 0 _ rfl
          have c1 := HG.out.c 1 _ rfl
          have c2 := HG.out.c 2 _ rfl
          have c3 := HG.out.c 3 _ rfl
          go_wp2_with fail
          go_region_held_law (fun X => X.cell? ⟨w1.heap.size, 0, none⟩ = some (.int .i64 (x0.toNat : Int)) ∧ X.cell? ⟨w1.heap.size, 1, none⟩ = some (.int .i64 (x1.toNat : Int)) ∧ X.cell? ⟨w1.heap.size, 2, none⟩ = some (.int .i64 (x2.toNat : Int)) ∧ X.cell? ⟨w1.heap.size, 3, none⟩ = some (.string s)) (first | exact ⟨p0, p1, p2, p3⟩ | exact ⟨cset4 p0 hne _ _ _ _, cset4 p1 hne _ _ _ _, cset4 p2 hne _ _ _ _, cset4 p3 hne _ _ _ _⟩ | exact ⟨c0, c1, c2, c3⟩) (first
            | (go_at_call 80; refine (hchk.out _).mono ?_; rintro e w3 ⟨rfl, hb3⟩; have HB3 := Hid.mk' ((Below.refl _ W2).drew.trans hb3); have HG3 := HG.out.below HB3.out; have HR3 := HR.out.below HB3.out; have p0 := HG3.c 0 _ rfl; have p1 := HG3.c 1 _ rfl; have p2 := HG3.c 2 _ rfl; have p3 := HG3.c 3 _ rfl; have a0 := HR3.c 0 _ rfl; have a1 := HR3.c 1 _ rfl; have a2 := HR3.c 2 _ rfl; have a3 := HR3.c 3 _ rfl; have f0 := HR3.f 0 (by decide); have f1 := HR3.f 1 (by decide); have f2 := HR3.f 2 (by decide); have f3 := HR3.f 3 (by decide); have HR4 := Hid.mk' HR3; clear hb3 HG3 HR3)
            | fail)
          all_goals
            have HRX := HR4.out.set4 (.int .i64 (x0.toNat : Int)) (.int .i64 (x1.toNat : Int)) (.int .i64 (x2.toNat : Int)) (.string s)
            have HBX3 := below_set4 (HB2.out.trans (HB3.out.mono HB2.out.size)) (Nat.le_refl _) (.int .i64 (x0.toNat : Int)) (.int .i64 (x1.toNat : Int)) (.int .i64 (x2.toNat : Int)) (.string s)
            go_wp2_with fail
            refine bodyPost_ret (results_boxV3 rfl _ _ w.heap.size 4 _ _ _ rfl rfl rfl HRX rfl infoSzBl (aggBl _)) rfl ⟨?_, HBX3⟩
            rcases hv.out with ⟨hv0, hd0⟩ | ⟨hv1, hd1⟩
            · refine .inl ⟨⟨(x0.toNat : Int), (x1.toNat : Int), (x2.toNat : Int), s⟩, q, hd0, hqz.out, ?_⟩
              rw [hv0]; rfl
            · refine .inr ⟨hd1, (x0.toNat : Int), (x1.toNat : Int), (x2.toNat : Int), s, q, ?_⟩
              have tv : (v == 0) = false := by rw [beq_eq_false_iff_ne]; exact hv1
              simp [tv]
        · simp only [List.getElem_toArray, List.getElem_cons_succ, List.getElem_cons_zero]
          go_simp
          refine hKB.out _ _ trivial (fun hHeld2 => ?_)
          clear hKB KB
          refine wpAnyH_ready (rs := [13]) (by kernel_rfl) (by simp) ?_
          refine AllReadyH.cons (o := _) rfl (fun KA hKA => ?_) AllReadyH.nil
          simp only [List.getElem_toArray, List.getElem_cons_succ, List.getElem_cons_zero]
          go_simp
          go_at_call 58
          refine (tclone_any s _ (by omega)).mono ?_
          rintro e w1 ⟨rfl, hb⟩
          have hbx := ((boxV_new W0 [.int .i64 0, .int .i64 0, .int .i64 0, .string ⟨#[]⟩] 82).drew).below hb
          have HB1 : Hid (Below W0.heap.size W0 w1) := (((Below.refl _ W0).alloc (Nat.le_refl _) _).drew).trans (hb.mono (by simp))
          have a0 := hbx.c 0 _ rfl
          have a1 := hbx.c 1 _ rfl
          have a2 := hbx.c 2 _ rfl
          have a3 := hbx.c 3 _ rfl
          have f0 := hbx.f 0 (by decide)
          have f1 := hbx.f 1 (by decide)
          have f2 := hbx.f 2 (by decide)
          have f3 := hbx.f 3 (by decide)
          have HBX := Hid.mk' hbx
          clear hb hbx
          simp only
          refine hKA.out _ _ trivial (fun hHeld3 => ?_)
          clear hKA KA
          refine wpAnyH_take (i := 14) (oi := _) (v := .agg #[.int .i64 (x0.toNat : Int), .int .i64 (x1.toNat : Int), .int .i64 (x2.toNat : Int), .string s]) rfl (by kernel_rfl) (by kernel_rfl) (by kernel_rfl) (fun _ _ _ h => h) (Or.inl ⟨by rfl, ?_⟩) (by assumption) ?_
          · intro w9 _
            simp only [List.getElem_toArray, List.getElem_cons_succ, List.getElem_cons_zero]
            go_simp
          simp only [Act.put, List.getElem_toArray, List.getElem_cons_succ, List.getElem_cons_zero, List.setIfInBounds_toArray, List.set_cons_zero, List.set_cons_succ]
          refine wpAnyH_ready (rs := [16]) (by kernel_rfl) (by simp) ?_
          refine AllReadyH.cons (o := _) rfl (fun KC hKC => ?_) AllReadyH.nil
          simp only [List.getElem_toArray, List.getElem_cons_succ, List.getElem_cons_zero]
          go_simp
          refine hKC.out _ _ trivial (fun hHeld4 => ?_)
          clear hKC KC
          refine wpAnyH_done (by kernel_rfl) ?_ _
          have HG0 := HBX.out.set4 (.int .i64 (x0.toNat : Int)) (.int .i64 (x1.toNat : Int)) (.int .i64 (x2.toNat : Int)) (.string s)
          have hne : W0.heap.size ≠ w.heap.size := by have h1 := HX.out.lt; omega
          have HR0 := ((((HX.out.below HB1.out).other ⟨W0.heap.size, 0, none⟩ (.int .i64 (x0.toNat : Int)) hne).other ⟨W0.heap.size, 1, none⟩ (.int .i64 (x1.toNat : Int)) hne).other ⟨W0.heap.size, 2, none⟩ (.int .i64 (x2.toNat : Int)) hne).other ⟨W0.heap.size, 3, none⟩ (.string s) hne
          have HBB0 := below_set4 (HB.out.trans (HB1.out.mono HB.out.size)) HB.out.size (.int .i64 (x0.toNat : Int)) (.int .i64 (x1.toNat : Int)) (.int .i64 (x2.toNat : Int)) (.string s)
          obtain ⟨W2, hW2⟩ : ∃ W, Hid ((((w1.setCell ⟨W0.heap.size, 0, none⟩ (.int .i64 (x0.toNat : Int))).setCell ⟨W0.heap.size, 1, none⟩ (.int .i64 (x1.toNat : Int))).setCell ⟨W0.heap.size, 2, none⟩ (.int .i64 (x2.toNat : Int))).setCell ⟨W0.heap.size, 3, none⟩ (.string s) = W) := ⟨_, Hid.mk' rfl⟩
          have HG : Hid (BoxV W2 W0.heap.size [.int .i64 (x0.toNat : Int), .int .i64 (x1.toNat : Int), .int .i64 (x2.toNat : Int), .string s]) := by rw [← hW2.out]; exact HG0
          have HR : Hid (BoxV W2 w.heap.size [.int .i64 0, .int .i64 0, .int .i64 0, .string ⟨#[]⟩]) := by rw [← hW2.out]; exact HR0
          have HB2 : Hid (Below w.heap.size w W2) := by rw [← hW2.out]; exact HBB0
          rw [hW2.out]
          clear HG0 HR0 HBB0 a0 a1 a2 a3 f0 f1 f2 f3
          have c0 := HG.out.c 0 _ rfl
          have c1 := HG.out.c 1 _ rfl
          have c2 := HG.out.c 2 _ rfl
          have c3 := HG.out.c 3 _ rfl
          go_wp2_with fail
          go_region_held_law (fun X => X.cell? ⟨W0.heap.size, 0, none⟩ = some (.int .i64 (x0.toNat : Int)) ∧ X.cell? ⟨W0.heap.size, 1, none⟩ = some (.int .i64 (x1.toNat : Int)) ∧ X.cell? ⟨W0.heap.size, 2, none⟩ = some (.int .i64 (x2.toNat : Int)) ∧ X.cell? ⟨W0.heap.size, 3, none⟩ = some (.string s)) (first | exact ⟨p0, p1, p2, p3⟩ | exact ⟨cset4 p0 hne _ _ _ _, cset4 p1 hne _ _ _ _, cset4 p2 hne _ _ _ _, cset4 p3 hne _ _ _ _⟩ | exact ⟨c0, c1, c2, c3⟩) (first
            | (go_at_call 80; refine (hchk.out _).mono ?_; rintro e w3 ⟨rfl, hb3⟩; have HB3 := Hid.mk' ((Below.refl _ W2).drew.trans hb3); have HG3 := HG.out.below HB3.out; have HR3 := HR.out.below HB3.out; have p0 := HG3.c 0 _ rfl; have p1 := HG3.c 1 _ rfl; have p2 := HG3.c 2 _ rfl; have p3 := HG3.c 3 _ rfl; have a0 := HR3.c 0 _ rfl; have a1 := HR3.c 1 _ rfl; have a2 := HR3.c 2 _ rfl; have a3 := HR3.c 3 _ rfl; have f0 := HR3.f 0 (by decide); have f1 := HR3.f 1 (by decide); have f2 := HR3.f 2 (by decide); have f3 := HR3.f 3 (by decide); have HR4 := Hid.mk' HR3; clear hb3 HG3 HR3)
            | fail)
          all_goals
            have HRX := HR4.out.set4 (.int .i64 (x0.toNat : Int)) (.int .i64 (x1.toNat : Int)) (.int .i64 (x2.toNat : Int)) (.string s)
            have HBX3 := below_set4 (HB2.out.trans (HB3.out.mono HB2.out.size)) (Nat.le_refl _) (.int .i64 (x0.toNat : Int)) (.int .i64 (x1.toNat : Int)) (.int .i64 (x2.toNat : Int)) (.string s)
            go_wp2_with fail
            refine bodyPost_ret (results_boxV3 rfl _ _ w.heap.size 4 _ _ _ rfl rfl rfl HRX rfl infoSzBl (aggBl _)) rfl ⟨?_, HBX3⟩
            rcases hv.out with ⟨hv0, hd0⟩ | ⟨hv1, hd1⟩
            · refine .inl ⟨⟨(x0.toNat : Int), (x1.toNat : Int), (x2.toNat : Int), s⟩, q, hd0, hqz.out, ?_⟩
              rw [hv0]; rfl
            · refine .inr ⟨hd1, (x0.toNat : Int), (x1.toNat : Int), (x2.toNat : Int), s, q, ?_⟩
              have tv : (v == 0) = false := by rw [beq_eq_false_iff_ne]; exact hv1
              simp [tv]
    · have hn : Hid (rd1 t.data.toList = none) := by show _ = _; rw [hd.out, if_neg (fun h => hE0 h.1)]
      have tE : (E != 0) = true := by rw [bne_iff_ne]; exact hE0
      clear hE0
      go_enter Tryd.func77, Tryd.ntmps77
      go_wp2_with fail
      refine (hget.out _).mono ?_
      rintro e w1 ⟨rfl, rfl⟩
      go_wp2_with fail
      refine bodyPost_ret (results_boxV3 rfl _ _ w.heap.size 4 _ _ _ rfl rfl rfl HX.out rfl infoSzBl (aggBl _)) rfl ⟨.inr ⟨hn.out, 0, 0, 0, _, _, rfl⟩, HB.out⟩
end Go.Proofs.YtbakgobgjfhhhaaDoor
