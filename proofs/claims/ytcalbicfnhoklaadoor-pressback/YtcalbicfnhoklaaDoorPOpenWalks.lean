/- What press.Open answers. -/
import Derived.Test.YtcalbicfnhoklaaDoorPMarksWalks
import Derived.Test.YtcalbicfnhoklaaDoorCloneText
namespace Go.Proofs.YtcalbicfnhoklaaDoor
open Go.RowKit

/-- what openBody says -/
def bodyR (f : UInt8) (n : Nat) (b : List UInt8) : Option (List UInt8) :=
  if f = 0 then (if b = [] then some (List.replicate n 0) else none)
  else if f = 1 then (if b.length = n then some b else none)
  else if f = 2 then (match rmR b with
    | some x => if x.length = n then some x else none
    | none => none)
  else none
theorem openR_cons (f : UInt8) (r : List UInt8) : openR (f :: r) = if getE r = 0 ∧ getA r ≤ 512 then bodyR f (getA r) (r.drop (getK r)) else none := by
  unfold openR bodyR; rfl
def ObAns (f : UInt8) (n : Nat) (b x : ByteArray) (ok : Bool) : Prop := (ok = true ∧ bodyR f n b.data.toList = some x.data.toList) ∨ (ok = false ∧ bodyR f n b.data.toList = none)
theorem made_string (n : Nat) (w : World) : (convert 27 9 (.slice (some ⟨w.heap.size, 0, none⟩) n n)).run Tryd.prog (w.alloc (.cells (madeCells #[.int .u8 0] n) 5)) = .ok (.string ⟨(List.replicate n 0).toArray⟩) (w.alloc (.cells (madeCells #[.int .u8 0] n) 5)) := by
  have h := run_convert_bytes_back (P := Tryd.prog) (w.alloc (.cells (madeCells #[.int .u8 0] n) 5)) 27 9 5 ⟨w.heap.size, 0, none⟩ n (List.replicate n 0) Tryd.underlying27 Tryd.underlying5 Tryd.underlying9 fun j hj => by
    have hj' : j < n := by simpa using hj
    rw [show (⟨w.heap.size, 0, none⟩ : Addr).add j = ⟨w.heap.size, j, none⟩ by unfold Addr.add; split <;> simp_all, World.cell?_alloc_new]
    simp [madeCells, hj', Nat.mod_one]
  rwa [List.length_replicate] at h
theorem empty_isQ (b : ByteArray) : b.toList.isEmpty = decide (b.data.toList = []) := by
  rw [ByteArray.toList_eq]
  cases b.data.toList <;> rfl

set_option maxRecDepth 20000 in
set_option maxHeartbeats 1000000 in
theorem pbody_any (f : UInt8) (n : Nat) (b : ByteArray) (w : World) (hn : n ≤ 512) (hs : b.size ≤ 140737488355328) :
    Calls Tryd.prog 14 #[.int .u8 (f.toNat : Int), .int .i64 (n : Int), .string b] w fun e w' => (∃ x ok, e = .returned (.tuple #[.string x, .bool ok]) ∧ ObAns f n b x ok) ∧ Below w.heap.size w w' := by
  have hbl : Hid (b.data.toList.length = b.size) := by show _ = _; simp
  by_cases f0 : f = 0
  · subst f0
    have e0 : ((0 : UInt8).toNat : Int) = 0 := rfl
    rw [e0]
    have hmk := fun w => run_make_row' (P := Tryd.prog) 27 5 (.int .u8 0) 1 Tryd.underlying27 infoByteP rfl .i64 .i64 n (by omega) (by omega) w
    have hcv := made_string n w
    go_enter Tryd.func14, Tryd.ntmps14
    go_wp2_with fail
    go_ret2
    refine ⟨⟨_, _, rfl, ?_⟩, (Below.refl _ _).alloc (Nat.le_refl _) _⟩
    unfold ObAns bodyR
    rw [empty_isQ]
    by_cases h : b.data.toList = []
    · exact .inl ⟨decide_eq_true h, by rw [if_pos rfl, if_pos h]; simp⟩
    · exact .inr ⟨decide_eq_false h, by rw [if_pos rfl, if_neg h]⟩
  · by_cases f1 : f = 1
    · subst f1
      have e0 : ((1 : UInt8).toNat : Int) = 1 := rfl
      rw [e0]
      by_cases hl : b.size = n
      · have t1 : ((b.size : Int) != (n : Int)) = false := by rw [bne_eq_false_iff_eq]; omega
        have HA : Hid (ObAns 1 n b b true) := .inl ⟨rfl, by unfold bodyR; rw [if_neg (by decide), if_pos rfl, if_pos (by rw [hbl.out]; exact hl)]⟩
        have HL := Hid.mk' hl
        clear hl
        go_enter Tryd.func14, Tryd.ntmps14
        go_wp2_with fail
        refine (tclone_any b _ hs).mono ?_
        rintro e w1 ⟨rfl, hb⟩
        have HB := Hid.mk' hb
        clear hb
        go_wp2_with fail
        go_ret2
        exact ⟨⟨_, _, rfl, HA.out⟩, HB.out⟩
      · have t1 : ((b.size : Int) != (n : Int)) = true := by rw [bne_iff_ne]; omega
        have HA : Hid (ObAns 1 n b ⟨#[]⟩ false) := .inr ⟨rfl, by unfold bodyR; rw [if_neg (by decide), if_pos rfl, if_neg (by rw [hbl.out]; exact hl)]⟩
        go_enter Tryd.func14, Tryd.ntmps14
        go_wp2_with fail
        go_ret2
        exact ⟨⟨_, _, rfl, HA.out⟩, Below.refl _ _⟩
    · by_cases f2 : f = 2
      · subst f2
        have e0 : ((2 : UInt8).toNat : Int) = 2 := rfl
        rw [e0]
        have HR : Hid (∀ x ok, RmAns b x ok → ObAns 2 n b x (ok && ((x.size : Int) == (n : Int)))) := by
          intro x ok h
          unfold ObAns bodyR
          rcases h with ⟨rfl, h⟩ | ⟨rfl, h⟩
          · rw [if_neg (by decide), if_neg (by decide), if_pos rfl, h]
            simp only
            have hx : x.data.toList.length = x.size := by simp
            by_cases hl : x.size = n
            · exact .inl ⟨by simp [hl], by rw [if_pos (by rw [hx]; exact hl)]⟩
            · exact .inr ⟨by rw [Bool.true_and, beq_eq_false_iff_ne]; omega, by rw [if_neg (by rw [hx]; exact hl)]⟩
          · rw [if_neg (by decide), if_neg (by decide), if_pos rfl, h]
            exact .inr ⟨rfl, rfl⟩
        go_enter Tryd.func14, Tryd.ntmps14
        go_wp2_with fail
        refine (pmarks_any b _ hs).mono ?_
        rintro e w1 ⟨⟨x, ok, rfl, hans⟩, hb⟩
        have HA := Hid.mk' (HR.out x ok hans)
        have HB := Hid.mk' hb
        clear hb hans
        cases ok with
        | true =>
          go_wp2_with fail
          go_ret2
          exact ⟨⟨_, _, rfl, HA.out⟩, HB.out⟩
        | false =>
          go_wp2_with fail
          go_ret2
          exact ⟨⟨_, _, rfl, HA.out⟩, HB.out⟩
      · have HA : Hid (ObAns f n b ⟨#[]⟩ false) := .inr ⟨rfl, by unfold bodyR; rw [if_neg f0, if_neg f1, if_neg f2]⟩
        have t0 : ((f.toNat : Int) == 0) = false := by rw [beq_eq_false_iff_ne]; intro h; exact f0 (UInt8.toNat_inj.1 (by show f.toNat = 0; omega))
        have t1 : ((f.toNat : Int) == 1) = false := by rw [beq_eq_false_iff_ne]; intro h; exact f1 (UInt8.toNat_inj.1 (by show f.toNat = 1; omega))
        have t2 : ((f.toNat : Int) == 2) = false := by rw [beq_eq_false_iff_ne]; intro h; exact f2 (UInt8.toNat_inj.1 (by show f.toNat = 2; omega))
        go_enter Tryd.func14, Tryd.ntmps14
        go_wp2_with fail
        go_ret2
        exact ⟨⟨_, _, rfl, HA.out⟩, Below.refl _ _⟩
/-- what Open answers -/
def OpAns (t x : ByteArray) (e : Int) : Prop := (e = 0 ∧ openR t.data.toList = some x.data.toList) ∨ (e = 4 ∧ x = ⟨#[]⟩ ∧ openR t.data.toList = none)
theorem ext_oneQ (t : ByteArray) (h : 0 < t.size) : t.data.toList = t[0] :: (t.extract 1 t.size).data.toList := by
  rw [ext_listQ]
  have hl : t.data.toList.length = t.size := by simp
  have := List.drop_eq_getElem_cons (l := t.data.toList) (i := 0) (by omega)
  rw [List.drop_zero] at this
  exact this

set_option maxRecDepth 20000 in
set_option maxHeartbeats 1000000 in
theorem popen_any (t : ByteArray) (w : World) (hs : t.size ≤ 140737488355328) :
    Calls Tryd.prog 7 #[.string t] w fun e w' => (∃ x e', e = .returned (.tuple #[.string x, .int .i64 e']) ∧ OpAns t x e') ∧ Below w.heap.size w w' := by
  have hbad : Hid (openR t.data.toList = none → ∀ wx : World, Below w.heap.size w wx → (∃ x e', Ending.returned (.tuple #[.string ⟨#[]⟩, .int .i64 4]) = .returned (.tuple #[.string x, .int .i64 e']) ∧ OpAns t x e') ∧ Below w.heap.size w wx) := fun h wx hb => ⟨⟨_, 4, rfl, .inr ⟨rfl, rfl, h⟩⟩, hb⟩
  by_cases h0 : t.size = 0
  · obtain rfl : t = ⟨#[]⟩ := ByteArray.ext (Array.eq_empty_of_size_eq_zero h0)
    go_enter Tryd.func7, Tryd.ntmps7
    go_wp2_with fail
    go_ret2
    exact hbad.out rfl _ (Below.refl _ _)
  · have hp : 0 < t.size := by omega
    have HOne := Hid.mk' (ext_oneQ t hp)
    have te : t.toList.isEmpty = false := by rw [empty_isQ]; exact decide_eq_false (fun h => by rw [HOne.out] at h; cases h)
    obtain ⟨r, hr⟩ : ∃ r, Hid (t.extract 1 t.size = r) := ⟨_, Hid.mk' rfl⟩
    have hrs : r.size + 1 = t.size := by rw [← hr.out, ext_sizeQ]; omega
    have HO : Hid (openR t.data.toList = if getE r.data.toList = 0 ∧ getA r.data.toList ≤ 512 then bodyR t[0] (getA r.data.toList) (r.data.toList.drop (getK r.data.toList)) else none) := by show _ = _; rw [HOne.out, hr.out, openR_cons]
    have h1s : (1 : Int) ≤ (t.size : Int) := by omega
    by_cases hE : getE r.data.toList = 0
    · obtain ⟨A, hA'⟩ : ∃ A, Hid (getA r.data.toList = A) := ⟨_, Hid.mk' rfl⟩
      have hk := (getK_le r.data.toList hE).1
      rw [show r.data.toList.length = r.size by simp] at hk
      obtain ⟨k, hk'⟩ : ∃ k, Hid (getK r.data.toList = k) := ⟨_, Hid.mk' rfl⟩
      rw [hk'.out] at hk HO
      rw [hA'.out] at HO
      by_cases hA : A ≤ 512
      · have HO2 : Hid (openR t.data.toList = bodyR t[0] A (r.data.toList.drop k)) := by show _ = _; rw [HO.out, if_pos ⟨hE, hA⟩]
        have HE := Hid.mk' hE
        have t5 : decide (512 < A) = false := decide_eq_false (by omega)
        obtain ⟨k1, hk1⟩ : ∃ k1, Hid (k1 = 1 + k) := ⟨_, Hid.mk' rfl⟩
        have ek : IntKind.i64.wrap (1 + (k : Int)) = (k1 : Int) := by rw [IntKind.wrap_i64, hk1.out]; omega
        have hq0 : (0 : Int) ≤ (k1 : Int) := by omega
        have hq1 : (k1 : Int) ≤ (t.size : Int) := by have := hk1.out; omega
        have hqb : k1 ≤ 9223372036854775807 := by omega
        have eA : IntKind.i64.wrap (A : Int) = (A : Int) := by rw [IntKind.wrap_i64]; omega
        have HBy : Hid ((t.extract k1 t.size).data.toList = r.data.toList.drop k) := by show _ = _; rw [ext_listQ, ← hr.out, ext_listQ, List.drop_drop, hk1.out]
        have hbs : (t.extract k1 t.size).size ≤ 140737488355328 := by rw [ext_sizeQ]; omega
        obtain ⟨f, hf⟩ : ∃ f, Hid (t[0] = f) := ⟨_, Hid.mk' rfl⟩
        rw [hf.out] at HO2
        have hf2 : t[0].toNat = f.toNat := by rw [hf.out]
        clear hE HO
        go_enter Tryd.func7, Tryd.ntmps7
        go_wp2_with fail
        rw [hr.out]
        refine (get_any r _).mono ?_
        rintro e w' ⟨rfl, hw'⟩; obtain rfl := hw'.symm
        rw [HE.out, hk'.out, hA'.out]
        go_wp2_with fail
        go_region_held3 (fun _ => True) (trivial) ((go_at_call 14; refine (pbody_any f A (t.extract k1 t.size) _ hA hbs).mono ?_; rintro e w1 ⟨⟨x, ok, rfl, hans⟩, hb⟩))
        have HB1 : Hid (Below w.heap.size w w1) := (Below.refl w.heap.size w).drew.trans hb
        clear hb
        rcases hans with ⟨rfl, hx⟩ | ⟨rfl, hx⟩
        · rw [HBy.out, ← HO2.out] at hx
          have HX := Hid.mk' hx
          clear hx
          go_wp2_with fail
          go_ret2
          exact ⟨⟨x, 0, rfl, .inl ⟨rfl, HX.out⟩⟩, HB1.out⟩
        · rw [HBy.out, ← HO2.out] at hx
          have HX := Hid.mk' hx
          clear hx
          go_wp2_with fail
          go_ret2
          exact hbad.out HX.out _ HB1.out
      · have HN : Hid (openR t.data.toList = none) := by show _ = _; rw [HO.out, if_neg (fun h => hA h.2)]
        have HE := Hid.mk' hE
        have t5 : decide (512 < A) = true := decide_eq_true (by omega)
        clear hE
        go_enter Tryd.func7, Tryd.ntmps7
        go_wp2_with fail
        rw [hr.out]
        refine (get_any r _).mono ?_
        rintro e w' ⟨rfl, hw'⟩; obtain rfl := hw'.symm
        rw [HE.out, hk'.out, hA'.out]
        go_wp2_with fail
        go_ret2
        exact hbad.out HN.out _ (Below.refl _ _)
    · have HN : Hid (openR t.data.toList = none) := by show _ = _; rw [HO.out, if_neg (fun h => hE h.1)]
      have hne : (getE r.data.toList != 0) = true := by rw [bne_iff_ne]; exact hE
      obtain ⟨x, hx⟩ : ∃ x, Hid (getE r.data.toList = x) := ⟨_, Hid.mk' rfl⟩
      rw [hx.out] at hne hE
      obtain ⟨k, hk'⟩ : ∃ k, Hid (getK r.data.toList = k) := ⟨_, Hid.mk' rfl⟩
      obtain ⟨A, hA'⟩ : ∃ A, Hid (getA r.data.toList = A) := ⟨_, Hid.mk' rfl⟩
      clear hE
      go_enter Tryd.func7, Tryd.ntmps7
      go_wp2_with fail
      rw [hr.out]
      refine (get_any r _).mono ?_
      rintro e w' ⟨rfl, hw'⟩; obtain rfl := hw'.symm
      rw [hx.out, hk'.out, hA'.out]
      go_wp2_with fail
      go_ret2
      exact hbad.out HN.out _ (Below.refl _ _)
end Go.Proofs.YtcalbicfnhoklaaDoor
