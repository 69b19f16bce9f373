import Derived.Test.YtbakgobgjfhhhaaDoorBlReadWalks
import Derived.Test.YtbakgobgjfhhhaaDoorRBlobsWalks
import Derived.Test.YtbakgobgjfhhhaaDoorRGetWalks
import Derived.Test.YtbakgobgjfhhhaaDoorPsai

/- What linenref.Unblob answers. -/
namespace Go.Proofs.YtbakgobgjfhhhaaDoor
open Go.RowKit

/-- what a text begins with, taken apart without a look at whether it is right -/
theorem un_step {t : List UInt8} {b : Blb} {r : List Blb} (h : t = bodL (b :: r)) (hb : chkB b = 0) : ∃ x y z q, t = x :: y :: z :: q ∧ 1 ≤ q.length ∧ getE q = 0 ∧ getA q ≤ 600 ∧ getK q + getA q ≤ q.length ∧ rawB x y z q = b ∧ q.drop (getK q + getA q) = bodL r := by
  have hok := chkB_ok hb
  have hg := get_put b.tx.size (by have := hok.tz; omega) (b.tx.data.toList ++ bodL r)
  have hl : b.tx.data.toList.length = b.tx.size := by rw [Array.length_toList]; rfl
  refine ⟨UInt8.ofNat b.kd.toNat, UInt8.ofNat b.io.toNat, UInt8.ofNat b.nt.toNat, putB b.tx.size ++ (b.tx.data.toList ++ bodL r), ?_, ?_, hg.1, ?_, ?_, raw_one hb (bodL r), ?_⟩
  · rw [h, bodL_cons]; unfold oneL hedL; simp
  · have := put_pos b.tx.size; rw [List.length_append]; omega
  · rw [hg.2.1]; exact hok.tz
  · rw [hg.2.1, hg.2.2, List.length_append, List.length_append, hl]; omega
  · rw [hg.2.1, hg.2.2, ← List.drop_drop, List.drop_left, ← hl, List.drop_left]
/-- the text behind what was taken, where the whole can be read -/
def UnI (s : List UInt8) (L : List Blb) (t : List UInt8) : Prop := ∀ l last, readB s = some (l, last) → ∃ r, l = L ++ r ∧ t = bodL r
theorem un_start {s : List UInt8} : UnI s [] (s.drop 2) := by
  intro l last h
  obtain ⟨_, rfl⟩ := read_inv h
  exact ⟨l, rfl, rfl⟩
theorem un_ok {s : List UInt8} {L : List Blb} {t : List UInt8} (h : UnI s L t) (ht : t ≠ []) {l : List Blb} {last : Bool} (hr : readB s = some (l, last)) : ∃ b r, chkB b = 0 ∧ l = L ++ b :: r ∧ t = bodL (b :: r) := by
  obtain ⟨r, h1, h2⟩ := h l last hr
  cases r with
  | nil => exact absurd h2 (by simpa [bodL] using ht)
  | cons b r =>
    refine ⟨b, r, ?_, h1, h2⟩
    have := (wrB_ok (read_inv hr).1).2.1
    exact chkL_all this b (by rw [h1]; simp)
/-- where the next can't be taken, the whole can't be read -/
theorem un_short {s : List UInt8} {L : List Blb} {t : List UInt8} (h : UnI s L t) (ht : t ≠ []) (hs : t.length < 4) : readB s = none := by
  cases hr : readB s with
  | none => rfl
  | some v =>
    obtain ⟨l, last⟩ := v
    obtain ⟨b, r, hb, _, h2⟩ := un_ok h ht hr
    obtain ⟨x, y, z, q, h3, h4, _⟩ := un_step h2 hb
    rw [h3] at hs; simp at hs; omega
theorem un_bad {s : List UInt8} {L : List Blb} {x y z : UInt8} {q : List UInt8} (h : UnI s L (x :: y :: z :: q)) (hs : ¬ (getE q = 0 ∧ getA q ≤ 600 ∧ getK q + getA q ≤ q.length)) : readB s = none := by
  cases hr : readB s with
  | none => rfl
  | some v =>
    obtain ⟨l, last⟩ := v
    obtain ⟨b, r, hb, _, h2⟩ := un_ok h (by simp) hr
    obtain ⟨x', y', z', q', h3, _, h5, h6, h7, _⟩ := un_step h2 hb
    simp only [List.cons.injEq] at h3
    obtain ⟨_, _, _, rfl⟩ := h3
    exact absurd ⟨h5, h6, h7⟩ hs
theorem un_next {s : List UInt8} {L : List Blb} {x y z : UInt8} {q : List UInt8} (h : UnI s L (x :: y :: z :: q)) : UnI s (L ++ [rawB x y z q]) (q.drop (getK q + getA q)) := by
  intro l last hr
  obtain ⟨b, r, hb, h1, h2⟩ := un_ok h (by simp) hr
  obtain ⟨x', y', z', q', h3, _, _, _, _, h8, h9⟩ := un_step h2 hb
  simp only [List.cons.injEq] at h3
  obtain ⟨rfl, rfl, rfl, rfl⟩ := h3
  exact ⟨r, by rw [h1, h8]; simp, h9⟩
/-- at the end: what was taken is what is read, just where it is written as the text -/
theorem un_end {s : List UInt8} {L : List Blb} {z : UInt8} (h : UnI s L []) (h0 : s.head? = some z) : (wrB L = 0 ∧ txB L (z == 1) = s ∧ readB s = some (L, z == 1)) ∨ (readB s = none ∧ ¬ (wrB L = 0 ∧ txB L (z == 1) = s)) := by
  cases hr : readB s with
  | none => exact .inr ⟨rfl, fun hh => read_none hr hh.1 hh.2⟩
  | some v =>
    obtain ⟨l, last⟩ := v
    obtain ⟨r, h1, h2⟩ := h l last hr
    have hw := read_inv hr
    have hr0 : r = [] := by
      cases r with
      | nil => rfl
      | cons b r =>
        have hb := chkL_all (wrB_ok hw.1).2.1 b (by rw [h1]; simp)
        have := (oneL_le hb).1
        rw [bodL_cons] at h2
        have := congrArg List.length h2
        rw [List.length_append] at this
        simp at this; omega
    subst hr0
    rw [List.append_nil] at h1
    subst h1
    have hz : (z == 1) = last := by
      rw [hw.2] at h0
      unfold txB at h0
      simp only [List.head?_cons, Option.some.injEq] at h0
      rw [← h0]
      cases last <;> rfl
    exact .inl ⟨hw.1, by rw [hz]; exact hw.2.symm, by rw [hz]⟩
theorem infoBlU : (Tryd.prog.info? 82).map (fun i => (i.zero, i.size, i.bytes)) = some (some (.agg #[.int .i64 0, .int .i64 0, .int .i64 0, .string ⟨#[]⟩]), 4, 40) := by kernel_rfl
theorem bl4_one (b : Blb) : ∀ u ∈ bl4 b, u.oneCell' = true := by
  intro u hu
  simp only [bl4, List.mem_cons, List.not_mem_nil, or_false] at hu
  rcases hu with rfl | rfl | rfl | rfl <;> rfl
theorem cells_bl4 (w : World) (b : Blb) (t : TypeId) : ∀ j u, (bl4 b)[j]? = some u → (w.alloc (.cells #[.int .i64 b.kd, .int .i64 b.io, .int .i64 b.nt, .string b.tx] t)).cell? ((⟨w.heap.size, 0, none⟩ : Addr).add j) = some u := by
  intro j u hj
  have h := (boxV_new w (bl4 b) t).c j u hj
  rw [addR, Nat.zero_add]; exact h
theorem bls_own {w : World} {N : Nat} {v : Value} {L : List Blb} (h : w.ownsRow N 82 4 v L.length (blC L)) (hn : L.length ≤ 8796093022208) (hb : ∀ b ∈ L, BlB b) : ∃ ao cap, v = .slice ao L.length cap ∧ Bls w ao L.length cap L := by
  obtain ⟨ao, cap, hv, h1, h2, h3, hr⟩ := Rd.of_own h
  exact ⟨ao, cap, hv, rfl, hn, hr, hb, h1, h2, h3⟩
theorem blB_raw {x y z : UInt8} {t : ByteArray} (ht : t.size ≤ 1000) : BlB ⟨(x.toNat : Int), (y.toNat : Int), (z.toNat : Int), t⟩ := by
  have h1 := x.toNat_lt
  have h2 := y.toNat_lt
  have h3 := z.toNat_lt
  exact ⟨⟨by simp only; omega, by simp only; omega⟩, ⟨by simp only; omega, by simp only; omega⟩, ⟨by simp only; omega, by simp only; omega⟩, by simp only; omega⟩
set_option maxRecDepth 20000 in
set_option maxHeartbeats 3200000 in
theorem unblob_low (s : ByteArray) (w : World) (_hs : s.size ≤ 281474976710656) :
    Calls Tryd.prog 65 #[.string s] w fun e w' => RdbLow w.heap.size w' s.data.toList e ∧ Below w.heap.size w w' := by
  have hno : ∀ wx, readB s.data.toList = none → Below w.heap.size w wx → (RdbLow w.heap.size wx s.data.toList (.returned (.tuple #[.slice none 0 0, .bool false, .int .i64 4])) ∧ Below w.heap.size w wx) := fun wx h hb => ⟨.inr ⟨h, rfl⟩, hb⟩
  have hno := Hid.mk' hno
  have hl : Hid (s.data.toList.length = s.size) := by show _ = _; rw [Array.length_toList]; rfl
  by_cases h2 : s.size < 2
  · have hq : Hid (readB s.data.toList = none) := by
      have hl := hl.out
      show _ = _
      match h : s.data.toList with
      | [] => rfl
      | [_] => rfl
      | _ :: _ :: _ => rw [h] at hl; simp at hl; omega
    go_enter Tryd.func65, Tryd.ntmps65
    go_wp2_with fail
    go_ret3
    exact hno.out _ hq.out (Below.refl _ _)
  have h2' : 2 ≤ s.size := by omega
  have h0n : 0 < s.size := by omega
  have i0 : (0 : Int) < (s.size : Int) := by omega
  have i2 : (2 : Int) ≤ (s.size : Int) := by omega
  have n2 : ¬ (s.size : Int) < 2 := by omega
  by_cases h3 : 1000 < s.size
  · have hq : Hid (readB s.data.toList = none) := by show _ = _; rw [readB_def h2', if_neg (by omega)]
    clear h2 h2'
    go_enter Tryd.func65, Tryd.ntmps65
    go_wp2_with fail
    go_ret3
    exact hno.out _ hq.out (Below.refl _ _)
  have n3 : ¬ (1000 : Int) < (s.size : Int) := by omega
  obtain ⟨z, hz⟩ : ∃ z, Hid (s[0]'h0n = z) := ⟨_, Hid.mk' rfl⟩
  have hz' := hz.out
  have hhead : Hid (s.data.toList.head? = some z) := by
    have e0 := List.drop_eq_getElem_cons (l := s.data.toList) (i := 0) (by rw [hl.out]; exact h0n)
    rw [List.drop_zero] at e0
    show _ = _
    rw [e0, ← hz.out]; rfl
  obtain ⟨r0, hr0⟩ : ∃ r, Hid (s.extract 2 s.size = r) := ⟨_, Hid.mk' rfl⟩
  have hr0' := hr0.out
  have hr0l : Hid (r0.data.toList = s.data.toList.drop 2) := by show _ = _; rw [← hr0.out, ext_listB]
  have hr0z : Hid (r0.size ≤ 998) := by show _ ≤ _; rw [← hr0.out, ext_sizeB]; omega
  obtain ⟨i0', hi, hz0, hz1, hz2⟩ := info_parts infoBlU
  have KI := Hid.mk' hi
  have KZ0 := Hid.mk' hz0
  have KZ1 := Hid.mk' hz1
  have KZ2 := Hid.mk' hz2
  clear hi hz0 hz1 hz2 h2 h2' h3
  go_enter Tryd.func65, Tryd.ntmps65
  go_wp2_with fail
  go_loopw [5, 6] (fun v tv wr => ∃ (L : List Blb) (t : ByteArray), tv = .string t ∧ L.length + t.size ≤ 998 ∧ UnI s.data.toList L t.data.toList ∧ wr.ownsRow w.heap.size 82 4 v L.length (blC L) ∧ (∀ b ∈ L, BlB b) ∧ Below w.heap.size w wr) (fun _ tv _ => match tv with | .string b => b.size | _ => 0)
  case atStart => exact ⟨[], r0, rfl, by rw [List.length_nil, Nat.zero_add]; exact hr0z.out, by rw [hr0l.out]; exact un_start, (by exact World.ownsRow_nil _ _ _ _), (fun b hb => by simp at hb), Below.refl _ _⟩
  case round =>
    obtain ⟨L, t, rfl, hLt, hun, hown, hLb, hbl⟩ := hrel
    have HU := Hid.mk' hun
    have HO := Hid.mk' hown
    have HLb := Hid.mk' hLb
    have HB := Hid.mk' hbl
    have hzr := hbl.size
    have hlt : Hid (t.data.toList.length = t.size) := by show _ = _; rw [Array.length_toList]; rfl
    have htz : t.size ≤ 998 := by omega
    have hLz : L.length ≤ 998 := by omega
    clear hun hown hLb hbl
    by_cases he : t.data.toList = []
    · have te : t.toList.isEmpty = true := by rw [text_empty]; exact decide_eq_true he
      have hend := un_end (by rw [← he]; exact HU.out) hhead.out
      obtain ⟨ao, cap, rfl, hbls⟩ := bls_own HO.out (by omega) HLb.out
      have HLo := Hid.mk' (low_own HO.out)
      have HBls := Hid.mk' hbls
      have HE := Hid.mk' hend
      have hzl := z.toNat_lt
      have tz : ((z.toNat : Int) == 1) = (z == 1) := by
        by_cases h : z = 1
        · subst h; rfl
        · have h1 : (z == 1) = false := by rw [beq_eq_false_iff_ne]; exact h
          rw [h1, beq_eq_false_iff_ne]
          intro h2
          exact h (UInt8.toNat_inj.1 (by show z.toNat = 1; omega))
      obtain ⟨v, hv⟩ : ∃ v, Hid (wrB L = v) := ⟨_, Hid.mk' rfl⟩
      obtain ⟨W, hW⟩ : ∃ v, Hid (wrT L (z == 1) = v) := ⟨_, Hid.mk' rfl⟩
      obtain ⟨lb, hlb⟩ : ∃ v, Hid ((z == 1) = v) := ⟨_, Hid.mk' rfl⟩
      rw [hlb.out] at HE hW tz
      have c1 : Hid (∀ w, Bls w ao L.length cap L → Calls Tryd.prog 73 #[.slice ao L.length cap, .bool lb] w fun e w' => e = .returned (.tuple #[.string W, .int .i64 v]) ∧ Below w.heap.size w w') := fun w hb => (rblobs_any ao L.length cap L lb w hb).mono fun e w' ⟨he, hb⟩ => ⟨by rw [wr_ans he, hW.out, hv.out], hb⟩
      have hokk : Hid ((v = 0 ∧ W = s) ↔ (wrB L = 0 ∧ txB L lb = s.data.toList)) := by
        show _ ↔ _
        rw [hv.out]
        constructor
        · rintro ⟨h1, h2⟩
          refine ⟨h1, ?_⟩
          rw [← h2, ← hW.out]
          unfold wrT
          rw [hv.out, if_pos h1]
        · rintro ⟨h1, h2⟩
          refine ⟨h1, ?_⟩
          rw [← hW.out]
          unfold wrT
          rw [hv.out, if_pos h1]
          exact bytes_ext h2
      clear hend hbls hv hW hlb he
      go_wp2_with fail
      refine (c1.out _ HBls.out).mono ?_
      rintro e w5 ⟨rfl, hb5⟩
      have HB5 := Hid.mk' (HB.out.trans (hb5.mono HB.out.size))
      have HBl5 := Hid.mk' (HBls.out.below hb5)
      clear hb5
      by_cases hv0 : v = 0
      · subst hv0
        by_cases hWs : W = s
        · subst hWs
          rcases HE.out with ⟨h1, h2, h3⟩ | ⟨h1, h2⟩
          · have H3 := Hid.mk' h3
            clear h1 h2 h3
            go_wp2_with fail
            go_quiet (fail)
            go_wp2_with fail
            go_ret3
            exact ⟨.inl ⟨L, lb, ao, cap, H3.out, rfl, HBl5.out.below (below_dB _ _), HLo.out⟩, HB5.out.trans (below_dB _ _)⟩
          · exact absurd (hokk.out.1 ⟨rfl, rfl⟩) h2
        · have hq : Hid (readB s.data.toList = none) := by
            rcases HE.out with ⟨h1, h2, h3⟩ | ⟨h1, h2⟩
            · exact absurd (hokk.out.2 ⟨h1, h2⟩).2 hWs
            · exact h1
          have tW : (W.toList == s.toList) = false := by
            rw [beq_eq_false_iff_ne, ByteArray.toList_eq, ByteArray.toList_eq]
            exact fun h => hWs (bytes_ext h)
          clear hWs
          go_wp2_with fail
          go_ret3
          exact hno.out _ hq.out HB5.out
      · have hq : Hid (readB s.data.toList = none) := by
          rcases HE.out with ⟨h1, h2, h3⟩ | ⟨h1, h2⟩
          · exact absurd (hokk.out.2 ⟨h1, h2⟩).1 hv0
          · exact h1
        have tv : (v != 0) = true := by rw [bne_iff_ne]; exact hv0
        clear hv0
        go_wp2_with fail
        go_ret3
        exact hno.out _ hq.out HB5.out
    · have te : t.toList.isEmpty = false := by rw [text_empty]; exact decide_eq_false he
      by_cases h4 : t.size < 4
      · have hq : Hid (readB s.data.toList = none) := un_short HU.out he (by rw [hlt.out]; exact h4)
        clear he
        go_wp2_with fail
        go_ret3
        exact hno.out _ hq.out HB.out
      have k0 : 0 < t.size := by omega
      have k1 : 1 < t.size := by omega
      have k2 : 2 < t.size := by omega
      obtain ⟨x0, hx0⟩ : ∃ z, Hid (t[0]'k0 = z) := ⟨_, Hid.mk' rfl⟩
      obtain ⟨x1, hx1⟩ : ∃ z, Hid (t[1]'k1 = z) := ⟨_, Hid.mk' rfl⟩
      obtain ⟨x2, hx2⟩ : ∃ z, Hid (t[2]'k2 = z) := ⟨_, Hid.mk' rfl⟩
      have hx0' := hx0.out
      have hx1' := hx1.out
      have hx2' := hx2.out
      obtain ⟨r, hr⟩ : ∃ r, Hid (t.extract 3 t.size = r) := ⟨_, Hid.mk' rfl⟩
      have hr' := hr.out
      have hrl : Hid (r.data.toList = t.data.toList.drop 3) := by show _ = _; rw [← hr.out, ext_listB]
      have hrz : Hid (r.size + 3 = t.size) := by show _ = _; rw [← hr.out, ext_sizeB]; omega
      have hrz2 : r.size ≤ 995 := by have := hrz.out; omega
      have hll : Hid (r.data.toList.length = r.size) := by show _ = _; simp
      have htl : Hid (t.data.toList = x0 :: x1 :: x2 :: r.data.toList) := by
        have hl := hlt.out
        show _ = _
        rw [hrl.out, ← hx0.out, ← hx1.out, ← hx2.out]
        have e0 := List.drop_eq_getElem_cons (l := t.data.toList) (i := 0) (by omega)
        have e1 := List.drop_eq_getElem_cons (l := t.data.toList) (i := 1) (by omega)
        have e2 := List.drop_eq_getElem_cons (l := t.data.toList) (i := 2) (by omega)
        rw [List.drop_zero] at e0
        rw [e2] at e1
        rw [e1] at e0
        exact e0
      have HU2 := HU.out
      rw [htl.out] at HU2
      have hbad := Hid.mk' (@un_bad _ _ _ _ _ _ HU2)
      have hnext := Hid.mk' (un_next HU2)
      clear HU2
      have hget := Hid.mk' (fun w => rget_any r w)
      have hpg := Hid.mk' (put_get r.data.toList)
      obtain ⟨E, hE⟩ : ∃ E, Hid (getE r.data.toList = E) := ⟨_, Hid.mk' rfl⟩
      obtain ⟨A, hA⟩ : ∃ E, Hid (getA r.data.toList = E) := ⟨_, Hid.mk' rfl⟩
      obtain ⟨K, hK⟩ : ∃ E, Hid (getK r.data.toList = E) := ⟨_, Hid.mk' rfl⟩
      rw [hE.out, hA.out, hK.out] at hget hpg
      rw [hE.out, hA.out, hK.out, hll.out] at hbad
      rw [hll.out] at hpg
      have m4 : (4 : Int) ≤ (t.size : Int) := by omega
      have m3 : (3 : Int) ≤ (t.size : Int) := by omega
      have m0 : (0 : Int) < (t.size : Int) := by omega
      have m1 : (1 : Int) < (t.size : Int) := by omega
      have m2 : (2 : Int) < (t.size : Int) := by omega
      have nm4 : ¬ (t.size : Int) < 4 := by omega
      clear he h4
      by_cases hE0 : E = 0
      · subst hE0
        obtain ⟨hk1, hk2, hk3, _⟩ := hpg.out rfl
        clear hpg
        by_cases hA6 : 600 < A
        · have hq : Hid (readB s.data.toList = none) := hbad.out (fun h => by omega)
          have tA : decide ((600 : Int) < (A : Int)) = true := decide_eq_true (by omega)
          clear hA6
          go_wp2_with fail
          refine (hget.out _).mono ?_
          rintro e w1 ⟨rfl, rfl⟩
          go_wp2_with fail
          go_ret3
          exact hno.out _ hq.out HB.out
        · have tA : decide ((600 : Int) < (A : Int)) = false := decide_eq_false (by omega)
          have hA6' : A ≤ 600 := by omega
          obtain ⟨K3, hK3⟩ : ∃ k, Hid (3 + K = k) := ⟨_, Hid.mk' rfl⟩
          obtain ⟨D, hD⟩ : ∃ k, Hid (K3 + A = k) := ⟨_, Hid.mk' rfl⟩
          have eK3 : (3 : Int) + (K : Int) = (K3 : Int) := by have := hK3.out; omega
          have eD : (K3 : Int) + (A : Int) = (D : Int) := by have := hD.out; omega
          have bK3 : K3 ≤ 1000 := by have := hK3.out; omega
          have bD : D ≤ 2000 := by have := hD.out; omega
          have eA : IntKind.i64.wrap (A : Int) = (A : Int) := by rw [IntKind.wrap_i64]; omega
          have wK3 : IntKind.i64.wrap (K3 : Int) = (K3 : Int) := by rw [IntKind.wrap_i64]; omega
          have wD : IntKind.i64.wrap (D : Int) = (D : Int) := by rw [IntKind.wrap_i64]; omega
          by_cases hT : t.size < D
          · have hq : Hid (readB s.data.toList = none) := hbad.out (fun h => by have h1 := h.2.2; have h2 := hK3.out; have h3 := hD.out; have h4 := hrz.out; omega)
            clear hA6
            go_wp2_with fail
            refine (hget.out _).mono ?_
            rintro e w1 ⟨rfl, rfl⟩
            go_wp2_with fail
            go_ret3
            exact hno.out _ hq.out HB.out
          · have tT : decide ((t.size : Int) < (D : Int)) = false := decide_eq_false (by omega)
            have hDt : D ≤ t.size := by omega
            have hKD : K3 ≤ D := by have := hD.out; omega
            obtain ⟨q, hq⟩ : ∃ q, Hid (t.extract K3 D = q) := ⟨_, Hid.mk' rfl⟩
            have hq' := hq.out
            have hql : Hid (q.data.toList = (r.data.toList.drop K).take A) := by
              show _ = _
              rw [← hq.out, ByteArray.data_extract]
              simp only [Array.toList_extract, List.extract_eq_take_drop]
              rw [show D - K3 = A by have := hD.out; omega, hrl.out, List.drop_drop, hK3.out]
            have hqz : q.size ≤ 600 := by
              have e : q.data.toList.length = q.size := by rw [Array.length_toList]; rfl
              rw [← e, hql.out]; have := List.length_take_le A (r.data.toList.drop K); omega
            obtain ⟨t', ht'⟩ : ∃ q, Hid (t.extract D t.size = q) := ⟨_, Hid.mk' rfl⟩
            have ht'' := ht'.out
            have ht'l : Hid (t'.data.toList = r.data.toList.drop (K + A)) := by
              show _ = _
              rw [← ht'.out, ext_listB, hrl.out, List.drop_drop, ← hD.out, ← hK3.out, Nat.add_assoc]
            have ht'z : Hid (t'.size = t.size - D) := by show _ = _; rw [← ht'.out, ext_sizeB]
            have hraw : Hid (rawB x0 x1 x2 r.data.toList = ⟨(x0.toNat : Int), (x1.toNat : Int), (x2.toNat : Int), q⟩) := by
              show _ = _
              unfold rawB
              rw [hA.out, hK.out, ← hql.out]
            have HN : Hid (UnI s.data.toList (L ++ [⟨(x0.toNat : Int), (x1.toNat : Int), (x2.toNat : Int), q⟩]) t'.data.toList) := by
              show UnI _ _ _
              rw [ht'l.out, ← hraw.out]
              have h := hnext.out
              rw [hK.out, hA.out] at h
              exact h
            have HLb2 : Hid (∀ b ∈ L ++ [⟨(x0.toNat : Int), (x1.toNat : Int), (x2.toNat : Int), q⟩], BlB b) := fun b hb => by
              rcases List.mem_append.1 hb with h | h
              · exact HLb.out b h
              · rw [List.mem_singleton.1 h]; exact blB_raw (by omega)
            have hLen : Hid ((L ++ [(⟨(x0.toNat : Int), (x1.toNat : Int), (x2.toNat : Int), q⟩ : Blb)]).length + t'.size ≤ 998) := by
              show _ ≤ _
              rw [List.length_append, List.length_singleton, ht'z.out]
              have h1 := hD.out
              have h2 := hK3.out
              omega
            have hmeas : Hid (t'.size < t.size) := by
              show _ < _
              rw [ht'z.out]
              have h1 := hD.out
              have h2 := hK3.out
              omega
            have hb0 := x0.toNat_lt
            have hb1 := x1.toNat_lt
            have hb2 := x2.toNat_lt
            have ex0 : IntKind.i64.wrap (x0.toNat : Int) = x0.toNat := by rw [IntKind.wrap_i64]; omega
            have ex1 : IntKind.i64.wrap (x1.toNat : Int) = x1.toNat := by rw [IntKind.wrap_i64]; omega
            have ex2 : IntKind.i64.wrap (x2.toNat : Int) = x2.toNat := by rw [IntKind.wrap_i64]; omega
            have lK3 : (K3 : Int) ≤ (D : Int) := by omega
            have lD : (D : Int) ≤ (t.size : Int) := by omega
            clear hT hA6 hbad hnext
            go_wp2_with fail
            refine (hget.out _).mono ?_
            rintro e w1 ⟨rfl, rfl⟩
            go_wp2_with fail
            refine wp_region_held_drew (S := fun _ => True) (by kernel_rfl) trivial (fun hHeld => ?_)
            refine wpAnyH_take (i := 0) (oi := _) (v := u5) rfl (by kernel_rfl) (by kernel_rfl) (by kernel_rfl) (fun _ _ _ h => h) (Or.inl ⟨by rfl, ?_⟩) (by assumption) ?_
            · intro w9 _
              simp only [List.getElem_toArray, List.getElem_cons_zero]
              go_simp
            simp only [Act.put, List.getElem_toArray, List.getElem_cons_zero, List.setIfInBounds_toArray, List.set_cons_zero, List.set_cons_succ]
            refine wpAnyH_take (i := 1) (oi := _) (v := .string t) rfl (by kernel_rfl) (by kernel_rfl) (by kernel_rfl) (fun _ _ _ h => h) (Or.inl ⟨by rfl, ?_⟩) (by assumption) ?_
            · intro w9 _
              simp only [List.getElem_toArray, List.getElem_cons_succ, List.getElem_cons_zero]
              go_simp
            simp only [Act.put, List.getElem_toArray, List.getElem_cons_succ, List.getElem_cons_zero, List.setIfInBounds_toArray, List.set_cons_zero, List.set_cons_succ]
            refine wpAnyH_take (i := 2) (oi := _) (v := .int .u8 (x0.toNat : Int)) rfl (by kernel_rfl) (by kernel_rfl) (by kernel_rfl) (fun _ _ _ h => h) (Or.inl ⟨by rfl, ?_⟩) (by assumption) ?_
            · intro w9 _
              simp only [List.getElem_toArray, List.getElem_cons_succ, List.getElem_cons_zero]
              go_simp
            simp only [Act.put, List.getElem_toArray, List.getElem_cons_succ, List.getElem_cons_zero, List.setIfInBounds_toArray, List.set_cons_zero, List.set_cons_succ]
            refine wpAnyH_take (i := 3) (oi := _) (v := .int .i64 (x0.toNat : Int)) rfl (by kernel_rfl) (by kernel_rfl) (by kernel_rfl) (fun _ _ _ h => h) (Or.inl ⟨by rfl, ?_⟩) (by assumption) ?_
            · intro w9 _
              simp only [List.getElem_toArray, List.getElem_cons_succ, List.getElem_cons_zero]
              go_simp
            simp only [Act.put, List.getElem_toArray, List.getElem_cons_succ, List.getElem_cons_zero, List.setIfInBounds_toArray, List.set_cons_zero, List.set_cons_succ]
            refine wpAnyH_take (i := 4) (oi := _) (v := .string t) rfl (by kernel_rfl) (by kernel_rfl) (by kernel_rfl) (fun _ _ _ h => h) (Or.inl ⟨by rfl, ?_⟩) (by assumption) ?_
            · intro w9 _
              simp only [List.getElem_toArray, List.getElem_cons_succ, List.getElem_cons_zero]
              go_simp
            simp only [Act.put, List.getElem_toArray, List.getElem_cons_succ, List.getElem_cons_zero, List.setIfInBounds_toArray, List.set_cons_zero, List.set_cons_succ]
            refine wpAnyH_take (i := 5) (oi := _) (v := .int .u8 (x1.toNat : Int)) rfl (by kernel_rfl) (by kernel_rfl) (by kernel_rfl) (fun _ _ _ h => h) (Or.inl ⟨by rfl, ?_⟩) (by assumption) ?_
            · intro w9 _
              simp only [List.getElem_toArray, List.getElem_cons_succ, List.getElem_cons_zero]
              go_simp
            simp only [Act.put, List.getElem_toArray, List.getElem_cons_succ, List.getElem_cons_zero, List.setIfInBounds_toArray, List.set_cons_zero, List.set_cons_succ]
            refine wpAnyH_take (i := 6) (oi := _) (v := .int .i64 (x1.toNat : Int)) rfl (by kernel_rfl) (by kernel_rfl) (by kernel_rfl) (fun _ _ _ h => h) (Or.inl ⟨by rfl, ?_⟩) (by assumption) ?_
            · intro w9 _
              simp only [List.getElem_toArray, List.getElem_cons_succ, List.getElem_cons_zero]
              go_simp
            simp only [Act.put, List.getElem_toArray, List.getElem_cons_succ, List.getElem_cons_zero, List.setIfInBounds_toArray, List.set_cons_zero, List.set_cons_succ]
            refine wpAnyH_take (i := 7) (oi := _) (v := .string t) rfl (by kernel_rfl) (by kernel_rfl) (by kernel_rfl) (fun _ _ _ h => h) (Or.inl ⟨by rfl, ?_⟩) (by assumption) ?_
            · intro w9 _
              simp only [List.getElem_toArray, List.getElem_cons_succ, List.getElem_cons_zero]
              go_simp
            simp only [Act.put, List.getElem_toArray, List.getElem_cons_succ, List.getElem_cons_zero, List.setIfInBounds_toArray, List.set_cons_zero, List.set_cons_succ]
            refine wpAnyH_take (i := 8) (oi := _) (v := .int .u8 (x2.toNat : Int)) rfl (by kernel_rfl) (by kernel_rfl) (by kernel_rfl) (fun _ _ _ h => h) (Or.inl ⟨by rfl, ?_⟩) (by assumption) ?_
            · intro w9 _
              simp only [List.getElem_toArray, List.getElem_cons_succ, List.getElem_cons_zero]
              go_simp
            simp only [Act.put, List.getElem_toArray, List.getElem_cons_succ, List.getElem_cons_zero, List.setIfInBounds_toArray, List.set_cons_zero, List.set_cons_succ]
            refine wpAnyH_take (i := 9) (oi := _) (v := .int .i64 (x2.toNat : Int)) rfl (by kernel_rfl) (by kernel_rfl) (by kernel_rfl) (fun _ _ _ h => h) (Or.inl ⟨by rfl, ?_⟩) (by assumption) ?_
            · intro w9 _
              simp only [List.getElem_toArray, List.getElem_cons_succ, List.getElem_cons_zero]
              go_simp
            simp only [Act.put, List.getElem_toArray, List.getElem_cons_succ, List.getElem_cons_zero, List.setIfInBounds_toArray, List.set_cons_zero, List.set_cons_succ]
            refine wpAnyH_take (i := 10) (oi := _) (v := .string t) rfl (by kernel_rfl) (by kernel_rfl) (by kernel_rfl) (fun _ _ _ h => h) (Or.inl ⟨by rfl, ?_⟩) (by assumption) ?_
            · intro w9 _
              simp only [List.getElem_toArray, List.getElem_cons_succ, List.getElem_cons_zero]
              go_simp
            simp only [Act.put, List.getElem_toArray, List.getElem_cons_succ, List.getElem_cons_zero, List.setIfInBounds_toArray, List.set_cons_zero, List.set_cons_succ]
            refine wpAnyH_take (i := 11) (oi := _) (v := .int .i64 (K : Int)) rfl (by kernel_rfl) (by kernel_rfl) (by kernel_rfl) (fun _ _ _ h => h) (Or.inl ⟨by rfl, ?_⟩) (by assumption) ?_
            · intro w9 _
              simp only [List.getElem_toArray, List.getElem_cons_succ, List.getElem_cons_zero]
              go_simp
            simp only [Act.put, List.getElem_toArray, List.getElem_cons_succ, List.getElem_cons_zero, List.setIfInBounds_toArray, List.set_cons_zero, List.set_cons_succ]
            refine wpAnyH_take (i := 12) (oi := _) (v := .int .i64 (K3 : Int)) rfl (by kernel_rfl) (by kernel_rfl) (by kernel_rfl) (fun _ _ _ h => h) (Or.inl ⟨by rfl, ?_⟩) (by assumption) ?_
            · intro w9 _
              simp only [List.getElem_toArray, List.getElem_cons_succ, List.getElem_cons_zero]
              go_simp
            simp only [Act.put, List.getElem_toArray, List.getElem_cons_succ, List.getElem_cons_zero, List.setIfInBounds_toArray, List.set_cons_zero, List.set_cons_succ]
            refine wpAnyH_take (i := 13) (oi := _) (v := .int .i64 (K : Int)) rfl (by kernel_rfl) (by kernel_rfl) (by kernel_rfl) (fun _ _ _ h => h) (Or.inl ⟨by rfl, ?_⟩) (by assumption) ?_
            · intro w9 _
              simp only [List.getElem_toArray, List.getElem_cons_succ, List.getElem_cons_zero]
              go_simp
            simp only [Act.put, List.getElem_toArray, List.getElem_cons_succ, List.getElem_cons_zero, List.setIfInBounds_toArray, List.set_cons_zero, List.set_cons_succ]
            refine wpAnyH_take (i := 14) (oi := _) (v := .int .i64 (K3 : Int)) rfl (by kernel_rfl) (by kernel_rfl) (by kernel_rfl) (fun _ _ _ h => h) (Or.inl ⟨by rfl, ?_⟩) (by assumption) ?_
            · intro w9 _
              simp only [List.getElem_toArray, List.getElem_cons_succ, List.getElem_cons_zero]
              go_simp
            simp only [Act.put, List.getElem_toArray, List.getElem_cons_succ, List.getElem_cons_zero, List.setIfInBounds_toArray, List.set_cons_zero, List.set_cons_succ]
            refine wpAnyH_take (i := 15) (oi := _) (v := .int .u64 (A : Int)) rfl (by kernel_rfl) (by kernel_rfl) (by kernel_rfl) (fun _ _ _ h => h) (Or.inl ⟨by rfl, ?_⟩) (by assumption) ?_
            · intro w9 _
              simp only [List.getElem_toArray, List.getElem_cons_succ, List.getElem_cons_zero]
              go_simp
            simp only [Act.put, List.getElem_toArray, List.getElem_cons_succ, List.getElem_cons_zero, List.setIfInBounds_toArray, List.set_cons_zero, List.set_cons_succ]
            refine wpAnyH_take (i := 16) (oi := _) (v := .int .i64 (A : Int)) rfl (by kernel_rfl) (by kernel_rfl) (by kernel_rfl) (fun _ _ _ h => h) (Or.inl ⟨by rfl, ?_⟩) (by assumption) ?_
            · intro w9 _
              simp only [List.getElem_toArray, List.getElem_cons_succ, List.getElem_cons_zero]
              go_simp
            simp only [Act.put, List.getElem_toArray, List.getElem_cons_succ, List.getElem_cons_zero, List.setIfInBounds_toArray, List.set_cons_zero, List.set_cons_succ]
            refine wpAnyH_take (i := 17) (oi := _) (v := .int .i64 (D : Int)) rfl (by kernel_rfl) (by kernel_rfl) (by kernel_rfl) (fun _ _ _ h => h) (Or.inl ⟨by rfl, ?_⟩) (by assumption) ?_
            · intro w9 _
              simp only [List.getElem_toArray, List.getElem_cons_succ, List.getElem_cons_zero]
              go_simp
            simp only [Act.put, List.getElem_toArray, List.getElem_cons_succ, List.getElem_cons_zero, List.setIfInBounds_toArray, List.set_cons_zero, List.set_cons_succ]
            refine wpAnyH_take (i := 18) (oi := _) (v := .string q) rfl (by kernel_rfl) (by kernel_rfl) (by kernel_rfl) (fun _ _ _ h => h) (Or.inl ⟨by rfl, ?_⟩) (by assumption) ?_
            · intro w9 _
              simp only [List.getElem_toArray, List.getElem_cons_succ, List.getElem_cons_zero]
              go_simp
            simp only [Act.put, List.getElem_toArray, List.getElem_cons_succ, List.getElem_cons_zero, List.setIfInBounds_toArray, List.set_cons_zero, List.set_cons_succ]
            refine wpAnyH_take (i := 19) (oi := _) (v := .agg #[.int .i64 (x0.toNat : Int), .int .i64 (x1.toNat : Int), .int .i64 (x2.toNat : Int), .string q]) rfl (by kernel_rfl) (by kernel_rfl) (by kernel_rfl) (fun _ _ _ h => h) (Or.inl ⟨by rfl, ?_⟩) (by assumption) ?_
            · intro w9 _
              simp only [List.getElem_toArray, List.getElem_cons_succ, List.getElem_cons_zero]
              go_simp
            simp only [Act.put, List.getElem_toArray, List.getElem_cons_succ, List.getElem_cons_zero, List.setIfInBounds_toArray, List.set_cons_zero, List.set_cons_succ]
            refine wpAnyH_ready (rs := [20]) (by kernel_rfl) (by simp) ?_
            refine AllReadyH.cons (o := _) rfl (fun KA hKA => ?_) AllReadyH.nil
            simp only [List.getElem_toArray, List.getElem_cons_succ, List.getElem_cons_zero]
            go_simp
            refine hKA.out _ _ trivial (fun hHeld2 => ?_)
            clear hKA KA
            refine wpAnyH_ready (rs := [21]) (by kernel_rfl) (by simp) ?_
            refine AllReadyH.cons (o := _) rfl (fun KB hKB => ?_) AllReadyH.nil
            have HOa := HO.out.alloc (.cells #[.int .i64 (x0.toNat : Int), .int .i64 (x1.toNat : Int), .int .i64 (x2.toNat : Int), .string q] 82)
            have HBa := HB.out.alloc HB.out.size (.cells #[.int .i64 (x0.toNat : Int), .int .i64 (x1.toNat : Int), .int .i64 (x2.toNat : Int), .string q] 82)
            have HC : ∀ j u, (bl4 ⟨(x0.toNat : Int), (x1.toNat : Int), (x2.toNat : Int), q⟩)[j]? = some u → (w1.alloc (.cells #[.int .i64 (x0.toNat : Int), .int .i64 (x1.toNat : Int), .int .i64 (x2.toNat : Int), .string q] 82)).cell? ((⟨w1.heap.size, 0, none⟩ : Addr).add j) = some u := cells_bl4 w1 ⟨(x0.toNat : Int), (x1.toNat : Int), (x2.toNat : Int), q⟩ 82
            refine step_append_at rfl (.tmp 50) (.tmp 70) 46 rfl w.heap.size 82 i0' (.agg #[.int .i64 0, .int .i64 0, .int .i64 0, .string ⟨#[]⟩]) 4 40 Tryd.underlying46 KI.out KZ0.out KZ1.out KZ2.out rfl (by decide) u5 L.length (blC L) rfl (by exact HOa) ⟨w1.heap.size, 0, none⟩ 1 1 (bl4 ⟨(x0.toNat : Int), (x1.toNat : Int), (x2.toNat : Int), q⟩) rfl rfl (by exact HC) (bl4_one _) (by unfold maxLen; omega) (by omega) (by exact HBa.size) ?_
            intro v' w' hown' hgrow' _
            have HB9 : Hid (Below w.heap.size w w') := HBa.drew.grown hgrow' HBa.size fun j hj => (HOa.lt j hj).1
            have HO9 : Hid (w'.ownsRow w.heap.size 82 4 v' (L ++ [(⟨(x0.toNat : Int), (x1.toNat : Int), (x2.toNat : Int), q⟩ : Blb)]).length (blC (L ++ [⟨(x0.toNat : Int), (x1.toNat : Int), (x2.toNat : Int), q⟩]))) := by
              show World.ownsRow _ _ _ _ _ _ _
              rw [blC_snoc, List.length_append]; exact hown'
            clear hown' hgrow' HOa HBa HC
            refine hKB.out _ _ trivial (fun hHeld3 => ?_)
            clear hKB KB
            simp only [Act.put, List.getElem_toArray, List.getElem_cons_succ, List.getElem_cons_zero, List.setIfInBounds_toArray, List.set_cons_zero, List.set_cons_succ]
            refine wpAnyH_take (i := 22) (oi := _) (v := v') rfl (by kernel_rfl) (by kernel_rfl) (by kernel_rfl) (fun _ _ _ h => h) (Or.inl ⟨by rfl, ?_⟩) (by assumption) ?_
            · intro w9 _
              simp only [List.getElem_toArray, List.getElem_cons_succ, List.getElem_cons_zero]
              go_simp
            simp only [Act.put, List.getElem_toArray, List.getElem_cons_succ, List.getElem_cons_zero, List.setIfInBounds_toArray, List.set_cons_zero, List.set_cons_succ]
            refine wpAnyH_done (by kernel_rfl) ?_ _
            go_wp2_with fail
            go_roundw
            case rel => exact ⟨_, t', rfl, hLen.out, HN.out, HO9.out, HLb2.out, HB9.out⟩
            case measure => exact hmeas.out
      · have hq : Hid (readB s.data.toList = none) := hbad.out (fun h => hE0 h.1)
        have tE : (E != 0) = true := by rw [bne_iff_ne]; exact hE0
        clear hE0
        go_wp2_with fail
        refine (hget.out _).mono ?_
        rintro e w1 ⟨rfl, rfl⟩
        go_wp2_with fail
        go_ret3
        exact hno.out _ hq.out HB.out
theorem unblob_any (s : ByteArray) (w : World) (hs : s.size ≤ 281474976710656) :
    Calls Tryd.prog 65 #[.string s] w fun e w' => RdbAns w' s.data.toList e ∧ Below w.heap.size w w' :=
  (unblob_low s w hs).mono fun _ _ h => ⟨h.1.ans, h.2⟩
end Go.Proofs.YtbakgobgjfhhhaaDoor
