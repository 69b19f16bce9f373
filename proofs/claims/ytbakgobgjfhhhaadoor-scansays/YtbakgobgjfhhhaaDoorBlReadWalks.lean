import Derived.Test.YtbakgobgjfhhhaaDoorBlRd1Walks
import Derived.Test.YtbakgobgjfhhhaaDoorPsad
import Derived.Laws.OwnMore

/- What blob.Read answers. -/
namespace Go.Proofs.YtbakgobgjfhhhaaDoor
open Go.RowKit

theorem infoBl : (Tryd.prog.info? 82).map (fun i => (i.zero, i.size, i.bytes)) = some (some (.agg #[.int .i64 0, .int .i64 0, .int .i64 0, .string ⟨#[]⟩]), 4, 40) := by kernel_rfl
theorem make_bls (n : Nat) (hn : n ≤ 40) (w : World) : (Instr.makeSlice 46 (.int .u8 (n : Int)) (.int .u8 (n : Int))).run Tryd.prog w = .ok (.slice (some ⟨w.heap.size, 0, none⟩) n n) (w.alloc (.cells (madeCells #[.int .i64 0, .int .i64 0, .int .i64 0, .string ⟨#[]⟩] (n * 4)) 82)) := by
  obtain ⟨i, hi, hzz⟩ := Option.map_eq_some_iff.1 infoBl
  simp only [Prod.mk.injEq] at hzz
  obtain ⟨hz, hs, hb⟩ := hzz
  have hr := run_make (P := Tryd.prog) w 46 82 i _ Tryd.underlying46 hi hz .u8 .u8 n n (by omega) (Int.le_refl _) (by rw [hb]; omega) (by omega)
  simp only [Int.toNat_natCast, hs] at hr
  exact hr
theorem made_bls (n : Nat) : (madeCells #[.int .i64 0, .int .i64 0, .int .i64 0, .string ⟨#[]⟩] (n * 4)).toList = blC (List.replicate n noBl) := by
  apply List.ext_getElem?
  intro j
  by_cases hj : j < n * 4
  · obtain ⟨i, r, hr, rfl⟩ : ∃ i r, r < 4 ∧ j = i * 4 + r := ⟨j / 4, j % 4, by omega, by omega⟩
    have hl : i < (List.replicate n noBl).length := by rw [List.length_replicate]; omega
    have hg : (List.replicate n noBl).getD i noBl = noBl := by
      rw [List.getD_eq_getElem?_getD, List.getElem?_eq_getElem hl, List.getElem_replicate]; rfl
    have ha := blC_at (List.replicate n noBl) i hl
    rw [hg] at ha
    rcases (by omega : r = 0 ∨ r = 1 ∨ r = 2 ∨ r = 3) with rfl | rfl | rfl | rfl
    · rw [Nat.add_zero, ha.1]; simp [madeCells, show i * 4 < n * 4 by omega, noBl]
    · rw [ha.2.1]; simp [madeCells, show i * 4 + 1 < n * 4 by omega, noBl, show (i * 4 + 1) % 4 = 1 by omega]
    · rw [ha.2.2.1]; simp [madeCells, show i * 4 + 2 < n * 4 by omega, noBl, show (i * 4 + 2) % 4 = 2 by omega]
    · rw [ha.2.2.2]; simp [madeCells, show i * 4 + 3 < n * 4 by omega, noBl, show (i * 4 + 3) % 4 = 3 by omega]
  · rw [List.getElem?_eq_none (by simp [madeCells]; omega), List.getElem?_eq_none (by rw [blC_length, List.length_replicate]; omega)]
/-- one blob of a row, written -/
theorem blC_set (X : List Blb) (b : Blb) : ∀ k, k < X.length → ((((blC X).set (k * 4) (.int .i64 b.kd)).set (k * 4 + 1) (.int .i64 b.io)).set (k * 4 + 2) (.int .i64 b.nt)).set (k * 4 + 3) (.string b.tx) = blC (X.set k b) := by
  induction X with
  | nil => intro k h; simp at h
  | cons x r ih =>
    intro k h
    have e : ∀ (y : Blb) (t : List Blb), blC (y :: t) = .int .i64 y.kd :: .int .i64 y.io :: .int .i64 y.nt :: .string y.tx :: blC t := fun y t => by simp [blC, bl4]
    cases k with
    | zero =>
      show _ = blC (b :: r)
      rw [e x r, e b r]; rfl
    | succ k =>
      rw [e x r, List.set_cons_succ, e x (r.set k b), ← ih k (by simpa using h)]
      rw [show (k + 1) * 4 = k * 4 + 4 by omega]
      rfl
theorem BoxV.setBl {w : World} {g : Nat} {X : List Blb} (h : BoxV w g (blC X)) (k : Nat) (hk : k < X.length) (b : Blb) : BoxV ((((w.setCell ⟨g, k * 4, none⟩ (.int .i64 b.kd)).setCell ⟨g, k * 4 + 1, none⟩ (.int .i64 b.io)).setCell ⟨g, k * 4 + 2, none⟩ (.int .i64 b.nt)).setCell ⟨g, k * 4 + 3, none⟩ (.string b.tx)) g (blC (X.set k b)) := by
  have hl := blC_length X
  have h1 := h.set (k * 4) (.int .i64 b.kd) (by omega)
  have h2 := h1.set (k * 4 + 1) (.int .i64 b.io) (by rw [List.length_set]; omega)
  have h3 := h2.set (k * 4 + 2) (.int .i64 b.nt) (by rw [List.length_set, List.length_set]; omega)
  have h4 := h3.set (k * 4 + 3) (.string b.tx) (by rw [List.length_set, List.length_set, List.length_set]; omega)
  rw [blC_set X b k hk] at h4
  exact h4
theorem fill_one (L : List Blb) (m : Nat) (b : Blb) : (L ++ List.replicate (m + 1) noBl).set L.length b = (L ++ [b]) ++ List.replicate m noBl := by
  rw [List.set_append, if_neg (by omega), Nat.sub_self, List.replicate_succ, List.set_cons_zero]; simp
theorem BoxV.cells4 {w : World} {g : Nat} {X : List Blb} (h : BoxV w g (blC X)) (k : Nat) (hk : k < X.length) :
    (∃ v, w.cell? ⟨g, k * 4, none⟩ = some v) ∧ (∃ v, w.cell? ⟨g, k * 4 + 1, none⟩ = some v) ∧ (∃ v, w.cell? ⟨g, k * 4 + 2, none⟩ = some v) ∧ (∃ v, w.cell? ⟨g, k * 4 + 3, none⟩ = some v) ∧ w.frozen? ⟨g, k * 4, none⟩ = false ∧ w.frozen? ⟨g, k * 4 + 1, none⟩ = false ∧ w.frozen? ⟨g, k * 4 + 2, none⟩ = false ∧ w.frozen? ⟨g, k * 4 + 3, none⟩ = false := by
  have hl := blC_length X
  have ha := blC_at X k hk
  exact ⟨⟨_, h.c _ _ ha.1⟩, ⟨_, h.c _ _ ha.2.1⟩, ⟨_, h.c _ _ ha.2.2.1⟩, ⟨_, h.c _ _ ha.2.2.2⟩, h.f _ (by omega), h.f _ (by omega), h.f _ (by omega), h.f _ (by omega)⟩
/-- what Read answers -/
def RdbAns (w' : World) (s : List UInt8) (e : Ending) : Prop :=
  (∃ l last ao cap, readB s = some (l, last) ∧ e = .returned (.tuple #[.slice ao l.length cap, .bool last, .int .i64 0]) ∧ Bls w' ao l.length cap l) ∨ (readB s = none ∧ e = .returned (.tuple #[.slice none 0 0, .bool false, .int .i64 4]))
/-- and the list is new -/
def RdbLow (N : Nat) (w' : World) (s : List UInt8) (e : Ending) : Prop :=
  (∃ l last ao cap, readB s = some (l, last) ∧ e = .returned (.tuple #[.slice ao l.length cap, .bool last, .int .i64 0]) ∧ Bls w' ao l.length cap l ∧ LowA N ao) ∨ (readB s = none ∧ e = .returned (.tuple #[.slice none 0 0, .bool false, .int .i64 4]))
theorem RdbLow.ans {N : Nat} {w' : World} {s : List UInt8} {e : Ending} (h : RdbLow N w' s e) : RdbAns w' s e := by
  rcases h with ⟨l, b, ao, cap, h1, h2, h3, _⟩ | h
  · exact .inl ⟨l, b, ao, cap, h1, h2, h3⟩
  · exact .inr h
theorem readB_def {s : ByteArray} (h : 2 ≤ s.size) : readB s.data.toList = if (s.size ≤ 1000 ∧ (s[0]'(by omega)).toNat ≤ 1 ∧ (s[1]'(by omega)).toNat ≤ 40) then (rdN (s[1]'(by omega)).toNat (s.data.toList.drop 2)).map (fun l => (l, (s[0]'(by omega)) == 1)) else none := by
  have hl : s.data.toList.length = s.size := by rw [Array.length_toList]; rfl
  have e0 := List.drop_eq_getElem_cons (l := s.data.toList) (i := 0) (by omega)
  have e1 := List.drop_eq_getElem_cons (l := s.data.toList) (i := 1) (by omega)
  rw [List.drop_zero, e1] at e0
  have e2 : s.data.toList = (s[0]'(by omega)) :: (s[1]'(by omega)) :: s.data.toList.drop 2 := e0
  conv => lhs; rw [e2]
  unfold readB
  simp only
  rw [← e2, hl]
theorem below_setk {B g : Nat} {w0 w : World} (h : Below B w0 w) (hg : B ≤ g) (j0 j1 j2 j3 : Nat) (x y z u : Value) : Below B w0 ((((w.setCell ⟨g, j0, none⟩ x).setCell ⟨g, j1, none⟩ y).setCell ⟨g, j2, none⟩ z).setCell ⟨g, j3, none⟩ u) := (((h.setCell hg _).setCell hg _).setCell hg _).setCell hg _
theorem blB_ok {b : Blb} (h : chkB b = 0) : BlB b := by
  have := chkB_ok h
  exact ⟨⟨by have := this.k1; omega, by have := this.k3; omega⟩, ⟨by have := this.i0; omega, by have := this.i1; omega⟩, ⟨by have := this.n0; omega, by have := this.n1; omega⟩, by have := this.tz; omega⟩
theorem bls_box {w : World} {g n : Nat} {l : List Blb} (h : BoxV w g (blC l)) (hn : l.length = n) (h40 : n ≤ 40) (hb : ∀ b ∈ l, BlB b) : Bls w (some ⟨g, 0, none⟩) n n l :=
  ⟨hn, by omega, ⟨by rw [blC_length, hn], fun _ => ⟨g, 0, rfl, h.lt, fun j u hj => by rw [Nat.zero_add]; exact h.c j u hj⟩⟩, hb, Nat.le_refl _, by unfold maxLen; omega, fun e => by cases e⟩
theorem text_empty (a : ByteArray) : a.toList.isEmpty = decide (a.data.toList = []) := by
  rw [ByteArray.toList_eq]
  cases a.data.toList <;> rfl
set_option maxRecDepth 20000 in
set_option maxHeartbeats 3200000 in
theorem bread_low (s : ByteArray) (w : World) (_hs : s.size ≤ 281474976710656) :
    Calls Tryd.prog 72 #[.string s] w fun e w' => RdbLow w.heap.size w' s.data.toList e ∧ Below w.heap.size w w' := by
  have hno : ∀ wx, readB s.data.toList = none → Below w.heap.size w wx → (RdbLow w.heap.size wx s.data.toList (.returned (.tuple #[.slice none 0 0, .bool false, .int .i64 4])) ∧ Below w.heap.size w wx) := fun wx h hb => ⟨.inr ⟨h, rfl⟩, hb⟩
  have hno := Hid.mk' hno
  have hl : Hid (s.data.toList.length = s.size) := by show _ = _; rw [Array.length_toList]; rfl
  by_cases h2 : s.size < 2
  · have hq : Hid (readB s.data.toList = none) := by
      have hl := hl.out
      show _ = _
      match h : s.data.toList with
      | [] => rfl
      | [_] => rfl
      | _ :: _ :: _ => rw [h] at hl; simp at hl; omega
    go_enter Tryd.func72, Tryd.ntmps72
    go_wp2_with fail
    go_ret3
    exact hno.out _ hq.out (Below.refl _ _)
  have h2' : 2 ≤ s.size := by omega
  have h0n : 0 < s.size := by omega
  have h1n : 1 < s.size := by omega
  have hd : Hid (readB s.data.toList = if (s.size ≤ 1000 ∧ (s[0]'h0n).toNat ≤ 1 ∧ (s[1]'h1n).toNat ≤ 40) then (rdN (s[1]'h1n).toNat (s.data.toList.drop 2)).map (fun l => (l, (s[0]'h0n) == 1)) else none) := readB_def h2'
  have i0 : (0 : Int) < (s.size : Int) := by omega
  have i1 : (1 : Int) < (s.size : Int) := by omega
  have i2 : (2 : Int) ≤ (s.size : Int) := by omega
  have n2 : ¬ (s.size : Int) < 2 := by omega
  by_cases h3 : 1000 < s.size
  · have hq : Hid (readB s.data.toList = none) := by show _ = _; rw [hd.out, if_neg (by omega)]
    clear h2 h2'
    go_enter Tryd.func72, Tryd.ntmps72
    go_wp2_with fail
    go_ret3
    exact hno.out _ hq.out (Below.refl _ _)
  have h3' : s.size ≤ 1000 := by omega
  obtain ⟨z, hz⟩ : ∃ z, Hid (s[0]'h0n = z) := ⟨_, Hid.mk' rfl⟩
  obtain ⟨y, hy⟩ : ∃ z, Hid (s[1]'h1n = z) := ⟨_, Hid.mk' rfl⟩
  have hz' := hz.out
  have hy' := hy.out
  rw [hz', hy'] at hd
  by_cases h4 : 1 < z.toNat
  · have hq : Hid (readB s.data.toList = none) := by show _ = _; rw [hd.out, if_neg (by omega)]
    have t4 : decide ((1 : Int) < (z.toNat : Int)) = true := decide_eq_true (by omega)
    clear h2 h2' h3 h4
    go_enter Tryd.func72, Tryd.ntmps72
    go_wp2_with fail
    go_ret3
    exact hno.out _ hq.out (Below.refl _ _)
  have t4 : decide ((1 : Int) < (z.toNat : Int)) = false := decide_eq_false (by omega)
  by_cases h5 : 40 < y.toNat
  · have hq : Hid (readB s.data.toList = none) := by show _ = _; rw [hd.out, if_neg (by omega)]
    have t5 : decide ((40 : Int) < (y.toNat : Int)) = true := decide_eq_true (by omega)
    clear h2 h2' h3 h4 h5
    go_enter Tryd.func72, Tryd.ntmps72
    go_wp2_with fail
    go_ret3
    exact hno.out _ hq.out (Below.refl _ _)
  have t5 : decide ((40 : Int) < (y.toNat : Int)) = false := decide_eq_false (by omega)
  obtain ⟨n, hn⟩ : ∃ n, Hid (y.toNat = n) := ⟨_, Hid.mk' rfl⟩
  have hzl : Hid (z.toNat ≤ 1) := by show _ ≤ _; omega
  rw [if_pos ⟨h3', hzl.out, by omega⟩, hn.out] at hd
  have hn40 : n ≤ 40 := by have := hn.out; omega
  have hyn := hn.out
  rw [hyn] at t5
  have hmk := make_bls n hn40 w
  have hM := Hid.mk' (made_bls n)
  have hbx : Hid (BoxV (w.alloc (.cells (madeCells #[.int .i64 0, .int .i64 0, .int .i64 0, .string ⟨#[]⟩] (n * 4)) 82)) w.heap.size (blC (List.replicate n noBl))) := by
    have h := boxV_new w (blC (List.replicate n noBl)) 82
    rw [← hM.out, Array.toArray_toList] at h
    rw [hM.out] at h
    exact h
  generalize madeCells #[.int .i64 0, .int .i64 0, .int .i64 0, .string ⟨#[]⟩] (n * 4) = MC at *
  have HB0 := Hid.mk' (below_box (w := w) MC 82)
  obtain ⟨W0, hW0⟩ : ∃ W, Hid (w.alloc (.cells MC 82) = W) := ⟨_, Hid.mk' rfl⟩
  rw [hW0.out] at hbx HB0
  obtain ⟨r0, hr0⟩ : ∃ r, Hid (s.extract 2 s.size = r) := ⟨_, Hid.mk' rfl⟩
  have hr0' := hr0.out
  have hr0l : Hid (r0.data.toList = s.data.toList.drop 2) := by show _ = _; rw [← hr0.out, ext_listB]
  have hr0z : Hid (r0.size ≤ 1000) := by show _ ≤ _; rw [← hr0.out, ext_sizeB]; omega
  rw [← hr0l.out] at hd
  clear h2 h2' h3 h4 h5
  go_enter Tryd.func72, Tryd.ntmps72
  go_wp2_with fail
  rw [hW0.out]
  go_loopw [6, 36] (fun t i wr => ∃ (k : Nat) (L : List Blb) (r : ByteArray), k ≤ n ∧ i = .int .i64 k ∧ t = .string r ∧ r.size ≤ 1000 ∧ L.length = k ∧ (∀ b ∈ L, chkB b = 0) ∧ rdN n r0.data.toList = (rdN (n - k) r.data.toList).map (L ++ ·) ∧ BoxV wr w.heap.size (blC (L ++ List.replicate (n - k) noBl)) ∧ Below w.heap.size w wr) (fun _ i _ => n - (intOf i).toNat)
  case atStart => exact ⟨0, [], r0, Nat.zero_le _, rfl, rfl, hr0z.out, rfl, (fun b hb => by simp at hb), by simp, by simpa using hbx.out, HB0.out⟩
  case round =>
    obtain ⟨k, L, r, hk, rfl, rfl, hrz, hLk, hLok, hrd, hbv, hbl⟩ := hrel
    have HRd := Hid.mk' hrd
    have HV := Hid.mk' hbv
    have HB := Hid.mk' hbl
    have HLok := Hid.mk' hLok
    have HLk := Hid.mk' hLk
    clear hrd hbv hbl hLok hLk
    by_cases hlt : k < n
    · obtain ⟨m, hm⟩ : ∃ m, Hid (n - k = m + 1) := ⟨n - k - 1, by show _ = _; omega⟩
      have hm2 : Hid (n - (k + 1) = m) := by show _ = _; have := hm.out; omega
      rw [hm.out] at HRd HV
      go_wp2_with fail
      refine (bone_any r wr hrz).mono ?_
      rintro e w1 ⟨hans, hb1⟩
      have HB1 := Hid.mk' (HB.out.trans (hb1.mono HB.out.size))
      have HV1 := Hid.mk' (HV.out.below hb1)
      clear hb1
      rcases hans with ⟨b, r', hr1, hr1z, rfl⟩ | ⟨hr1, x1, x2, x3, x4, x5, rfl⟩
      · have HR1 := Hid.mk' hr1
        have hcb : Hid (chkB b = 0) := (rd1_inv hr1).2
        have hr'z : r'.size ≤ 1000 := by omega
        clear hr1 hr1z
        have hXl : Hid (k < (L ++ List.replicate (m + 1) noBl).length) := by show _ < _; rw [List.length_append, HLk.out, List.length_replicate]; omega
        have HV2 := Hid.mk' (HV1.out.alloc (.cells #[.int .i64 b.kd, .int .i64 b.io, .int .i64 b.nt, .string b.tx] 82))
        have HB2 := Hid.mk' (HB1.out.alloc HB1.out.size (.cells #[.int .i64 b.kd, .int .i64 b.io, .int .i64 b.nt, .string b.tx] 82))
        have HX2 := Hid.mk' (bxB w1 b 82)
        obtain ⟨⟨v0, a0⟩, ⟨v1, a1⟩, ⟨v2, a2⟩, ⟨v3, a3⟩, f0, f1, f2, f3⟩ := HV2.out.cells4 k hXl.out
        have hset := HV2.out.setBl k hXl.out b
        have hfill := fill_one L m b
        rw [HLk.out] at hfill
        rw [hfill] at hset
        have HV3 := Hid.mk' hset
        have HB3 := Hid.mk' (below_setk HB2.out (Nat.le_refl w.heap.size) (k * 4) (k * 4 + 1) (k * 4 + 2) (k * 4 + 3) (.int .i64 b.kd) (.int .i64 b.io) (.int .i64 b.nt) (.string b.tx))
        have c0 := HX2.out.c0
        have c1 := HX2.out.c1
        have c2 := HX2.out.c2
        have c3 := HX2.out.c3
        have HRd2 : Hid (rdN n r0.data.toList = (rdN m r'.data.toList).map ((L ++ [b]) ++ ·)) := by
          show _ = _
          rw [HRd.out, rdN, HR1.out]
          simp only
          rw [Option.map_map]
          congr 1
          funext l
          simp
        have HL2 : Hid ((L ++ [b]).length = k + 1) := by show _ = _; rw [List.length_append, HLk.out]; rfl
        have HLok2 : Hid (∀ x ∈ L ++ [b], chkB x = 0) := fun x hx => by
          rcases List.mem_append.1 hx with h | h
          · exact HLok.out x h
          · rw [List.mem_singleton.1 h]; exact hcb.out
        clear hset hfill
        go_wp2_with fail
        go_roundw
        case rel => exact ⟨k + 1, L ++ [b], r', by omega, by go_num, rfl, hr'z, HL2.out, HLok2.out, by rw [hm2.out]; exact HRd2.out, by rw [hm2.out]; exact HV3.out, HB3.out⟩
        case measure => simp [intOf]; omega
      · have hq : Hid (readB s.data.toList = none) := by
          show _ = _
          rw [hd.out, HRd.out, rdN, hr1]; rfl
        go_wp2_with fail
        go_ret3
        exact hno.out _ hq.out (HB1.out.alloc HB1.out.size _)
    · have hkn : k = n := by omega
      subst hkn
      have e0 : k - k = 0 := Nat.sub_self k
      rw [e0] at HRd HV
      by_cases he : r.data.toList = []
      · have te : r.toList.isEmpty = true := by rw [text_empty]; exact decide_eq_true he
        have hq : Hid (readB s.data.toList = some (L, z == 1)) := by
          show _ = _
          rw [hd.out, HRd.out, rdN, if_pos he]; simp
        have hV0 : Hid (BoxV wr w.heap.size (blC L)) := by
          have h := HV.out
          rw [List.replicate_zero, List.append_nil] at h
          exact h
        have hbls := Hid.mk' (bls_box hV0.out HLk.out hn40 (fun b hb => blB_ok (HLok.out b hb)))
        have tz : ((z.toNat : Int) == 1) = (z == 1) := by
          have := hzl.out
          by_cases h : z = 1
          · subst h; rfl
          · have h1 : (z == 1) = false := by rw [beq_eq_false_iff_ne]; exact h
            rw [h1, beq_eq_false_iff_ne]
            intro h2
            exact h (UInt8.toNat_inj.1 (by show z.toNat = 1; omega))
        have hLk2 := HLk.out
        clear hlt he e0
        go_wp2_with fail
        go_quiet (fail)
        go_wp2_with fail
        go_ret3
        refine ⟨.inl ⟨L, z == 1, some ⟨w.heap.size, 0, none⟩, k, hq.out, ?_, ?_, (fun q e => by cases e; exact Nat.le_refl _)⟩, HB.out.trans (below_dB _ _)⟩
        · rw [hLk2, ← tz]; rfl
        · rw [hLk2]; exact hbls.out.below (below_dB _ _)
      · have te : r.toList.isEmpty = false := by rw [text_empty]; exact decide_eq_false he
        have hq : Hid (readB s.data.toList = none) := by
          show _ = _
          rw [hd.out, HRd.out, rdN, if_neg he]; rfl
        clear he hlt e0
        go_wp2_with fail
        go_ret3
        exact hno.out _ hq.out HB.out
theorem bread_any (s : ByteArray) (w : World) (hs : s.size ≤ 281474976710656) :
    Calls Tryd.prog 72 #[.string s] w fun e w' => RdbAns w' s.data.toList e ∧ Below w.heap.size w w' :=
  (bread_low s w hs).mono fun _ _ h => ⟨h.1.ans, h.2⟩
end Go.Proofs.YtbakgobgjfhhhaaDoor
