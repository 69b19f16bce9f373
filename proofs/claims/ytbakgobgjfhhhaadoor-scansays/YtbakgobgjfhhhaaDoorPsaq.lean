/- Texts of ours, one behind the other: ScanKit RdCellWalks MapKit GreatWalks IndexIntWalks RsKit LogCellWalks -/
import Derived.Test.YtbakgobgjfhhhaaDoorPsaf
import Derived.Test.YtbakgobgjfhhhaaDoorBlReadWalks
import Derived.Test.YtbakgobgjfhhhaaDoorOpenWalks
import Derived.Test.YtbakgobgjfhhhaaDoorPsap
import Derived.Maps.OwnSet
import Derived.Maps.Views
import Derived.Maps.OwnOps
import Derived.Maps.RangeWalk
import Derived.Test.YtbakgobgjfhhhaaDoorPsai
import Derived.Test.YtbakgobgjfhhhaaDoorRUnsealWalks
import Derived.Test.YtbakgobgjfhhhaaDoorRUnblobWalks

/- Cells of the log in memory. -/
namespace Go.Proofs.YtbakgobgjfhhhaaDoor
open Go.RowKit

theorem below_boxE {w : World} (v : Array Value) (t : TypeId) : Below w.heap.size w (w.alloc (.cells v t)) := (Below.refl _ w).alloc (Nat.le_refl _) _
theorem below_d1E (w : World) {B : Nat} : Below B w w.drew := ⟨rfl, rfl, rfl, Nat.le_refl _, fun _ _ => rfl⟩
theorem below_dE (w : World) (q : Nat) {B : Nat} : Below B w (w.drewN q) := ⟨rfl, rfl, rfl, Nat.le_refl _, fun _ _ => rfl⟩
/-- what is in a cell of the log, with its blobs' slice -/
structure EnS where
  cl : Nat
  bl : List Blb
  la : Bool
  a : Option Addr
  c : Nat
def EnS.e (x : EnS) : Ent := ⟨x.cl, x.bl, x.la⟩
def enA (x : EnS) : Array Value := #[.int .i64 (x.cl : Int), .slice x.a x.bl.length x.c, .bool x.la]
def enV (x : EnS) : List Value := [.int .i64 (x.cl : Int), .slice x.a x.bl.length x.c, .bool x.la]
def enC (l : List EnS) : List Value := l.flatMap enV
theorem enC_nil : enC [] = [] := rfl
theorem enC_cons (x : EnS) (l : List EnS) : enC (x :: l) = .int .i64 (x.cl : Int) :: .slice x.a x.bl.length x.c :: .bool x.la :: enC l := rfl
theorem enC_length (l : List EnS) : (enC l).length = l.length * 3 := by
  induction l with
  | nil => rfl
  | cons x r ih => rw [enC_cons]; simp only [List.length_cons, ih]; omega
theorem enC_snoc (l : List EnS) (x : EnS) : enC (l ++ [x]) = enC l ++ enV x := by simp [enC]
theorem enC_at {l : List EnS} {k : Nat} {x : EnS} (h : l[k]? = some x) : (enC l)[k * 3]? = some (.int .i64 (x.cl : Int)) ∧ (enC l)[k * 3 + 1]? = some (.slice x.a x.bl.length x.c) ∧ (enC l)[k * 3 + 2]? = some (.bool x.la) := by
  induction l generalizing k with
  | nil => simp at h
  | cons y r ih =>
    cases k with
    | zero =>
      simp only [List.getElem?_cons_zero, Option.some.injEq] at h
      subst h
      exact ⟨rfl, rfl, rfl⟩
    | succ k =>
      simp only [List.getElem?_cons_succ] at h
      have := ih h
      rw [enC_cons, show (k + 1) * 3 = k * 3 + 1 + 1 + 1 by omega]
      exact this
/-- its blobs can be read -/
def EnB (w : World) (x : EnS) : Prop := Bls w x.a x.bl.length x.c x.bl
theorem EnB.below {w w' : World} {x : EnS} (h : EnB w x) (hb : Below w.heap.size w w') : EnB w' x := Bls.below h hb
theorem Bls.setLow {X : World} {a : Option Addr} {n c : Nat} {l : List Blb} (h : Bls X a n c l) {N : Nat} (hl : LowA N a) {p : Addr} (hp : p.block < N) (v : Value) : Bls (X.setCell p v) a n c l := ⟨h.nL, h.nB, h.rd.setLow hl hp v, h.bB, h.kc, h.km, h.nc⟩
theorem BoxV.set3E {w : World} {g : Nat} {a b c : Value} (h : BoxV w g [a, b, c]) (a' b' c' : Value) : BoxV (((w.setCell ⟨g, 0, none⟩ a').setCell ⟨g, 1, none⟩ b').setCell ⟨g, 2, none⟩ c') g [a', b', c'] :=
  ((h.set 0 a' (by simp)).set 1 b' (by simp)).set 2 c' (by simp)
theorem below_set3E {B g : Nat} {w0 w : World} (h : Below B w0 w) (hg : B ≤ g) (x y z : Value) : Below B w0 (((w.setCell ⟨g, 0, none⟩ x).setCell ⟨g, 1, none⟩ y).setCell ⟨g, 2, none⟩ z) := ((h.setCell (p := ⟨g, 0, none⟩) hg x).setCell (p := ⟨g, 1, none⟩) hg y).setCell (p := ⟨g, 2, none⟩) hg z
theorem infoSzEn : (Tryd.prog.info? 48).map (·.size) = some 3 := by kernel_rfl
theorem aggEn (w : World) : (isAgg 48).run Tryd.prog w = .ok true w := by
  unfold isAgg
  rw [Sem.run_bind, run_underlying Tryd.underlying48 w]
  rfl
theorem results_en3 {P : Program} {t : TypeId} {fn : Func} {p q r : Tmp} (h : fn.results = #[.tmp q, .cell p t, .tmp r]) (tmps : Array Value) (w : World) (g n : Nat) (vs : List Value) (u v : Value) (hq : tmps.getD q undef = u) (hp : tmps.getD p undef = .pointer (some ⟨g, 0, none⟩)) (hr : tmps.getD r undef = v) (hb : BoxV w g vs) (hn : vs.length = n) (hs : (P.info? t).map (·.size) = some n) (hagg : (isAgg t).run P w = .ok true w) :
    (results fn tmps).run P w = .ok (.tuple #[u, .agg vs.toArray, v]) w := by
  have hp' : tmps[p]?.getD undef = .pointer (some ⟨g, 0, none⟩) := by simpa using hp
  have hq' : tmps[q]?.getD undef = u := by simpa using hq
  have hr' : tmps[r]?.getD undef = v := by simpa using hr
  simp [results, h, hp', hq', hr', asAddr, load_boxV hb hn hs hagg]
/-- what readCell answers -/
def RcA (w' : World) (k : Nat) (s : List UInt8) (z : Ending) : Prop :=
  (lgS s = none ∧ z = .returned (.tuple #[.int .i64 0, .agg #[.int .i64 0, .slice none 0 0, .bool false], .bool false])) ∨
  (∃ (n : Nat) (x : EnS), lgS s = some (n, x.bl, x.la) ∧ x.cl = k ∧ z = .returned (.tuple #[.int .i64 (n : Int), .agg #[.int .i64 (k : Int), .slice x.a x.bl.length x.c, .bool x.la], .bool true]) ∧ EnB w' x)
end Go.Proofs.YtbakgobgjfhhhaaDoor

/- What scan.readCell answers. -/
namespace Go.Proofs.YtbakgobgjfhhhaaDoor
open Go.RowKit

set_option maxRecDepth 20000 in
set_option maxHeartbeats 1600000 in
theorem rdcell_any (a0 a1 : Option Addr) (n c m d : Nat) (C : List ByteArray) (P : List Pt) (k : Nat) (w : World) (hT : Tab w) (h : Dk w a0 n a1 m C P) (hc : chkD C P = 0) (hk : k < n) :
    Calls Tryd.prog 64 #[.agg #[.slice a0 n c, .slice a1 m d], .int .i64 (k : Int)] w fun z w' => RcA w' k (cel C P k).data.toList z ∧ Below w.heap.size w w' := by
  have hd0 := (boxV_new w [.slice a0 n c, .slice a1 m d] 39).alloc (.cells #[.int .i64 0, .slice none 0 0, .bool false] 48)
  have hr0 := boxV_new (w.alloc (.cells #[.slice a0 n c, .slice a1 m d] 39)) [.int .i64 0, .slice none 0 0, .bool false] 48
  have hs0 : (w.alloc (.cells #[.slice a0 n c, .slice a1 m d] 39)).heap.size = w.heap.size + 1 := by simp
  rw [hs0] at hr0
  have hb0 := (below_boxE (w := w) #[.slice a0 n c, .slice a1 m d] 39).alloc (by simp) (.cells #[.int .i64 0, .slice none 0 0, .bool false] 48)
  have hs1 : ((w.alloc (.cells #[.slice a0 n c, .slice a1 m d] 39)).alloc (.cells #[.int .i64 0, .slice none 0 0, .bool false] 48)).heap.size = w.heap.size + 2 := by simp
  obtain ⟨W0, hW0⟩ : ∃ W, Hid ((w.alloc (.cells #[.slice a0 n c, .slice a1 m d] 39)).alloc (.cells #[.int .i64 0, .slice none 0 0, .bool false] 48) = W) := ⟨_, Hid.mk' rfl⟩
  have HD0 : Hid (BoxV W0 w.heap.size [.slice a0 n c, .slice a1 m d]) := by rw [← hW0.out]; exact hd0
  have HR0 : Hid (BoxV W0 (w.heap.size + 1) [.int .i64 0, .slice none 0 0, .bool false]) := by rw [← hW0.out]; exact hr0
  have HB0 : Hid (Below w.heap.size w W0) := by rw [← hW0.out]; exact hb0
  rw [hW0.out] at hs1
  have HS0 := Hid.mk' hs1
  have HKw := Hid.mk' h
  have HTw := Hid.mk' hT
  have hrd := Hid.mk' (fun w h => dread_in a0 a1 n c m d C P k w h hc hk)
  have hsz := h.celB k
  obtain ⟨S, hS⟩ : ∃ S, Hid (cel C P k = S) := ⟨_, Hid.mk' rfl⟩
  rw [hS.out] at hrd hsz
  rw [hS.out]
  have hop := Hid.mk' (fun w hT => open_any S w hT hsz)
  obtain ⟨L, hL⟩ : ∃ L, Hid (S.data.toList = L) := ⟨_, Hid.mk' rfl⟩
  rw [hL.out]
  have hn4 : opn4 S.data.toList = opn4 L := by rw [hL.out]
  have HN4 := Hid.mk' hn4
  clear hd0 hr0 hs0 hb0 hs1 h hT hn4
  have p0 := HD0.out.c 0 _ rfl
  have p1 := HD0.out.c 1 _ rfl
  go_enter Tryd.func64, Tryd.ntmps64
  go_wp2_with fail
  rw [hW0.out]
  go_wp2_with fail
  refine (hrd.out W0 (HKw.out.below HB0.out)).mono ?_
  rintro z w1 ⟨rfl, hb⟩
  have HR1 := Hid.mk' (HR0.out.below hb)
  have HB1 := Hid.mk' (HB0.out.trans (hb.mono HB0.out.size))
  have HZ1 : Hid (w.heap.size + 2 ≤ w1.heap.size) := by show _ ≤ _; have := HS0.out; have := hb.size; omega
  clear hb p0 p1
  go_wp2_with fail
  refine (hop.out w1 (tab_belowS HTw.out HB1.out)).mono ?_
  rintro z w2 ⟨hz, hb⟩
  have hz1 := opn_ans hz
  rw [HN4.out] at hz1
  subst hz1
  have HR2 := Hid.mk' (HR1.out.below hb)
  have HB2 := Hid.mk' (HB1.out.trans (hb.mono HB1.out.size))
  have HZ2 := Hid.mk' (Nat.le_trans HZ1.out hb.size)
  clear hb hz
  have r0 := HR2.out.c 0 _ rfl
  have r1 := HR2.out.c 1 _ rfl
  have r2 := HR2.out.c 2 _ rfl
  have rf0 := HR2.out.f 0 (by simp)
  have rf1 := HR2.out.f 1 (by simp)
  have rf2 := HR2.out.f 2 (by simp)
  have hRS := Hid.mk' (HR2.out.set3E (.int .i64 0) (.slice none 0 0) (.bool false))
  have hBS := Hid.mk' (below_set3E (g := w.heap.size + 1) HB2.out (Nat.le_succ _) (.int .i64 0) (.slice none 0 0) (.bool false))
  by_cases h0 : opnE L = 0
  rotate_left
  · have ho : opn4 L = ((0, 0), (⟨#[]⟩, opnE L)) := by unfold opn4; rw [if_neg h0]
    have hno : Hid (lgS L = none) := lgS_no (fun h => h0 h.1)
    rw [ho]
    have te : (opnE L != 0) = true := by rw [bne_iff_ne]; exact h0
    obtain ⟨q, hqq⟩ : ∃ q, Hid (opnE L = q) := ⟨_, Hid.mk' rfl⟩
    rw [hqq.out] at te
    rw [hqq.out]
    clear h0 ho
    go_wp2_with fail
    refine bodyPost_ret (results_en3 rfl _ _ (w.heap.size + 1) 3 _ _ _ rfl rfl rfl hRS.out rfl infoSzEn (aggEn _)) rfl ⟨.inl ⟨hno.out, rfl⟩, hBS.out⟩
  have ho : opn4 L = ((((kiS L : Nat) : Int), ((srS L : Nat) : Int)), (txS (bdS L), 0)) := by unfold opn4; rw [if_pos h0]
  have HO := Hid.mk' h0
  have hbz : (bdS L).length ≤ 1000 := by
    have := (opE_ok h0).1
    rw [bd_len this.1]; omega
  rw [ho]
  obtain ⟨D, hD⟩ : ∃ D, Hid (txS (bdS L) = D) := ⟨_, Hid.mk' rfl⟩
  have hDl : Hid (D.data.toList = bdS L) := by show _ = _; rw [← hD.out, txS_list]
  have hDz : D.size ≤ 1000 := by rw [← hD.out, txS_size]; exact hbz
  obtain ⟨kk, hkk⟩ : ∃ k, Hid (kiS L = k) := ⟨_, Hid.mk' rfl⟩
  obtain ⟨r, hr⟩ : ∃ k, Hid (srS L = k) := ⟨_, Hid.mk' rfl⟩
  rw [hD.out, hkk.out, hr.out]
  clear ho h0 hbz
  by_cases hk1 : kk = 1
  rotate_left
  · have tk : ((kk : Int) != 1) = true := by rw [bne_iff_ne]; omega
    have hno : Hid (lgS L = none) := lgS_no (fun h => hk1 (by rw [← hkk.out]; exact h.2))
    clear hk1
    go_wp2_with fail
    refine bodyPost_ret (results_en3 rfl _ _ (w.heap.size + 1) 3 _ _ _ rfl rfl rfl hRS.out rfl infoSzEn (aggEn _)) rfl ⟨.inl ⟨hno.out, rfl⟩, hBS.out⟩
  subst hk1
  have hbr := Hid.mk' (fun w => bread_low D w (by omega))
  rw [hDl.out] at hbr
  clear r0 r1 r2 rf0 rf1 rf2 hRS hBS
  go_wp2_with fail
  refine (hbr.out w2).mono ?_
  rintro z w3 ⟨hz, hb⟩
  have HR3 := Hid.mk' (HR2.out.below hb)
  have HB3 := Hid.mk' (HB2.out.trans (hb.mono HB2.out.size))
  clear hb
  have r0 := HR3.out.c 0 _ rfl
  have r1 := HR3.out.c 1 _ rfl
  have r2 := HR3.out.c 2 _ rfl
  have rf0 := HR3.out.f 0 (by simp)
  have rf1 := HR3.out.f 1 (by simp)
  have rf2 := HR3.out.f 2 (by simp)
  rcases hz with ⟨l, b, ao, cap, hrd2, rfl, hbl, hlo⟩ | ⟨hrd2, rfl⟩
  · have hyes : Hid (lgS L = some (r, l, b)) := by show _ = _; rw [lgS_some HO.out hkk.out hrd2, hr.out]
    have hlo2 := hlo.mono HZ2.out
    have hRS := Hid.mk' (HR3.out.set3E (.int .i64 (k : Int)) (.slice ao l.length cap) (.bool b))
    have hBS := Hid.mk' (below_set3E (g := w.heap.size + 1) HB3.out (Nat.le_succ _) (.int .i64 (k : Int)) (.slice ao l.length cap) (.bool b))
    have hg : w.heap.size + 1 < w.heap.size + 2 := Nat.lt_succ_self _
    have HBL := Hid.mk' (((hbl.setLow (p := ⟨w.heap.size + 1, 0, none⟩) hlo2 hg (.int .i64 (k : Int))).setLow (p := ⟨w.heap.size + 1, 1, none⟩) hlo2 hg (.slice ao l.length cap)).setLow (p := ⟨w.heap.size + 1, 2, none⟩) hlo2 hg (.bool b))
    clear hrd2 hbl hlo hlo2 hg
    go_wp2_with fail
    refine bodyPost_ret (results_en3 rfl _ _ (w.heap.size + 1) 3 _ _ _ rfl rfl rfl hRS.out rfl infoSzEn (aggEn _)) rfl ⟨.inr ⟨r, ⟨k, l, b, ao, cap⟩, hyes.out, rfl, rfl, HBL.out⟩, hBS.out⟩
  · have hno : Hid (lgS L = none) := lgS_none hrd2
    have hRS := Hid.mk' (HR3.out.set3E (.int .i64 0) (.slice none 0 0) (.bool false))
    have hBS := Hid.mk' (below_set3E (g := w.heap.size + 1) HB3.out (Nat.le_succ _) (.int .i64 0) (.slice none 0 0) (.bool false))
    clear hrd2
    go_wp2_with fail
    refine bodyPost_ret (results_en3 rfl _ _ (w.heap.size + 1) 3 _ _ _ rfl rfl rfl hRS.out rfl infoSzEn (aggEn _)) rfl ⟨.inl ⟨hno.out, rfl⟩, hBS.out⟩
end Go.Proofs.YtbakgobgjfhhhaaDoor

/- The log's cells by their numbers, in a map. -/
namespace Go.Proofs.YtbakgobgjfhhhaaDoor
open Go.RowKit Go.WideMaps Go.Maps

/-- an element reads as itself -/
def R0 : Value → Option (DataW Value × List MemPlace) := fun v => some (.held v, [])
def kI (x : Int) : Lit := .int .i64 x
theorem kI_key (x : Int) : WideAt.IsKeyLit (kI x) := by simp [kI, WideAt.IsKeyLit]
theorem kI_ne {x y : Int} (h : x ≠ y) : kI x ≠ kI y := fun e => h (by simpa [kI] using e)
theorem lawI : Keyed Tryd.prog 3 := int_keyed Tryd.underlying3
theorem keyI {x : Int} (h : (Lit.int .i64 x).wf = true) : keyOf Tryd.prog 3 (.int .i64 x) = some (kI x) := keyOf_int_mk Tryd.underlying3 h
def noEn : Value := .agg #[.int .i64 0, .slice none 0 0, .bool false]
theorem zeroE (w : World) : (zeroValue 48).run Tryd.prog w = .ok noEn w := by kernel_rfl
/-- the map says what the list says -/
structure MapD (D : DataW Value) (L : List (Nat × EnS)) : Prop where
  m : IsMap D
  no : ∀ x : Int, fnd L x = none → Maps.has D (kI x) = false
  yes : ∀ (x : Int) y, fnd L x = some y → Maps.has D (kI x) = true ∧ ∀ z, D.atKey (kI x) z = .held (.agg (enA y))
theorem mapD_start : MapD (.map []) [] := ⟨isMap_empty, fun x _ => rfl, fun x y h => by cases h⟩
theorem mapD_old {D : DataW Value} {L : List (Nat × EnS)} (h : MapD D L) (p : Nat × EnS) {y : EnS} (hy : fnd L (p.1 : Int) = some y) : MapD D (L ++ [p]) := by
  refine ⟨h.m, fun x hx => h.no x ?_, fun x z hz => h.yes x z ?_⟩
  · cases hc : fnd L x with
    | none => rfl
    | some u => rw [fnd_snoc_old hc] at hx; cases hx
  · cases hc : fnd L x with
    | none =>
      rw [fnd_snoc_new hc] at hz
      split at hz
      · next e => rw [← e, hy] at hc; cases hc
      · cases hz
    | some u => rw [fnd_snoc_old hc] at hz; exact hz
theorem mapD_new {D : DataW Value} {L : List (Nat × EnS)} (h : MapD D L) (p : Nat × EnS) (hy : fnd L (p.1 : Int) = none) : MapD (D.put (kI (p.1 : Int)) (.held (.agg (enA p.2)))) (L ++ [p]) := by
  refine ⟨h.m.put _ _, fun x hx => ?_, fun x z hz => ?_⟩
  · cases hc : fnd L x with
    | some u => rw [fnd_snoc_old hc] at hx; cases hx
    | none =>
      rw [fnd_snoc_new hc] at hx
      have hne : x ≠ (p.1 : Int) := fun e => by rw [if_pos e.symm] at hx; cases hx
      rw [has_put_other (kI_ne hne)]
      exact h.no x hc
  · by_cases e : (p.1 : Int) = x
    · subst e
      rw [fnd_snoc_new hy, if_pos rfl] at hz
      cases hz
      exact ⟨has_put_same h.m (kI_key _) _, fun u => atKey_put_same h.m (kI_key _) _ u⟩
    · have hc : fnd L x = some z := by
        cases hc : fnd L x with
        | some u => rw [fnd_snoc_old hc] at hz; exact hz
        | none => rw [fnd_snoc_new hc, if_neg e] at hz; cases hz
      have := h.yes x z hc
      have hne : x ≠ (p.1 : Int) := fun e' => e e'.symm
      rw [has_put_other (kI_ne hne)]
      exact ⟨this.1, fun u => by rw [atKey_put_other (kI_ne hne)]; exact this.2 u⟩
/-- the map in memory -/
structure MapL (w : World) (g m : Nat) (D : DataW Value) (L : List (Nat × EnS)) : Prop where
  own : w.ownsMap Tryd.prog 3 R0 g m D
  d : MapD D L
theorem MapL.look_no {w : World} {g m : Nat} {D : DataW Value} {L : List (Nat × EnS)} (h : MapL w g m D L) {x : Int} (hx : (Lit.int .i64 x).wf = true) (hf : fnd L x = none) :
    (Instr.lookup 72 (.map (some g)) (.int .i64 x) true).run Tryd.prog w = .ok (.tuple #[.agg #[.int .i64 0, .slice none 0 0, .bool false], .bool false]) w := by
  obtain ⟨v, ps, hrun, hv⟩ := h.own.look_ok lawI Tryd.underlying72 (zeroE w) (zd := .held noEn) (zp := []) rfl (keyI hx)
  have hn := h.d.no x hf
  rw [atKey_of_not_has hn] at hv
  simp only [R0, Option.some.injEq, Prod.mk.injEq, DataW.held.injEq] at hv
  obtain ⟨rfl, _⟩ := hv
  rw [hn] at hrun
  exact hrun
theorem MapL.look_yes {w : World} {g m : Nat} {D : DataW Value} {L : List (Nat × EnS)} (h : MapL w g m D L) {x : Int} (hx : (Lit.int .i64 x).wf = true) {y : EnS} (hf : fnd L x = some y) :
    (Instr.lookup 72 (.map (some g)) (.int .i64 x) true).run Tryd.prog w = .ok (.tuple #[.agg #[.int .i64 (y.cl : Int), .slice y.a y.bl.length y.c, .bool y.la], .bool true]) w := by
  obtain ⟨v, ps, hrun, hv⟩ := h.own.look_ok lawI Tryd.underlying72 (zeroE w) (zd := .held noEn) (zp := []) rfl (keyI hx)
  have hy := h.d.yes x y hf
  rw [hy.2] at hv
  simp only [R0, Option.some.injEq, Prod.mk.injEq, DataW.held.injEq] at hv
  obtain ⟨rfl, _⟩ := hv
  rw [hy.1] at hrun
  exact hrun
theorem MapL.upd {w : World} {g m : Nat} {D : DataW Value} {L : List (Nat × EnS)} (h : MapL w g m D L) (p : Nat × EnS) (hx : (Lit.int .i64 (p.1 : Int)).wf = true) (hm : m < maxLen) (hf : fnd L (p.1 : Int) = none) :
    ∃ w', (Instr.mapUpdate 72 (.map (some g)) (.int .i64 (p.1 : Int)) (.agg #[.int .i64 (p.2.cl : Int), .slice p.2.a p.2.bl.length p.2.c, .bool p.2.la])).run Tryd.prog w = .ok () w' ∧ MapL w' g (m + 1) (D.put (kI (p.1 : Int)) (.held (.agg (enA p.2)))) (L ++ [p]) ∧ w.grownBy w' (some g) := by
  obtain ⟨w', hrun, how, hg⟩ := h.own.update lawI Tryd.underlying72 hm (keyI hx) (val := .agg (enA p.2)) (d := .held (.agg (enA p.2))) (ps := []) rfl
  exact ⟨w', hrun, ⟨how, mapD_new h.d p hf⟩, hg⟩
theorem MapL.below {w w' : World} {g m : Nat} {D : DataW Value} {L : List (Nat × EnS)} (h : MapL w g m D L) (hb : Below w.heap.size w w') : MapL w' g m D L :=
  ⟨h.own.kept (row := none) ⟨hb.os, hb.tape, hb.output, hb.size, fun j hj _ => hb.block j hj⟩ (by simp), h.d⟩
theorem MapL.set {w : World} {g m : Nat} {D : DataW Value} {L : List (Nat × EnS)} (h : MapL w g m D L) {a : Addr} (ha : g ≠ a.block) (v : Value) : MapL (w.setCell a v) g m D L := ⟨h.own.setCell ha v, h.d⟩
/-- what lies in cells is not the map -/
theorem rd_map {w w' : World} {g m : Nat} {D : DataW Value} {L : List (Nat × EnS)} (h : MapL w g m D L) (hg : w.grownBy w' (some g)) {a : Option Addr} {n size : Nat} {xs : List Value} (hr : Rd w a n size xs) (hs : 0 < size) : Rd w' a n size xs := by
  refine ⟨hr.len, fun h0 => ?_⟩
  obtain ⟨b, off, h1, h2, h3⟩ := hr.at' h0
  have hl : 0 < xs.length := by rw [hr.len]; exact Nat.mul_pos h0 hs
  have hc := h3 0 _ (List.getElem?_eq_getElem hl)
  have hne : b ≠ g := by
    rintro rfl
    obtain ⟨es, clock, hb, _⟩ := h.own
    unfold World.cell? at hc
    simp only [hb] at hc
    cases hc
  have hb : w'.heap[b]? = w.heap[b]? := hg.block b h2 (fun e => hne (by simpa using e))
  exact ⟨b, off, h1, Nat.lt_of_lt_of_le h2 hg.size, fun j u hj => (World.cell?_of_block hb).trans (h3 j u hj)⟩
theorem enB_map {w w' : World} {g m : Nat} {D : DataW Value} {L : List (Nat × EnS)} (h : MapL w g m D L) (hg : w.grownBy w' (some g)) {x : EnS} (hx : EnB w x) : EnB w' x := ⟨hx.nL, hx.nB, rd_map h hg hx.rd (by omega), hx.bB, hx.kc, hx.km, hx.nc⟩
theorem below_map {w0 w w' : World} {g : Nat} (hb : Below w0.heap.size w0 w) (hg : w.grownBy w' (some g)) (hB : w0.heap.size ≤ g) : Below w0.heap.size w0 w' := by
  refine ⟨hg.os.trans hb.os, hg.tape.trans hb.tape, hg.output.trans hb.output, Nat.le_trans hb.size hg.size, fun i hi => ?_⟩
  refine (hg.block i (Nat.lt_of_lt_of_le hi hb.size) (fun e => ?_)).trans (hb.block i hi)
  have h2 : g = i := by first | (injection e with e; exact e) | (injection e with e; exact e.symm)
  omega
end Go.Proofs.YtbakgobgjfhhhaaDoor

/- What scan.greatest answers. -/
namespace Go.Proofs.YtbakgobgjfhhhaaDoor
open Go.RowKit Go.WideMaps Go.Maps

/-- a key of the map is a number of the list -/
theorem mapD_has {D : DataW Value} {L : List (Nat × EnS)} (h : MapD D L) {x : Int} (hx : Maps.has D (kI x) = true) : ∃ p ∈ L, (p.1 : Int) = x := by
  cases hf : fnd L x with
  | none => rw [h.no x hf] at hx; cases hx
  | some y => obtain ⟨p, h1, h2, _⟩ := fnd_mem hf; exact ⟨p, h1, h2⟩
theorem mapD_mem {D : DataW Value} {L : List (Nat × EnS)} (h : MapD D L) {p : Nat × EnS} (hp : p ∈ L) : Maps.has D (kI (p.1 : Int)) = true := by
  obtain ⟨y, hy⟩ := fnd_of_mem hp
  exact (h.yes _ y hy).1
/-- how far the round over the map has come: mx is the greatest of those that came -/
structure GrI (D : DataW Value) (a : Int) (left : Lit → Bool) (mx : Int) : Prop where
  ge : a ≤ mx
  up : ∀ x, Maps.has D (kI x) = true → left (kI x) = false → x ≤ mx
  is : mx = a ∨ ∃ x, Maps.has D (kI x) = true ∧ mx = x
  lh : ∀ x, left (kI x) = true → Maps.has D (kI x) = true
theorem GrI.start (D : DataW Value) (a : Int) : GrI D a (Maps.has D) a := ⟨Int.le_refl _, (fun x h1 h2 => by rw [h1] at h2; cases h2), .inl rfl, fun x h => h⟩
theorem GrI.step {D : DataW Value} {a : Int} {left : Lit → Bool} {mx x : Int} (h : GrI D a left mx) (hx : left (kI x) = true) : GrI D a (fun z => left z && !z.sameKey (kI x)) (if mx < x then x else mx) := by
  refine ⟨?_, fun y hy hl => ?_, ?_, fun y hl => ?_⟩
  · have := h.ge; split <;> omega
  · by_cases e : y = x
    · subst e; split <;> omega
    · have hs : (kI y).sameKey (kI x) = false := by
        cases hc : (kI y).sameKey (kI x) with
        | false => rfl
        | true => exact absurd ((WideAt.sameKey_iff (kI_key x)).1 hc) (kI_ne e)
      simp only [hs, Bool.not_false, Bool.and_true] at hl
      have := h.up y hy hl
      split <;> omega
  · split
    · exact .inr ⟨x, h.lh x hx, rfl⟩
    · exact h.is
  · simp only [Bool.and_eq_true] at hl
    exact h.lh y hl.1
theorem GrI.done {D : DataW Value} {L : List (Nat × EnS)} (hD : MapD D L) {a : Int} {left : Lit → Bool} {mx : Int} (h : GrI D a left mx) (hl : ∀ z, left z = false) : mx = mxN L a := by
  refine mxN_only h.ge (fun p hp => h.up _ (mapD_mem hD hp) (hl _)) ?_
  rcases h.is with e | ⟨x, hx, e⟩
  · exact .inl e
  · obtain ⟨p, h1, h2⟩ := mapD_has hD hx
    exact .inr ⟨p, h1, by omega⟩
theorem GrI.bound {D : DataW Value} {L : List (Nat × EnS)} (hD : MapD D L) (hN : ∀ p ∈ L, p.1 ≤ 2147483647) {a : Int} {left : Lit → Bool} {mx : Int} (h : GrI D a left mx) (ha : 0 ≤ a ∧ a ≤ 2147483647) : 0 ≤ mx ∧ mx ≤ 2147483647 := by
  have := h.ge
  refine ⟨by omega, ?_⟩
  rcases h.is with e | ⟨x, hx, e⟩
  · omega
  · obtain ⟨p, h1, h2⟩ := mapD_has hD hx
    have := hN p h1
    omega
set_option maxRecDepth 20000 in
set_option maxHeartbeats 1600000 in
theorem great_any (g q : Nat) (D : DataW Value) (L : List (Nat × EnS)) (a : Int) (w : World) (h : MapL w g q D L) (hN : ∀ p ∈ L, p.1 ≤ 2147483647) (ha : 0 ≤ a ∧ a ≤ 2147483647) :
    Calls Tryd.prog 43 #[.map (some g), .int .i64 a] w fun z w' => z = .returned (.int .i64 (mxN L a)) ∧ Below w.heap.size w w' := by
  have hown := h.own
  have HD := Hid.mk' h.d
  have HN := Hid.mk' hN
  have HA := Hid.mk' ha
  have hlt := h.own.lt
  clear h hN ha
  go_enter Tryd.func43, Tryd.ntmps43
  go_wp2_with (first
    | (at_range; refine wpList_range_own _ rfl _ 72 rfl 3 48 lawI Tryd.underlying72 R0 g q D rfl hown ?_; intro w0 hrg0 hg0 hs0)
    | go_in)
  go_frame
  go_loopw [1] (fun v wr => ∃ (left : Lit → Bool) (cnt : Nat) (mx : Int), v = .int .i64 mx ∧ wr.ranges Tryd.prog 3 R0 g w.heap.size q D left cnt ∧ GrI D a left mx ∧ Below w.heap.size w wr) (fun _ wr => wr.rangeLeft g w.heap.size)
  case atStart => exact ⟨_, _, a, rfl, hrg0, GrI.start D a, ⟨hg0.os, hg0.tape, hg0.output, hg0.size, fun i hi => hg0.block i hi (by simp)⟩⟩
  case round =>
    obtain ⟨left, cnt, mx, rfl, hrg, hgr, hb⟩ := hrel
    have HG := Hid.mk' hgr
    have HB := Hid.mk' hb
    have hmx := hgr.bound HD.out HN.out HA.out
    have hm0 : wr.rangeLeft g w.heap.size = cnt := hrg.left_eq
    have HM0 := Hid.mk' hm0
    clear hgr hb hm0
    go_wp2_with (first
      | (at_next; refine wpList_next_ranges _ rfl _ rfl 3 lawI R0 (Value.int .i64) (fun v : Value => v) (fun key kl hkey => by obtain ⟨x, rfl, _⟩ := Maps.keyOf_int_inv Tryd.underlying3 hkey; exact ⟨x, rfl⟩) (fun v y _ => ⟨v, rfl⟩) g w.heap.size q D left cnt rfl hrg ?_ ?_)
      | go_in)
    · intro hc0 hl0
      have hdn := HG.out.done HD.out hl0
      clear hrg
      go_wp2_with fail
      go_ret
      exact ⟨by rw [hdn]; rfl, HB.out⟩
    · intro x c kl y ps w1 cnt1 hkey hlx hv hat hrg1 hlt1 hg1 hs1 hen
      obtain ⟨x', ex, rfl, hwx⟩ := Maps.keyOf_int_inv Tryd.underlying3 hkey
      cases ex
      have HG1 := Hid.mk' (HG.out.step (x := x) hlx)
      have hb1 := HG1.out.bound HD.out HN.out HA.out
      have HB1 := Hid.mk' (below_map HB.out hg1 (Nat.le_refl _))
      have HR1 := Hid.mk' hrg1
      obtain ⟨p, hp1, hp2⟩ := mapD_has HD.out (HG.out.lh x hlx)
      have hxb := HN.out p hp1
      obtain ⟨nx, hnx⟩ : ∃ v, Hid ((if mx < x then x else mx) = v) := ⟨_, Hid.mk' rfl⟩
      rw [hnx.out] at HG1 hb1
      have hnx' := hnx.out
      clear hkey hlx hv hat hrg1 hg1 hrg hp1 hp2
      go_wp2_with fail
      exact ⟨⟨_, cnt1, nx, rfl, HR1.out, HG1.out, HB1.out⟩, by rw [HR1.out.left_eq, HM0.out]; exact hlt1⟩
end Go.Proofs.YtbakgobgjfhhhaaDoor

/- slices.Index and slices.Contains of numbers, each with what it is the number of. -/
namespace Go.Proofs.YtbakgobgjfhhhaaDoor
open Go.RowKit

def nsC {α : Type} (L : List (Nat × α)) : List Value := L.map (fun p => .int .i64 (p.1 : Int))
theorem nsC_length {α : Type} (L : List (Nat × α)) : (nsC L).length = L.length := by simp [nsC]
theorem nsC_snoc {α : Type} (L : List (Nat × α)) (p : Nat × α) : nsC (L ++ [p]) = nsC L ++ [.int .i64 (p.1 : Int)] := by simp [nsC]
theorem nsC_at {α : Type} {L : List (Nat × α)} {k : Nat} {p : Nat × α} (h : L[k]? = some p) : (nsC L)[k]? = some (.int .i64 (p.1 : Int)) := by simp [nsC, h]
theorem fnd_first {α : Type} : ∀ {L : List (Nat × α)} {k : Nat} {x : Int} {p : Nat × α}, (∀ j, j < k → ∀ q, L[j]? = some q → (q.1 : Int) ≠ x) → L[k]? = some p → (p.1 : Int) = x → fnd L x = some p.2 := by
  intro L
  induction L with
  | nil => intro k x p _ h; simp at h
  | cons y r ih =>
    intro k x p hn hk hp
    rw [fnd_cons]
    cases k with
    | zero =>
      simp only [List.getElem?_cons_zero, Option.some.injEq] at hk
      subst hk
      rw [if_pos hp]
    | succ k =>
      rw [if_neg (hn 0 (by omega) y rfl)]
      exact ih (k := k) (fun j hj q hq => hn (j + 1) (by omega) q (by simpa using hq)) (by simpa using hk) hp
theorem fnd_all {α : Type} : ∀ {L : List (Nat × α)} {x : Int}, (∀ j, j < L.length → ∀ q, L[j]? = some q → (q.1 : Int) ≠ x) → fnd L x = none := by
  intro L
  induction L with
  | nil => intro x _; rfl
  | cons y r ih =>
    intro x hn
    rw [fnd_cons, if_neg (hn 0 (by simp) y rfl)]
    exact ih fun j hj q hq => hn (j + 1) (by simpa using hj) q (by simpa using hq)
/-- what Index answers -/
def IxA {α : Type} (L : List (Nat × α)) (x z : Int) : Prop := (∃ (i : Nat) (p : Nat × α), L[i]? = some p ∧ i < L.length ∧ fnd L x = some p.2 ∧ z = (i : Int)) ∨ (fnd L x = none ∧ z = -1)
set_option maxRecDepth 20000 in
set_option maxHeartbeats 800000 in
theorem indexI_any (a0 : Option Addr) (m d : Nat) (L : List (Nat × EnS)) (x : Int) (w : World) (h : Rd w a0 m 1 (nsC L)) (hl : L.length = m) (hb : m ≤ 8796093022208) :
    Calls Tryd.prog 46 #[.slice a0 m d, .int .i64 x] w fun e w' => (∃ z, e = .returned (.int .i64 z) ∧ IxA L x z) ∧ w' = w := by
  have K1 := Hid.mk' h
  have L1 := Hid.mk' hl
  clear h hl
  go_enter Tryd.func46, Tryd.ntmps46
  go_wp2_with fail
  go_loop [8] (fun i => ∃ k : Nat, k ≤ m ∧ i = .int .i64 k ∧ (∀ j, j < k → ∀ q, L[j]? = some q → (q.1 : Int) ≠ x)) (fun i => m - (intOf i).toNat)
  case atStart => exact ⟨0, Nat.zero_le _, rfl, fun j hj => by omega⟩
  case round =>
    obtain ⟨k, hk, rfl, hs⟩ := hrel
    have HS := Hid.mk' hs
    clear hs
    by_cases hlt : k < m
    · obtain ⟨g1, o1, rfl, _, dd⟩ := K1.out.at' (by omega)
      have hget := List.getElem?_eq_getElem (l := L) (i := k) (by rw [L1.out]; exact hlt)
      obtain ⟨p, hp⟩ : ∃ p, L[k]'(by rw [L1.out]; exact hlt) = p := ⟨_, rfl⟩
      rw [hp] at hget
      have e1 := dd k _ (nsC_at hget)
      have HGt := Hid.mk' hget
      clear dd hget hp
      by_cases hx : (p.1 : Int) = x
      · have tx : (x == x) = true := by simp
        have hfn := Hid.mk' (fnd_first HS.out HGt.out hx)
        rw [hx] at e1
        clear hx
        go_wp2_with fail
        go_ret
        exact ⟨⟨k, rfl, .inl ⟨k, p, HGt.out, by rw [L1.out]; exact hlt, hfn.out, rfl⟩⟩, rfl⟩
      · have tx : (x == (p.1 : Int)) = false := by rw [beq_eq_false_iff_ne]; exact fun e => hx e.symm
        have HS2 : Hid (∀ j, j < k + 1 → ∀ q, L[j]? = some q → (q.1 : Int) ≠ x) := fun j hj q hq => by
          by_cases e : j = k
          · subst e
            rw [HGt.out] at hq
            cases hq
            exact hx
          · exact HS.out j (by omega) q hq
        clear hx
        go_wp2_with fail
        go_round
        case rel => exact ⟨k + 1, by omega, by go_num, HS2.out⟩
        case measure => simp [intOf]; omega
    · have hfn := Hid.mk' (fnd_all (L := L) (x := x) (fun j hj => HS.out j (by have := L1.out; omega)))
      go_wp2_with fail
      go_ret
      exact ⟨⟨-1, rfl, .inr ⟨hfn.out, rfl⟩⟩, rfl⟩
set_option maxRecDepth 20000 in
set_option maxHeartbeats 800000 in
theorem containsI_any (a0 : Option Addr) (m d : Nat) (L : List (Nat × EnS)) (x : Int) (w : World) (h : Rd w a0 m 1 (nsC L)) (hl : L.length = m) (hb : m ≤ 8796093022208) :
    Calls Tryd.prog 45 #[.slice a0 m d, .int .i64 x] w fun e w' => e = .returned (.bool (fnd L x).isSome) ∧ w' = w := by
  go_enter Tryd.func45, Tryd.ntmps45
  go_wp2_with fail
  refine (indexI_any a0 m d L x w h hl hb).mono ?_
  rintro e w1 ⟨⟨z, rfl, hz⟩, rfl⟩
  rcases hz with ⟨i, p, _, _, hf, rfl⟩ | ⟨hf, rfl⟩
  · have hq : Hid ((fnd L x).isSome = true) := by show _ = _; rw [hf]; rfl
    have t0 : decide ((0 : Int) ≤ (i : Int)) = true := decide_eq_true (by omega)
    clear hf
    go_wp2_with fail
    go_ret
    exact ⟨by rw [hq.out]; rfl, rfl⟩
  · have hq : Hid ((fnd L x).isSome = false) := by show _ = _; rw [hf]; rfl
    clear hf
    go_wp2_with fail
    go_ret
    exact ⟨by rw [hq.out]; rfl, rfl⟩
end Go.Proofs.YtbakgobgjfhhhaaDoor

/- Two rows that grow by turns, and what was read before: kit of linenref.Scan. -/
namespace Go.Proofs.YtbakgobgjfhhhaaDoor
open Go.RowKit

structure RsG (N : Nat) (w : World) (v u : Value) (M : List EnS) (L : List (Nat × EnS)) (S : List EnS) : Prop where
  ov : w.ownsRow N 48 3 v M.length (enC M)
  ou : w.ownsRow N 3 1 u L.length (nsC L)
  ap : ∀ k, v.ownBlock = some k → u.ownBlock ≠ some k
  eb : ∀ x ∈ S, EnB w x
  sv : ∀ x ∈ S, x.bl ≠ [] → ∀ q, x.a = some q → v.ownBlock ≠ some q.block ∧ u.ownBlock ≠ some q.block
theorem enB_block {w : World} {x : EnS} (h : EnB w x) (hn : x.bl ≠ []) {q : Addr} (hq : x.a = some q) : q.block < w.heap.size := by
  have hl : 0 < x.bl.length := List.length_pos_iff.2 hn
  obtain ⟨b, off, e, hb, _⟩ := h.rd.at' hl
  rw [hq] at e
  cases e
  exact hb
theorem enB_grown {w w' : World} {r : Option Nat} {x : EnS} (h : EnB w x) (hg : w.grownBy w' r) (hs : x.bl ≠ [] → ∀ q, x.a = some q → r ≠ some q.block) : EnB w' x := by
  refine ⟨h.nL, h.nB, ⟨h.rd.len, fun h0 => ?_⟩, h.bB, h.kc, h.km, h.nc⟩
  obtain ⟨b, off, e, hb, hc⟩ := h.rd.at' h0
  have hne : x.bl ≠ [] := List.length_pos_iff.1 h0
  have hb' : w'.heap[b]? = w.heap[b]? := hg.block b hb (fun e2 => hs hne ⟨b, off, none⟩ e (by first | exact e2.symm | exact e2))
  exact ⟨b, off, e, Nat.lt_of_lt_of_le hb hg.size, fun j u hj => (World.cell?_of_block hb').trans (hc j u hj)⟩
theorem RsG.below {N : Nat} {w w' : World} {v u : Value} {M : List EnS} {L : List (Nat × EnS)} {S : List EnS} (h : RsG N w v u M L S) (hb : Below w.heap.size w w') : RsG N w' v u M L S :=
  ⟨own_below h.ov hb, own_below h.ou hb, h.ap, fun x hx => (h.eb x hx).below hb, h.sv⟩
theorem RsG.add {N : Nat} {w : World} {v u : Value} {M : List EnS} {L : List (Nat × EnS)} {S : List EnS} (h : RsG N w v u M L S) {x : EnS} (hx : EnB w x) {B : Nat} (hl : LowA B x.a) (hv : ∀ k, v.ownBlock = some k → k < B) (hu : ∀ k, u.ownBlock = some k → k < B) : RsG N w v u M L (S ++ [x]) := by
  refine ⟨h.ov, h.ou, h.ap, fun y hy => ?_, fun y hy hn q hq => ?_⟩
  · rcases List.mem_append.1 hy with hy | hy
    · exact h.eb y hy
    · rw [List.mem_singleton.1 hy]; exact hx
  · rcases List.mem_append.1 hy with hy | hy
    · exact h.sv y hy hn q hq
    · rw [List.mem_singleton.1 hy] at hq
      have := hl q hq
      exact ⟨fun e => by have := hv _ e; omega, fun e => by have := hu _ e; omega⟩
theorem RsG.pushV {N : Nat} {w w' : World} {v v' u : Value} {M : List EnS} {L : List (Nat × EnS)} {S : List EnS} (h : RsG N w v u M L S) {x : EnS} (ho : w'.ownsRow N 48 3 v' (M.length + 1) (enC M ++ enV x)) (hg : w.grownBy w' v.ownBlock) (hat : v'.ownBlock = v.ownBlock ∨ v'.ownBlock = some w.heap.size) : RsG N w' v' u (M ++ [x]) L S := by
  refine ⟨by rw [List.length_append, List.length_singleton, enC_snoc]; exact ho, h.ou.kept hg ?_, fun k hk => ?_, fun y hy => enB_grown (h.eb y hy) hg (fun hn q hq => (h.sv y hy hn q hq).1), fun y hy hn q hq => ?_⟩
  · cases hu : u.ownBlock with
    | none => exact .inl rfl
    | some k => exact .inr (fun e => h.ap k e.symm hu)
  · rcases hat with e | e
    · exact h.ap k (e ▸ hk)
    · rw [e] at hk
      cases hk
      exact fun e2 => by have := (h.ou.lt _ e2).2; omega
  · refine ⟨?_, (h.sv y hy hn q hq).2⟩
    rcases hat with e | e
    · rw [e]; exact (h.sv y hy hn q hq).1
    · rw [e]
      have := enB_block (h.eb y hy) hn hq
      intro e2
      have e3 := Option.some.inj e2
      omega
theorem RsG.pushU {N : Nat} {w w' : World} {v u u' : Value} {M : List EnS} {L : List (Nat × EnS)} {S : List EnS} (h : RsG N w v u M L S) {p : Nat × EnS} (ho : w'.ownsRow N 3 1 u' (L.length + 1) (nsC L ++ [.int .i64 (p.1 : Int)])) (hg : w.grownBy w' u.ownBlock) (hat : u'.ownBlock = u.ownBlock ∨ u'.ownBlock = some w.heap.size) : RsG N w' v u' M (L ++ [p]) S := by
  refine ⟨h.ov.kept hg ?_, by rw [List.length_append, List.length_singleton, nsC_snoc]; exact ho, fun k hk => ?_, fun y hy => enB_grown (h.eb y hy) hg (fun hn q hq => (h.sv y hy hn q hq).2), fun y hy hn q hq => ?_⟩
  · cases hv : v.ownBlock with
    | none => exact .inl rfl
    | some k => exact .inr (fun e => h.ap k hv e.symm)
  · rcases hat with e | e
    · rw [e]; exact h.ap k hk
    · rw [e]
      intro e2
      cases e2
      have := (h.ov.lt _ hk).2
      omega
  · refine ⟨(h.sv y hy hn q hq).1, ?_⟩
    rcases hat with e | e
    · rw [e]; exact (h.sv y hy hn q hq).2
    · rw [e]
      have := enB_block (h.eb y hy) hn hq
      intro e2
      have e3 := Option.some.inj e2
      omega
theorem RsG.nil (N : Nat) (w : World) : RsG N w (.slice none 0 0) (.slice none 0 0) [] [] [] := ⟨World.ownsRow_nil _ _ _ _, World.ownsRow_nil _ _ _ _, (fun k hk => by cases hk), (fun x hx => by cases hx), (fun x hx => by cases hx)⟩
/-- the same, with the disk in its box ahead of the rows -/
structure RsW (w X : World) (D : List Value) (v u : Value) (M : List EnS) (L : List (Nat × EnS)) (S : List EnS) : Prop where
  g : RsG (w.heap.size + 1) X v u M L S
  d : BoxV X w.heap.size D
  b : Below w.heap.size w X
theorem RsW.below {w X Y : World} {D : List Value} {v u : Value} {M : List EnS} {L : List (Nat × EnS)} {S : List EnS} (h : RsW w X D v u M L S) (hb : Below X.heap.size X Y) : RsW w Y D v u M L S := ⟨h.g.below hb, h.d.below hb, h.b.trans (hb.mono h.b.size)⟩
theorem RsW.alloc {w X : World} {D : List Value} {v u : Value} {M : List EnS} {L : List (Nat × EnS)} {S : List EnS} (h : RsW w X D v u M L S) (o : Obj) : RsW w (X.alloc o) D v u M L S := h.below ((Below.refl _ _).alloc (Nat.le_refl _) o)
theorem RsW.grow {w X Y : World} {D : List Value} {v u v' : Value} {M : List EnS} {L : List (Nat × EnS)} {S : List EnS} {n size : Nat} {e : TypeId} {xs : List Value} (h : RsW w X D v u M L S) (ho : X.ownsRow (w.heap.size + 1) e size v' n xs) (hg : X.grownBy Y v'.ownBlock) : BoxV Y w.heap.size D ∧ Below w.heap.size w Y := by
  have hne : ∀ k, v'.ownBlock = some k → w.heap.size < k := fun k hk => (ho.lt k hk).1
  refine ⟨h.d.grown hg (fun e => by have := hne _ e; omega), ⟨hg.os.trans h.b.os, hg.tape.trans h.b.tape, hg.output.trans h.b.output, Nat.le_trans h.b.size hg.size, fun i hi => ?_⟩⟩
  refine (hg.block i (Nat.lt_of_lt_of_le hi h.b.size) (fun e => ?_)).trans (h.b.block i hi)
  have := hne i (by first | exact e.symm | exact e)
  omega
theorem RsW.pushV {w X Y : World} {D : List Value} {v u v' : Value} {M : List EnS} {L : List (Nat × EnS)} {S : List EnS} (h : RsW w X D v u M L S) {x : EnS} (ho : Y.ownsRow (w.heap.size + 1) 48 3 v' (M.length + 1) (enC M ++ enV x)) (hg : X.grownBy Y v.ownBlock) (hat : v'.ownBlock = v.ownBlock ∨ v'.ownBlock = some X.heap.size) : RsW w Y D v' u (M ++ [x]) L S :=
  ⟨h.g.pushV ho hg hat, (h.grow h.g.ov hg).1, (h.grow h.g.ov hg).2⟩
theorem RsW.pushU {w X Y : World} {D : List Value} {v u u' : Value} {M : List EnS} {L : List (Nat × EnS)} {S : List EnS} (h : RsW w X D v u M L S) {p : Nat × EnS} (ho : Y.ownsRow (w.heap.size + 1) 3 1 u' (L.length + 1) (nsC L ++ [.int .i64 (p.1 : Int)])) (hg : X.grownBy Y u.ownBlock) (hat : u'.ownBlock = u.ownBlock ∨ u'.ownBlock = some X.heap.size) : RsW w Y D v u' M (L ++ [p]) S :=
  ⟨h.g.pushU ho hg hat, (h.grow h.g.ou hg).1, (h.grow h.g.ou hg).2⟩
theorem mxN_snoc {α : Type} (L : List (Nat × α)) (p : Nat × α) (a : Int) : mxN (L ++ [p]) a = if mxN L a < (p.1 : Int) then (p.1 : Int) else mxN L a := by
  symm
  refine mxN_only ?_ (fun q hq => ?_) ?_
  · have := mxN_ge L a; split <;> omega
  · rcases List.mem_append.1 hq with h | h
    · have := mxN_all a h; split <;> omega
    · rw [List.mem_singleton.1 h]; split <;> omega
  · split
    · exact .inr ⟨p, by simp, rfl⟩
    · rcases mxN_is L a with h | ⟨q, h1, h2⟩
      · exact .inl h
      · exact .inr ⟨q, by simp [h1], h2⟩
theorem mxN_bound {L : List (Nat × EnS)} (hN : ∀ p ∈ L, p.1 ≤ 2147483647) {a : Int} (ha : 0 ≤ a ∧ a ≤ 2147483647) : 0 ≤ mxN L a ∧ mxN L a ≤ 2147483647 := by
  have := mxN_ge L a
  refine ⟨by omega, ?_⟩
  rcases mxN_is L a with h | ⟨q, h1, h2⟩
  · omega
  · have := hN q h1; omega
end Go.Proofs.YtbakgobgjfhhhaaDoor

/- What linenref.LogCell answers. -/
namespace Go.Proofs.YtbakgobgjfhhhaaDoor
open Go.RowKit

def LcA (N : Nat) (w' : World) (k : Nat) (s : List UInt8) (z : Ending) : Prop :=
  ((k < 2 ∨ lgS s = none) ∧ ∃ v : Int, z = .returned (.tuple #[.int .i64 v, .slice none 0 0, .bool false, .bool false])) ∨
  (2 ≤ k ∧ ∃ (n : Nat) (x : EnS), lgS s = some (n, x.bl, x.la) ∧ x.cl = k ∧ z = .returned (.tuple #[.int .i64 (n : Int), .slice x.a x.bl.length x.c, .bool x.la, .bool true]) ∧ EnB w' x ∧ LowA N x.a)
set_option maxRecDepth 20000 in
set_option maxHeartbeats 1600000 in
theorem logcell_any (a0 a1 : Option Addr) (n c m d : Nat) (C : List ByteArray) (P : List Pt) (k : Nat) (w : World) (h : Dk w a0 n a1 m C P) (hk : k < n) :
    Calls Tryd.prog 44 #[.agg #[.slice a0 n c, .slice a1 m d], .int .i64 (k : Int)] w fun z w' => LcA w.heap.size w' k (cel C P k).data.toList z ∧ Below w.heap.size w w' := by
  have hd0 := boxV_new w [.slice a0 n c, .slice a1 m d] 39
  have hb0 := below_boxE (w := w) #[.slice a0 n c, .slice a1 m d] 39
  obtain ⟨W0, hW0⟩ : ∃ W, Hid (w.alloc (.cells #[.slice a0 n c, .slice a1 m d] 39) = W) := ⟨_, Hid.mk' rfl⟩
  have e0 : w.alloc (.cells [.slice a0 n c, .slice a1 m d].toArray 39) = W0 := hW0.out
  rw [e0] at hd0
  rw [hW0.out] at hb0
  have HD0 := Hid.mk' hd0
  have HB0 := Hid.mk' hb0
  have HKw := Hid.mk' h
  have nB := h.nB
  have hsz := h.celB k
  have hrd := Hid.mk' (fun w h => rcel_in a0 a1 n c m d C P k w h hk)
  obtain ⟨S, hS⟩ : ∃ S, Hid (cel C P k = S) := ⟨_, Hid.mk' rfl⟩
  rw [hS.out] at hrd hsz
  rw [hS.out]
  have hop := Hid.mk' (fun w => unseal_any S w hsz)
  obtain ⟨L, hL⟩ : ∃ L, Hid (S.data.toList = L) := ⟨_, Hid.mk' rfl⟩
  rw [hL.out]
  have hn4 : opn4 S.data.toList = opn4 L := by rw [hL.out]
  have HN4 := Hid.mk' hn4
  clear hd0 hb0 e0 h hn4
  have p0 := HD0.out.c 0 _ rfl
  have p1 := HD0.out.c 1 _ rfl
  by_cases hk2 : k < 2
  · have tk : decide ((k : Int) < 2) = true := decide_eq_true (by omega)
    go_enter Tryd.func44, Tryd.ntmps44
    go_wp2_with fail
    rw [hW0.out]
    (try simp only [Exit.inBlock, Exit.then])
    refine bodyPost_ret (results_tmp4 rfl _ _ _) rfl ⟨.inl ⟨.inl hk2, 0, rfl⟩, HB0.out⟩
  have tk : decide ((k : Int) < 2) = false := decide_eq_false (by omega)
  have tn : decide ((n : Int) ≤ (k : Int)) = false := decide_eq_false (by omega)
  have h2k : Hid (2 ≤ k) := by show _ ≤ _; omega
  go_enter Tryd.func44, Tryd.ntmps44
  go_wp2_with fail
  rw [hW0.out]
  go_wp2_with fail
  refine (hrd.out W0 (HKw.out.below HB0.out)).mono ?_
  rintro z w1 ⟨rfl, hb⟩
  have HB1 := Hid.mk' (HB0.out.trans (hb.mono HB0.out.size))
  clear hb p0 p1
  go_wp2_with fail
  refine (hop.out w1).mono ?_
  rintro z w2 ⟨hz, hb⟩
  have hz1 := opn_ans hz
  rw [HN4.out] at hz1
  subst hz1
  have HB2 := Hid.mk' (HB1.out.trans (hb.mono HB1.out.size))
  clear hb hz
  by_cases h0 : opnE L = 0
  rotate_left
  · have ho : opn4 L = ((0, 0), (⟨#[]⟩, opnE L)) := by unfold opn4; rw [if_neg h0]
    have hno : Hid (lgS L = none) := lgS_no (fun h => h0 h.1)
    rw [ho]
    have te : (opnE L != 0) = true := by rw [bne_iff_ne]; exact h0
    obtain ⟨q, hqq⟩ : ∃ q, Hid (opnE L = q) := ⟨_, Hid.mk' rfl⟩
    rw [hqq.out] at te
    rw [hqq.out]
    clear h0 ho
    go_wp2_with fail
    refine bodyPost_ret (results_tmp4 rfl _ _ _) rfl ⟨.inl ⟨.inr hno.out, 0, rfl⟩, HB2.out⟩
  have ho : opn4 L = ((((kiS L : Nat) : Int), ((srS L : Nat) : Int)), (txS (bdS L), 0)) := by unfold opn4; rw [if_pos h0]
  have HO := Hid.mk' h0
  have hbz : (bdS L).length ≤ 1000 := by
    have := (opE_ok h0).1
    rw [bd_len this.1]; omega
  rw [ho]
  obtain ⟨D, hD⟩ : ∃ D, Hid (txS (bdS L) = D) := ⟨_, Hid.mk' rfl⟩
  have hDl : Hid (D.data.toList = bdS L) := by show _ = _; rw [← hD.out, txS_list]
  have hDz : D.size ≤ 1000 := by rw [← hD.out, txS_size]; exact hbz
  obtain ⟨kk, hkk⟩ : ∃ k, Hid (kiS L = k) := ⟨_, Hid.mk' rfl⟩
  obtain ⟨r, hr⟩ : ∃ k, Hid (srS L = k) := ⟨_, Hid.mk' rfl⟩
  rw [hD.out, hkk.out, hr.out]
  clear ho h0 hbz
  by_cases hk1 : kk = 1
  rotate_left
  · have tk1 : ((kk : Int) != 1) = true := by rw [bne_iff_ne]; omega
    have hno : Hid (lgS L = none) := lgS_no (fun h => hk1 (by rw [← hkk.out]; exact h.2))
    clear hk1
    go_wp2_with fail
    refine bodyPost_ret (results_tmp4 rfl _ _ _) rfl ⟨.inl ⟨.inr hno.out, 0, rfl⟩, HB2.out⟩
  subst hk1
  have hbr := Hid.mk' (fun w => unblob_low D w (by omega))
  rw [hDl.out] at hbr
  go_wp2_with fail
  refine (hbr.out w2).mono ?_
  rintro z w3 ⟨hz, hb⟩
  have HB3 := Hid.mk' (HB2.out.trans (hb.mono HB2.out.size))
  clear hb
  rcases hz with ⟨l, b, ao, cap, hrd2, rfl, hbl, hlo⟩ | ⟨hrd2, rfl⟩
  · have hyes : Hid (lgS L = some (r, l, b)) := by show _ = _; rw [lgS_some HO.out hkk.out hrd2, hr.out]
    have HBL := Hid.mk' hbl
    have HLo := Hid.mk' (hlo.mono HB2.out.size)
    clear hrd2 hbl hlo
    go_wp2_with fail
    refine bodyPost_ret (results_tmp4 rfl _ _ _) rfl ⟨.inr ⟨h2k.out, r, ⟨k, l, b, ao, cap⟩, hyes.out, rfl, rfl, HBL.out, HLo.out⟩, HB3.out⟩
  · have hno : Hid (lgS L = none) := lgS_none hrd2
    clear hrd2
    go_wp2_with fail
    refine bodyPost_ret (results_tmp4 rfl _ _ _) rfl ⟨.inl ⟨.inr hno.out, r, rfl⟩, HB3.out⟩
end Go.Proofs.YtbakgobgjfhhhaaDoor
