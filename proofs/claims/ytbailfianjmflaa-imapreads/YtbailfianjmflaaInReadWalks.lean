/- What inode.Read answers. -/
import Derived.Test.YtbailfianjmflaaRNumWalks
import Derived.Test.YtbailfianjmflaaInReadMath
import Derived.Test.YtbailfianjmflaaGrowAt
namespace Go.Proofs.Ytbailfianjmflaa
open Go.RowKit

theorem infoSzIn : (Try.prog.info? 24).map (·.size) = some 4 := by kernel_rfl
theorem aggIn (w : World) : (isAgg 24).run Try.prog w = .ok true w := by
  unfold isAgg
  rw [Sem.run_bind, run_underlying Try.underlying24 w]
  rfl
theorem infoPlR : (Try.prog.info? 26).map (fun i => (i.zero, i.size, i.bytes)) = some (some (.agg #[.int .i64 0, .int .i64 0]), 2, 16) := by kernel_rfl
theorem results_boxV2 {P : Program} {t : TypeId} {fn : Func} {p q : Tmp} (h : fn.results = #[.cell p t, .tmp q]) (tmps : Array Value) (w : World) (g n : Nat) (vs : List Value) (u : Value) (hp : tmps.getD p undef = .pointer (some ⟨g, 0, none⟩)) (hq : tmps.getD q undef = u) (hb : BoxV w g vs) (hn : vs.length = n) (hs : (P.info? t).map (·.size) = some n) (hagg : (isAgg t).run P w = .ok true w) :
    (results fn tmps).run P w = .ok (.tuple #[.agg vs.toArray, u]) w := by
  have hp' : tmps[p]?.getD undef = .pointer (some ⟨g, 0, none⟩) := by simpa using hp
  have hq' : tmps[q]?.getD undef = u := by simpa using hq
  simp [results, h, hp', hq', asAddr, load_boxV hb hn hs hagg]
theorem empty_isP (b : ByteArray) : b.toList.isEmpty = decide (b.size = 0) := by
  rw [ByteArray.toList_eq]
  have h : b.data.toList.length = b.size := by rw [Array.length_toList]; rfl
  rw [← h]
  cases b.data.toList with
  | nil => rfl
  | cons x t => rfl
theorem cells_pl2 (w : World) (p : Pla) (t : TypeId) : ∀ j u, (pl2 p)[j]? = some u → (w.alloc (.cells #[.int .i64 p.cl, .int .i64 p.nh] t)).cell? ((⟨w.heap.size, 0, none⟩ : Addr).add j) = some u := by
  intro j u hj
  have h := (boxV_new w (pl2 p) t).c j u hj
  rw [addR, Nat.zero_add]; exact h
theorem pl2_one (p : Pla) : ∀ u ∈ pl2 p, u.oneCell' = true := by
  intro u hu
  simp only [pl2, List.mem_cons, List.not_mem_nil, or_false] at hu
  rcases hu with rfl | rfl <;> rfl
theorem plaB_rt {p : Pla} (h : rtB p = true) : PlaB p := by
  have := rtB_b h
  exact ⟨⟨by omega, by omega⟩, ⟨by omega, by omega⟩⟩
theorem plaB_rpl (x y : UInt8) : PlaB (rpl x y) := by
  have := x.toNat_lt; have := y.toNat_lt
  exact ⟨⟨by simp only [rpl]; omega, by simp only [rpl]; omega⟩, ⟨by simp only [rpl]; omega, by simp only [rpl]; omega⟩⟩
theorem plaB_prP (l : List UInt8) : ∀ p ∈ prP l, PlaB p := by
  induction l using two_ind with
  | h0 => intro p hp; rw [prP_nil] at hp; cases hp
  | h1 x => intro p hp; rw [prP_one] at hp; cases hp
  | h2 x y t ih =>
    intro p hp
    rw [prP_cons, List.mem_cons] at hp
    rcases hp with rfl | hp
    · exact plaB_rpl x y
    · exact ih p hp
theorem below_set4P {B g : Nat} {w0 w : World} (h : Below B w0 w) (hg : B ≤ g) (x y z u : Value) : Below B w0 ((((w.setCell ⟨g, 0, none⟩ x).setCell ⟨g, 1, none⟩ y).setCell ⟨g, 2, none⟩ z).setCell ⟨g, 3, none⟩ u) := (((h.setCell hg _).setCell hg _).setCell hg _).setCell hg _
theorem pls_own' {w : World} {N : Nat} {n : Nat} {L : List Pla} {ao : Option Addr} {cap : Nat} (h : w.ownsRow N 26 2 (.slice ao n cap) n (plC L)) (hl : L.length = n) (hn : n ≤ 8796093022208) (hb : ∀ b ∈ L, PlaB b) : Pls w ao n cap L := by
  obtain ⟨a, c, e, hp⟩ := pls_own h hl hn hb
  cases e
  exact hp
theorem own_set4P {w : World} {N n g : Nat} {v : Value} {xs : List Value} (h : w.ownsRow N 26 2 v n xs) (hg : g < N) (x y z u : Value) : ((((w.setCell ⟨g, 0, none⟩ x).setCell ⟨g, 1, none⟩ y).setCell ⟨g, 2, none⟩ z).setCell ⟨g, 3, none⟩ u).ownsRow N 26 2 v n xs :=
  ownsRow_setCell_below (ownsRow_setCell_below (ownsRow_setCell_below (ownsRow_setCell_below h (a := ⟨g, 0, none⟩) hg x) (a := ⟨g, 1, none⟩) hg y) (a := ⟨g, 2, none⟩) hg z) (a := ⟨g, 3, none⟩) hg u
def sizeOfS (v : Value) : Nat := match v with
  | .string b => b.size
  | _ => 0
/-- what Read answers -/
def RdInA (w' : World) (s : List UInt8) (e : Ending) : Prop :=
  ∃ a0 c, e = .returned (.tuple #[.agg #[.int .i64 (rdI s).kd, .int .i64 (rdI s).gn, .int .i64 (rdI s).sz, .slice a0 (rdI s).ps.length c], .int .i64 (rdIE s)]) ∧ Pls w' a0 (rdI s).ps.length c (rdI s).ps
theorem rdIn_no {w' : World} {s : List UInt8} {e : Ending} (h : readI s = none) (he : e = .returned (.tuple #[.agg #[.int .i64 0, .int .i64 0, .int .i64 0, .slice none 0 0], .int .i64 4])) : RdInA w' s e := by
  refine ⟨none, 0, ?_, ?_⟩
  · rw [(rdI_no h).1, (rdI_no h).2]; exact he
  · rw [(rdI_no h).1]; exact pls_none w'
theorem rdIn_yes {w' : World} {s : List UInt8} {i : Ino} {e : Ending} {a0 : Option Addr} {n c : Nat} (h : readI s = some i) (he : e = .returned (.tuple #[.agg #[.int .i64 i.kd, .int .i64 i.gn, .int .i64 i.sz, .slice a0 n c], .int .i64 0])) (hn : i.ps.length = n) (hp : Pls w' a0 n c i.ps) : RdInA w' s e := by
  subst hn
  refine ⟨a0, c, ?_, ?_⟩
  · rw [(rdI_yes h).1, (rdI_yes h).2]; exact he
  · rw [(rdI_yes h).1]; exact hp
set_option maxRecDepth 20000 in
set_option maxHeartbeats 6400000 in
theorem iread_any (s : ByteArray) (w : World) (hs : s.size ≤ 140737488355328) :
    Calls Try.prog 15 #[.string s] w fun e w' => RdInA w' s.data.toList e ∧ Below w.heap.size w w' := by
  have hl : Hid (s.data.toList.length = s.size) := by show _ = _; rw [Array.length_toList]; rfl
  have HX := Hid.mk' (boxV_new w [.int .i64 0, .int .i64 0, .int .i64 0, .slice none 0 0] 24)
  have HB := Hid.mk' (below_boxP (w := w) #[.int .i64 0, .int .i64 0, .int .i64 0, .slice none 0 0] 24)
  by_cases h7 : s.size < 7
  · have hn : Hid (readI s.data.toList = none) := readI_short (by rw [hl.out]; exact h7)
    go_enter Try.func15, Try.ntmps15
    go_wp2_with fail
    refine bodyPost_ret (results_boxV2 rfl _ _ w.heap.size 4 _ _ rfl rfl HX.out rfl infoSzIn (aggIn _)) rfl ⟨rdIn_no hn.out rfl, HB.out⟩
  by_cases h23 : 23 < s.size
  · have hn : Hid (readI s.data.toList = none) := readI_long (by rw [hl.out]; exact h23)
    go_enter Try.func15, Try.ntmps15
    go_wp2_with fail
    refine bodyPost_ret (results_boxV2 rfl _ _ w.heap.size 4 _ _ rfl rfl HX.out rfl infoSzIn (aggIn _)) rfl ⟨rdIn_no hn.out rfl, HB.out⟩
  have n7 : ¬ (s.size : Int) < 7 := by omega
  have n23 : ¬ (23 : Int) < (s.size : Int) := by omega
  have h7' : 7 ≤ s.size := by omega
  have h23' : s.size ≤ 23 := by omega
  obtain ⟨s1, hs1⟩ : ∃ r, Hid (s.extract 1 s.size = r) := ⟨_, Hid.mk' rfl⟩
  have l1 : Hid (s1.data.toList = s.data.toList.drop 1) := by show _ = _; rw [← hs1.out, ext_listP]
  have z1 : s1.size = s.size - 1 := by rw [← hs1.out, ext_sizeP]
  obtain ⟨s2, hs2⟩ : ∃ r, Hid (s1.extract 4 s1.size = r) := ⟨_, Hid.mk' rfl⟩
  have l2 : Hid (s2.data.toList = s.data.toList.drop 5) := by show _ = _; rw [← hs2.out, ext_listP, l1.out, List.drop_drop]
  have z2 : s2.size = s.size - 5 := by rw [← hs2.out, ext_sizeP]; omega
  obtain ⟨s3, hs3⟩ : ∃ r, Hid (s2.extract 2 s2.size = r) := ⟨_, Hid.mk' rfl⟩
  have l3 : Hid (s3.data.toList = s.data.toList.drop (7 + 2 * 0)) := by show _ = _; rw [← hs3.out, ext_listP, l2.out, List.drop_drop]
  have z3 : s3.size = s.size - 7 := by rw [← hs3.out, ext_sizeP]; omega
  obtain ⟨kd, hkd⟩ : ∃ u, Hid (unfN (s.data.toList.take 1) = u) := ⟨_, Hid.mk' rfl⟩
  obtain ⟨gn, hgn⟩ : ∃ u, Hid (unfN ((s.data.toList.drop 1).take 4) = u) := ⟨_, Hid.mk' rfl⟩
  obtain ⟨sz, hsz⟩ : ∃ u, Hid (unfN ((s.data.toList.drop 5).take 2) = u) := ⟨_, Hid.mk' rfl⟩
  have R1 : Hid (∀ w : World, Calls Try.prog 36 #[.string s, .int .i64 1] w fun e w' => e = .returned (.tuple #[.int .i64 (kd : Nat), .string s1]) ∧ Below w.heap.size w w') := fun w => by
    have h := rdnumI_any s 1 w (by omega) (by omega) (by omega)
    rw [hkd.out, hs1.out] at h
    exact h
  have R2 : Hid (∀ w : World, Calls Try.prog 36 #[.string s1, .int .i64 4] w fun e w' => e = .returned (.tuple #[.int .i64 (gn : Nat), .string s2]) ∧ Below w.heap.size w w') := fun w => by
    have h := rdnumI_any s1 4 w (by omega) (by omega) (by omega)
    rw [l1.out, hgn.out, hs2.out] at h
    exact h
  have R3 : Hid (∀ w : World, Calls Try.prog 36 #[.string s2, .int .i64 2] w fun e w' => e = .returned (.tuple #[.int .i64 (sz : Nat), .string s3]) ∧ Below w.heap.size w w') := fun w => by
    have h := rdnumI_any s2 2 w (by omega) (by omega) (by omega)
    rw [l2.out, hsz.out, hs3.out] at h
    exact h
  have hpar : Hid (parI s.data.toList = ⟨(kd : Int), (gn : Int), (sz : Int), prP (s.data.toList.drop 7)⟩) := by
    show _ = _
    unfold parI
    rw [hkd.out, hgn.out, hsz.out]
  obtain ⟨L, hL⟩ : ∃ L, Hid (s.data.toList = L) := ⟨_, Hid.mk' rfl⟩
  rw [hL.out] at hl hpar l3 ⊢
  have hxa := HX.out.alloc (.cells #[.int .i64 0, .int .i64 0, .int .i64 0, .slice none 0 0] 24)
  have hga := boxV_new (w.alloc (.cells #[.int .i64 0, .int .i64 0, .int .i64 0, .slice none 0 0] 24)) [.int .i64 0, .int .i64 0, .int .i64 0, .slice none 0 0] 24
  have hba := HB.out.alloc HB.out.size (.cells #[.int .i64 0, .int .i64 0, .int .i64 0, .slice none 0 0] 24)
  have hsza : ((w.alloc (.cells #[.int .i64 0, .int .i64 0, .int .i64 0, .slice none 0 0] 24)).alloc (.cells #[.int .i64 0, .int .i64 0, .int .i64 0, .slice none 0 0] 24)).heap.size = w.heap.size + 2 := by simp
  rw [show (w.alloc (.cells #[.int .i64 0, .int .i64 0, .int .i64 0, .slice none 0 0] 24)).heap.size = w.heap.size + 1 by simp] at hga
  obtain ⟨Wa, hWa⟩ : ∃ W, Hid ((w.alloc (.cells #[.int .i64 0, .int .i64 0, .int .i64 0, .slice none 0 0] 24)).alloc (.cells #[.int .i64 0, .int .i64 0, .int .i64 0, .slice none 0 0] 24) = W) := ⟨_, Hid.mk' rfl⟩
  have HXa : Hid (BoxV Wa w.heap.size [.int .i64 0, .int .i64 0, .int .i64 0, .slice none 0 0]) := by rw [← hWa.out]; exact hxa
  have HGa : Hid (BoxV Wa (w.heap.size + 1) [.int .i64 0, .int .i64 0, .int .i64 0, .slice none 0 0]) := by rw [← hWa.out]; exact hga
  have HBa : Hid (Below w.heap.size w Wa) := by rw [← hWa.out]; exact hba
  rw [hWa.out] at hsza
  have hNa : w.heap.size + 2 ≤ Wa.heap.size := by omega
  obtain ⟨i0, hi, hz0, hz1, hz2⟩ := info_parts infoPlR
  have KI := Hid.mk' hi
  have KZ0 := Hid.mk' hz0
  have KZ1 := Hid.mk' hz1
  have KZ2 := Hid.mk' hz2
  clear hi hz0 hz1 hz2 hxa hga hba HX HB hsza h7 h23
  go_enter Try.func15, Try.ntmps15
  go_wp2_with fail
  rw [hWa.out]
  refine (R1.out _).mono ?_
  rintro e Wb0 ⟨rfl, hb⟩
  have hx := HXa.out.below hb
  have hg := HGa.out.below hb
  have hbb := HBa.out.trans (hb.mono HBa.out.size)
  have hNb : w.heap.size + 2 ≤ Wb0.heap.size := Nat.le_trans hNa hb.size
  have c0 := hg.c 0 _ rfl
  have f0 := hg.f 0 (by simp)
  obtain ⟨Wc, hWc⟩ : ∃ W, Hid (Wb0.setCell ⟨w.heap.size + 1, 0, none⟩ (.int .i64 (kd : Int)) = W) := ⟨_, Hid.mk' rfl⟩
  have HXc : Hid (BoxV Wc w.heap.size [.int .i64 0, .int .i64 0, .int .i64 0, .slice none 0 0]) := by rw [← hWc.out]; exact hx.other _ _ (by show w.heap.size + 1 ≠ w.heap.size; omega)
  have HGc : Hid (BoxV Wc (w.heap.size + 1) [.int .i64 (kd : Int), .int .i64 0, .int .i64 0, .slice none 0 0]) := by rw [← hWc.out]; exact hg.set 0 _ (by simp)
  have HBc : Hid (Below w.heap.size w Wc) := by rw [← hWc.out]; exact hbb.setCell (by show w.heap.size ≤ w.heap.size + 1; omega) _
  have hNc : w.heap.size + 2 ≤ Wc.heap.size := by rw [← hWc.out]; simpa [World.setCell] using hNb
  clear hb hx hg hbb hNb
  go_wp2_with fail
  clear c0 f0
  rw [hWc.out]
  refine (R2.out _).mono ?_
  rintro e Wb1 ⟨rfl, hb⟩
  have hx := HXc.out.below hb
  have hg := HGc.out.below hb
  have hbb := HBc.out.trans (hb.mono HBc.out.size)
  have hNb : w.heap.size + 2 ≤ Wb1.heap.size := Nat.le_trans hNc hb.size
  have c0 := hg.c 1 _ rfl
  have f0 := hg.f 1 (by simp)
  obtain ⟨Wd, hWd⟩ : ∃ W, Hid (Wb1.setCell ⟨w.heap.size + 1, 1, none⟩ (.int .i64 (gn : Int)) = W) := ⟨_, Hid.mk' rfl⟩
  have HXd : Hid (BoxV Wd w.heap.size [.int .i64 0, .int .i64 0, .int .i64 0, .slice none 0 0]) := by rw [← hWd.out]; exact hx.other _ _ (by show w.heap.size + 1 ≠ w.heap.size; omega)
  have HGd : Hid (BoxV Wd (w.heap.size + 1) [.int .i64 (kd : Int), .int .i64 (gn : Int), .int .i64 0, .slice none 0 0]) := by rw [← hWd.out]; exact hg.set 1 _ (by simp)
  have HBd : Hid (Below w.heap.size w Wd) := by rw [← hWd.out]; exact hbb.setCell (by show w.heap.size ≤ w.heap.size + 1; omega) _
  have hNd : w.heap.size + 2 ≤ Wd.heap.size := by rw [← hWd.out]; simpa [World.setCell] using hNb
  clear hb hx hg hbb hNb
  go_wp2_with fail
  clear c0 f0
  rw [hWd.out]
  refine (R3.out _).mono ?_
  rintro e Wb2 ⟨rfl, hb⟩
  have hx := HXd.out.below hb
  have hg := HGd.out.below hb
  have hbb := HBd.out.trans (hb.mono HBd.out.size)
  have hNb : w.heap.size + 2 ≤ Wb2.heap.size := Nat.le_trans hNd hb.size
  have c0 := hg.c 2 _ rfl
  have f0 := hg.f 2 (by simp)
  obtain ⟨We, hWe⟩ : ∃ W, Hid (Wb2.setCell ⟨w.heap.size + 1, 2, none⟩ (.int .i64 (sz : Int)) = W) := ⟨_, Hid.mk' rfl⟩
  have HXe : Hid (BoxV We w.heap.size [.int .i64 0, .int .i64 0, .int .i64 0, .slice none 0 0]) := by rw [← hWe.out]; exact hx.other _ _ (by show w.heap.size + 1 ≠ w.heap.size; omega)
  have HGe : Hid (BoxV We (w.heap.size + 1) [.int .i64 (kd : Int), .int .i64 (gn : Int), .int .i64 (sz : Int), .slice none 0 0]) := by rw [← hWe.out]; exact hg.set 2 _ (by simp)
  have HBe : Hid (Below w.heap.size w We) := by rw [← hWe.out]; exact hbb.setCell (by show w.heap.size ≤ w.heap.size + 1; omega) _
  have hNe : w.heap.size + 2 ≤ We.heap.size := by rw [← hWe.out]; simpa [World.setCell] using hNb
  clear hb hx hg hbb hNb
  go_wp2_with fail
  clear c0 f0
  rw [hWe.out]
  clear hNa hNc hNd
  go_loopw [0] (fun t wr => ∃ (k : Nat) (B : ByteArray) (v : Value), t = .string B ∧ B.data.toList = L.drop (7 + 2 * k) ∧ 7 + 2 * k ≤ s.size ∧ BoxV wr (w.heap.size + 1) [.int .i64 (kd : Int), .int .i64 (gn : Int), .int .i64 (sz : Int), v] ∧ BoxV wr w.heap.size [.int .i64 0, .int .i64 0, .int .i64 0, .slice none 0 0] ∧ wr.ownsRow (w.heap.size + 2) 26 2 v k (plC (frP L k)) ∧ w.heap.size + 2 ≤ wr.heap.size ∧ Below w.heap.size w wr) (fun t _ => sizeOfS t)
  case atStart => exact ⟨0, s3, _, rfl, l3.out, by omega, HGe.out, HXe.out, World.ownsRow_nil _ _ _ _, hNe, HBe.out⟩
  case round =>
    obtain ⟨k, B, v, rfl, hBl, hk7, hG, hX, hO, hN, hB⟩ := hrel
    have HBl := Hid.mk' hBl
    have HG := Hid.mk' hG
    have HX := Hid.mk' hX
    have HO := Hid.mk' hO
    have HB := Hid.mk' hB
    have hBz : B.size = s.size - (7 + 2 * k) := by
      have e : B.data.toList.length = B.size := by rw [Array.length_toList]; rfl
      rw [← e, hBl, List.length_drop, hl.out]
    clear hBl hG hX hO hB
    by_cases hend : s.size = 7 + 2 * k
    rotate_left
    · have te : B.toList.isEmpty = false := by rw [empty_isP]; exact decide_eq_false (by omega)
      go_wp2_with fail
      refine (rdplace_any B wr (by omega)).mono ?_
      rintro e w1 ⟨hrp, hb⟩
      have HG1 := Hid.mk' (HG.out.below hb)
      have HX1 := Hid.mk' (HX.out.below hb)
      have HO1 := Hid.mk' (own_below HO.out hb)
      have HB1 := Hid.mk' (HB.out.trans (hb.mono HB.out.size))
      have hN1 : w.heap.size + 2 ≤ w1.heap.size := Nat.le_trans hN hb.size
      clear hb
      rcases hrp with ⟨x, y, r, htl, hrt, rfl⟩ | ⟨hbad, rfl⟩
      · rw [HBl.out] at htl
        have HNx := Hid.mk' (frP_next htl)
        have hrl : Hid (r.data.toList = L.drop (7 + 2 * (k + 1))) := by
          show _ = _
          have e := congrArg (List.drop 2) htl
          rw [List.drop_drop] at e
          exact e.symm
        have hk9 : 7 + 2 * (k + 1) ≤ s.size := by
          have e := congrArg List.length htl
          rw [List.length_drop, hl.out] at e
          simp only [List.length_cons] at e
          omega
        have hrz : r.size = s.size - (7 + 2 * (k + 1)) := by
          have e : r.data.toList.length = r.size := by rw [Array.length_toList]; rfl
          rw [← e, hrl.out, List.length_drop, hl.out]
        obtain ⟨p, hp⟩ : ∃ p, Hid (rpl x y = p) := ⟨_, Hid.mk' rfl⟩
        have ep : (⟨(x.toNat : Int), (y.toNat : Int)⟩ : Pla) = p := hp.out
        rw [hp.out] at HNx hrt
        have ex : (x.toNat : Int) = p.cl := by rw [← ep]
        have ey : (y.toNat : Int) = p.nh := by rw [← ep]
        rw [ex, ey]
        obtain ⟨pc, pn⟩ := p
        simp only at *
        clear ex ey ep htl hrt
        have hga := HG1.out.alloc (.cells #[.int .i64 pc, .int .i64 pn] 26)
        have hgb := hga.alloc (.cells #[.int .i64 pc, .int .i64 pn] 26)
        have hxb := (HX1.out.alloc (.cells #[.int .i64 pc, .int .i64 pn] 26)).alloc (.cells #[.int .i64 pc, .int .i64 pn] 26)
        have hob := (HO1.out.alloc (.cells #[.int .i64 pc, .int .i64 pn] 26)).alloc (.cells #[.int .i64 pc, .int .i64 pn] 26)
        have hbb := (HB1.out.alloc HB1.out.size (.cells #[.int .i64 pc, .int .i64 pn] 26)).alloc (by simp; omega) (.cells #[.int .i64 pc, .int .i64 pn] 26)
        have hcc := cells_pl2 (w1.alloc (.cells #[.int .i64 pc, .int .i64 pn] 26)) ⟨pc, pn⟩ 26
        have hsa : (w1.alloc (.cells #[.int .i64 pc, .int .i64 pn] 26)).heap.size = w1.heap.size + 1 := by simp
        rw [hsa] at hcc
        have hgc := hga.c 3 _ rfl
        have hnG : Hid (v.ownBlock ≠ some (w.heap.size + 1)) := fun h => by have := (HO1.out.lt _ h).1; omega
        have hnX : Hid (v.ownBlock ≠ some w.heap.size) := fun h => by have := (HO1.out.lt _ h).1; omega
        obtain ⟨ao, cap, hvs⟩ := own_slice' HO1.out
        subst hvs
        have HGb := Hid.mk' hgb
        have HXb := Hid.mk' hxb
        have HOb := Hid.mk' hob
        have HBb := Hid.mk' hbb
        have HCc := Hid.mk' hcc
        clear hga hgb hxb hob hbb hcc
        go_wp2_with (at_builtin; refine wpList_append_own _ rfl (.tmp 47) (.tmp 49) 22 rfl (w.heap.size + 2) 26 i0 (.agg #[.int .i64 0, .int .i64 0]) 2 16 Try.underlying22 KI.out KZ0.out KZ1.out KZ2.out rfl (by decide) _ _ _ rfl HOb.out ⟨w1.heap.size + 1, 0, none⟩ 1 1 (pl2 ⟨pc, pn⟩) rfl rfl HCc.out (pl2_one _) (by unfold maxLen; omega) (by omega) (by simp; omega) ?_; intro v2 w2 hown2 hgrow2 _; obtain ⟨ao2, cap2, hv2⟩ := own_slice' hown2; subst hv2; have HG2 := Hid.mk' (HGb.out.grown hgrow2 hnG.out); have c3 := HG2.out.c 3 _ rfl; have f3 := HG2.out.f 3 (by simp))
        have HX2 := Hid.mk' (HXb.out.grown hgrow2 hnX.out)
        have HB2 := Hid.mk' (HBb.out.grown hgrow2 (by simp; omega) fun i hi => by have := (HOb.out.lt i hi).1; omega)
        have hz2 := hgrow2.size
        have HO2 : Hid (w2.ownsRow (w.heap.size + 2) 26 2 (.slice ao2 (k + 1) cap2) (k + 1) (plC (frP L (k + 1)))) := by
          show World.ownsRow _ _ _ _ _ _ _
          rw [HNx.out, plC_snoc]; exact hown2
        have hN2 : w.heap.size + 2 ≤ w2.heap.size := by simp at hz2; omega
        clear hown2 hgrow2 hz2
        have HG3 := HG2.out.set 3 (.slice ao2 (k + 1) cap2) (by simp)
        have HX3 := HX2.out.other ⟨w.heap.size + 1, 3, none⟩ (.slice ao2 (k + 1) cap2) (by show w.heap.size + 1 ≠ w.heap.size; omega)
        have HB3 : Below w.heap.size w (w2.setCell ⟨w.heap.size + 1, 3, none⟩ (.slice ao2 (k + 1) cap2)) := HB2.out.setCell (by show w.heap.size ≤ w.heap.size + 1; omega) _
        have HO3 := ownsRow_setCell_below HO2.out (a := ⟨w.heap.size + 1, 3, none⟩) (by show w.heap.size + 1 < w.heap.size + 2; omega) (.slice ao2 (k + 1) cap2)
        have hz3 : w.heap.size + 2 ≤ (w2.setCell ⟨w.heap.size + 1, 3, none⟩ (.slice ao2 (k + 1) cap2)).heap.size := by simpa [World.setCell] using hN2
        clear HG2 HX2 HB2 HO2 hN2
        go_wp2_with fail
        go_roundw
        case rel => exact ⟨k + 1, r, _, rfl, hrl.out, hk9, HG3, HX3, HO3, hz3, HB3⟩
        case measure => simp [sizeOfS]; omega
      · have hn : Hid (readI L = none) := readI_bad (k := k) (by rw [hl.out]; omega) (fun x y r h => hbad x y r (by rw [HBl.out]; exact h))
        have hxa := HX1.out.alloc (.cells #[.int .i64 0, .int .i64 0] 26)
        have hba := HB1.out.alloc HB1.out.size (.cells #[.int .i64 0, .int .i64 0] 26)
        have d0 := hxa.c 0 _ rfl
        have d1 := hxa.c 1 _ rfl
        have d2 := hxa.c 2 _ rfl
        have d3 := hxa.c 3 _ rfl
        have f0 := hxa.f 0 (by simp)
        have f1 := hxa.f 1 (by simp)
        have f2 := hxa.f 2 (by simp)
        have f3 := hxa.f 3 (by simp)
        have HXX := Hid.mk' (hxa.set4 (.int .i64 0) (.int .i64 0) (.int .i64 0) (.slice none 0 0))
        have HBX := Hid.mk' (below_set4P hba (Nat.le_refl _) (.int .i64 0) (.int .i64 0) (.int .i64 0) (.slice none 0 0))
        clear hxa hba
        go_wp2_with fail
        refine bodyPost_ret (results_boxV2 rfl _ _ w.heap.size 4 _ _ rfl rfl HXX.out rfl infoSzIn (aggIn _)) rfl ⟨rdIn_no hn.out rfl, HBX.out⟩
    · have te : B.toList.isEmpty = true := by rw [empty_isP]; exact decide_eq_true (by omega)
      have hle : L.length = 7 + 2 * k := by rw [hl.out, hend]
      have hfr := frP_all hle
      rw [hpar.out] at hfr
      simp only at hfr
      have hre := Hid.mk' (readI_end hle)
      have HGw := HG.out
      have e0 := HGw.c 0 _ rfl
      have e1 := HGw.c 1 _ rfl
      have e2 := HGw.c 2 _ rfl
      have e3 := HGw.c 3 _ rfl
      have hk8 : k ≤ 8 := by omega
      have hfl : Hid ((frP L k).length = k) := frP_len (by omega)
      obtain ⟨ao, cap, hvs, HP⟩ := pls_own HO.out hfl.out (by omega) (plaB_prP _)
      have HP := Hid.mk' HP
      subst hvs
      obtain ⟨I, hI⟩ : ∃ I : Ino, Hid (parI L = I) := ⟨_, Hid.mk' rfl⟩
      have hII : I = ⟨(kd : Int), (gn : Int), (sz : Int), frP L k⟩ := by rw [← hI.out, hpar.out, hfr]
      obtain ⟨q, hq⟩ : ∃ q, Hid (chkI I = q) := ⟨_, Hid.mk' rfl⟩
      have hchk := Hid.mk' (fun w h => icheck_any I ao k cap w h)
      rw [hq.out, hII] at hchk
      simp only at hchk
      rw [hI.out, hq.out] at hre
      clear hle hfr HGw
      go_wp2_with fail
      refine (hchk.out wr HP.out).mono ?_
      rintro e w1 ⟨rfl, hb⟩
      have HGw := HG.out.below hb
      have HXw := HX.out.below hb
      have HO1 := Hid.mk' (own_below HO.out hb)
      have HB1 := Hid.mk' (HB.out.trans (hb.mono HB.out.size))
      have e0 := HGw.c 0 _ rfl
      have e1 := HGw.c 1 _ rfl
      have e2 := HGw.c 2 _ rfl
      have e3 := HGw.c 3 _ rfl
      have d0 := HXw.c 0 _ rfl
      have d1 := HXw.c 1 _ rfl
      have d2 := HXw.c 2 _ rfl
      have d3 := HXw.c 3 _ rfl
      have f0 := HXw.f 0 (by simp)
      have f1 := HXw.f 1 (by simp)
      have f2 := HXw.f 2 (by simp)
      have f3 := HXw.f 3 (by simp)
      have HXX := Hid.mk' (fun a b c d => HXw.set4 a b c d)
      have HBX := Hid.mk' (fun a b c d => below_set4P HB1.out (Nat.le_refl _) a b c d)
      clear hb HGw HXw
      by_cases h0 : q = 0
      · subst h0
        have hyes : Hid (readI L = some I) := by show _ = _; rw [hre.out, if_pos rfl]
        go_wp2_with fail
        refine bodyPost_ret (results_boxV2 rfl _ _ w.heap.size 4 _ _ rfl rfl (HXX.out (.int .i64 kd) (.int .i64 gn) (.int .i64 sz) (.slice ao k cap)) rfl infoSzIn (aggIn _)) rfl ⟨rdIn_yes (a0 := ao) (n := k) (c := cap) hyes.out ?_ ?_ ?_, HBX.out _ _ _ _⟩
        · rw [hII]; rfl
        · rw [hII]; exact hfl.out
        · rw [hII]; exact pls_own' (own_set4P HO1.out (by omega) _ _ _ _) hfl.out (by omega) (plaB_prP _)
      · have tq : (q != 0) = true := by rw [bne_iff_ne]; exact h0
        have hno : Hid (readI L = none) := by show _ = _; rw [hre.out, if_neg h0]
        clear h0
        go_wp2_with fail
        refine bodyPost_ret (results_boxV2 rfl _ _ w.heap.size 4 _ _ rfl rfl (HXX.out (.int .i64 0) (.int .i64 0) (.int .i64 0) (.slice none 0 0)) rfl infoSzIn (aggIn _)) rfl ⟨rdIn_no hno.out rfl, HBX.out _ _ _ _⟩
end Go.Proofs.Ytbailfianjmflaa
