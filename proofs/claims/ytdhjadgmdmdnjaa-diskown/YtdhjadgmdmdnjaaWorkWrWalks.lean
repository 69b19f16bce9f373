/- What disk.Work's Write does. -/
import Derived.Test.YtdhjadgmdmdnjaaCopyDkWalks
import Derived.Test.YtdhjadgmdmdnjaaDiskChkWalks
import Derived.Test.YtdhjadgmdmdnjaaGrowAt
namespace Go.Proofs.Ytdhjadgmdmdnjaa
open Go.RowKit

/-- what a write to a disk answers, where m wait -/
def wrtE (n m : Nat) (p : Pt) : Int := if putE n p = 0 then (if 400 ≤ m then 9 else 0) else putE n p
theorem cells_pt2 (w : World) (p : Pt) (t : TypeId) : ∀ j u, (pt2 p)[j]? = some u → (w.alloc (.cells #[.int .i64 p.pl, .string p.tx] t)).cell? ((⟨w.heap.size, 0, none⟩ : Addr).add j) = some u := by
  intro j u hj
  rw [addR, Nat.zero_add, World.cell?_alloc_new]
  match j with
  | 0 => exact hj
  | 1 => exact hj
  | j + 2 => simp [pt2] at hj
theorem pt2_one (p : Pt) : ∀ u ∈ pt2 p, u.oneCell' = true := by
  intro u hu
  simp only [pt2, List.mem_cons, List.not_mem_nil, or_false] at hu
  rcases hu with rfl | rfl <;> rfl
/-- behind an append to the writes that wait: the block of the two slices is as it was, and once the new slice is stored the disk has one write more -/
theorem apart_grown2 {w w' : World} {N n m s1 s2 : Nat} {e1 e2 : TypeId} {u v v' : Value} {xs ys : List Value} (h : Apart u v) (hu : w.ownsRow N e1 s1 u n xs) (_hv : w.ownsRow N e2 s2 v m ys) (_hg : w.grownBy w' v.ownBlock) (hat : v'.ownBlock = v.ownBlock ∨ v'.ownBlock = some w.heap.size) : Apart u v' := by
  rcases h with h | h
  · exact .inl h
  · refine .inr fun he => ?_
    rcases hat with h1 | h1
    · exact h (he.trans h1)
    · have := (hu.lt w.heap.size (he.trans h1)).2
      omega
theorem app_wdk {w w' : World} {N g m : Nat} {u v v' : Value} {C : List ByteArray} {P : List Pt} {p : Pt} (h : WDk w N g u v C P) (hm : P.length = m) (hown : w'.ownsRow N 46 2 v' (m + 1) (ptC P ++ pt2 p)) (hg : w.grownBy w' v.ownBlock) (hat : v'.ownBlock = v.ownBlock ∨ v'.ownBlock = some w.heap.size) :
    Box2 w' g u v ∧ WDk (w'.setCell ⟨g, 1, none⟩ v') N g u v' C (P ++ [p]) := by
  have hb : Box2 w' g u v := h.bx.of_block hg.size (hg.block g h.bx.lt (Ne.symm h.a2))
  have hlt := h.bx.lt
  have hv2 : v'.ownBlock ≠ some g := by
    rcases hat with e | e
    · rw [e]; exact h.a2
    · rw [e]; intro e2; cases e2; omega
  have hset : w'.grownBy (w'.setCell ⟨g, 1, none⟩ v') (some g) := ⟨rfl, rfl, rfl, by simp [World.setCell], fun q _ hq => heap_setCell_other _ _ _ _ (by intro e; exact hq (by simp [e]))⟩
  refine ⟨hb, hb.set1 v', h.gN, ⟨?_, ?_, ?_⟩, h.a1, hv2⟩
  · have h1 : w'.ownsRow N 9 1 u C.length (stC C) := h.ow.rc.kept hg (by
      rcases h.ow.ap with e | e
      · exact .inl e
      · exact .inr e)
    exact h1.kept hset (.inr h.a1)
  · have h1 := hown.kept hset (.inr hv2)
    rw [ptC_snoc, List.length_append, hm]; exact h1
  · exact apart_grown2 h.ow.ap h.ow.rc h.ow.rp hg hat
theorem app_below {w0 w w' : World} {N g : Nat} {u v : Value} {C : List ByteArray} {P : List Pt} (hb : Below N w0 w) (h : WDk w N g u v C P) (hg : w.grownBy w' v.ownBlock) : Below N w0 w' :=
  hb.grown hg (by have := h.gN; have := h.bx.lt; omega) fun j hj => (h.ow.rp.lt j hj).1
def WrtOk (n m : Nat) (p : Pt) (q : Int) : Prop := wrtE n m p = q
set_option maxRecDepth 20000 in
set_option maxHeartbeats 1600000 in
theorem wwrite_any (N g : Nat) (u v : Value) (C : List ByteArray) (P : List Pt) (x : Int) (s : ByteArray) (w : World) (h : WDk w N g u v C P) (hC : C.length ≤ 128) (hP : P.length ≤ 400) (hs : s.size ≤ 140737488355328) :
    Calls Try.prog 44 #[.pointer (some ⟨g, 0, none⟩), .int .i64 x, .string s] w fun e w' => ((∃ v', e = .returned (.int .i64 0) ∧ WrtOk C.length P.length ⟨x, s⟩ 0 ∧ WDk w' N g u v' C (P ++ [⟨x, s⟩])) ∨ (∃ q, e = .returned (.int .i64 q) ∧ WrtOk C.length P.length ⟨x, s⟩ q ∧ q ≠ 0 ∧ WDk w' N g u v C P)) ∧ Below N w w' := by
  obtain ⟨⟨a0, c, rfl⟩, a1, d, rfl⟩ := h.shapes
  obtain ⟨n, hn⟩ : ∃ n, Hid (C.length = n) := ⟨_, Hid.mk' rfl⟩
  obtain ⟨m, hm⟩ : ∃ m, Hid (P.length = m) := ⟨_, Hid.mk' rfl⟩
  rw [hn.out, hm.out]
  rw [hn.out] at hC
  rw [hm.out] at hP
  obtain ⟨i0, hi, hz0, hz1', hz2⟩ := info_parts infoPt
  have KI := Hid.mk' hi
  have KZ0 := Hid.mk' hz0
  have KZ1 := Hid.mk' hz1'
  have KZ2 := Hid.mk' hz2
  clear hi hz0 hz1' hz2
  have HW := Hid.mk' h
  have hgw : g < w.heap.size := h.bx.lt
  have hNg := h.gN
  clear h
  rw [hn.out, hm.out] at HW
  have hcase : Hid (wrtE n m ⟨x, s⟩ = if putE n ⟨x, s⟩ = 0 then (if 400 ≤ m then 9 else 0) else putE n ⟨x, s⟩) := Hid.mk' rfl
  have hpc := putE_cases n ⟨x, s⟩
  have HW1 := Hid.mk' (HW.out.alloc (.cells #[.int .i64 x, .string s] 46))
  have HX1 := Hid.mk' (box2_new w (.int .i64 x) (.string s) 46)
  have HB1 : Hid (Below N w (w.alloc (.cells #[.int .i64 x, .string s] 46))) := ((Below.refl _ w).mono (by omega)).alloc (by omega) _
  have hz1 : Hid (w.heap.size + 1 = (w.alloc (.cells #[.int .i64 x, .string s] 46)).heap.size) := by show _ = _; simp
  go_enter Try.func44, Try.ntmps44
  go_upto_region 2 with fail
  obtain ⟨W1, hW1⟩ : ∃ W, Hid (w.alloc (.cells #[.int .i64 x, .string s] 46) = W) := ⟨_, Hid.mk' rfl⟩
  rw [hW1.out] at HW1 HX1 HB1 hz1 ⊢
  have k0 := HW1.out.bx.c0
  have k1 := HW1.out.bx.c1
  have k2 := HX1.out.c0
  have k3 := HX1.out.c1
  have hNW : N ≤ W1.heap.size := by have := hz1.out; omega
  go_region_held3 (fun X => X.cell? ⟨g, 0, none⟩ = some (.slice a0 n c) ∧ X.cell? ⟨g, 1, none⟩ = some (.slice a1 m d) ∧ X.cell? ⟨w.heap.size, 0, none⟩ = some (.int .i64 x) ∧ X.cell? ⟨w.heap.size, 1, none⟩ = some (.string s)) (first | exact ⟨k0, k1, k2, k3⟩ | exact ⟨j0, j1, j2, j3⟩) ((go_at_call 54; refine (cput_any a0 a1 n c m d ⟨x, s⟩ _ (by omega)).mono ?_; rintro e w2 ⟨rfl, hb2⟩; have HW2 := Hid.mk' (HW1.out.drew.below hb2); have HX2 := Hid.mk' (HX1.out.drew.below hb2); have j0 := HW2.out.bx.c0; have j1 := HW2.out.bx.c1; have j2 := HX2.out.c0; have j3 := HX2.out.c1; have HB2 := Hid.mk' (HB1.out.drew.trans (hb2.mono (by exact hNW))); clear hb2))
  generalize putE n ⟨x, s⟩ = q at *
  clear k0 k1 k2 k3
  by_cases h0 : q = 0
  · subst h0
    by_cases h4 : 400 ≤ m
    · have t4 : decide ((400 : Int) ≤ (m : Int)) = true := decide_eq_true (by omega)
      have hw : Hid (wrtE n m ⟨x, s⟩ = 9) := by show _ = _; rw [hcase.out, if_pos rfl, if_pos h4]
      clear h4 hcase hpc
      go_wp2_with fail
      go_ret
      exact ⟨.inr ⟨_, rfl, hw.out, by decide, HW2.out⟩, HB2.out⟩
    · have h4' : m < 400 := by omega
      have hw : Hid (wrtE n m ⟨x, s⟩ = 0) := by show _ = _; rw [hcase.out, if_pos rfl, if_neg h4]
      clear h4 hcase hpc
      go_wp2_with fail
      have w0 := HW2.out.bx.f1
      have hgN : N ≤ w2.heap.size := by have := HW2.out.bx.lt; omega
      go_region_law (first
        | (go_simp; go_at_call 55; refine (coput_any x s _ hs).mono ?_; rintro e w3 ⟨rfl, hb3⟩; have HW3 := Hid.mk' (HW2.out.drew.below hb3); have HB3 := Hid.mk' (HB2.out.drew.trans (hb3.mono hgN)); have l1 := HW3.out.bx.c1; have l2 := (HW3.out.alloc (.cells #[.int .i64 x, .string s] 46)).bx.c1; have hg3 : N ≤ w3.heap.size := Nat.le_trans hgN hb3.size; clear hb3)
        | (refine step_append_at rfl (.tmp 33) (.tmp 36) 23 rfl N 46 i0 (.agg #[.int .i64 0, .string ⟨#[]⟩]) 2 24 Try.underlying23 KI.out KZ0.out KZ1.out KZ2.out rfl (by decide) (.slice a1 m d) m (ptC P) rfl (by have h := (HW3.out.alloc (.cells #[.int .i64 x, .string s] 46)).ow.rp; rw [hm.out] at h; exact h) ⟨w3.heap.size, 0, none⟩ 1 1 (pt2 ⟨x, s⟩) rfl rfl (cells_pt2 w3 ⟨x, s⟩ _) (pt2_one _) (by unfold maxLen; omega) (by omega) (by simp; omega) ?_; intro v' w4 hown4 hgrow4 hat4; obtain ⟨a3, c3, rfl⟩ := own_slice' hown4; have HX4 := Hid.mk' (app_wdk (HW3.out.alloc (.cells #[.int .i64 x, .string s] 46)) hm.out hown4 hgrow4 hat4); have HB4 := Hid.mk' (app_below (HB3.out.alloc hg3 (.cells #[.int .i64 x, .string s] 46)) (HW3.out.alloc (.cells #[.int .i64 x, .string s] 46)) hgrow4); have n1 := HX4.out.1.c1; have n2 := HX4.out.1.f1; clear hown4 hgrow4 hat4)
        | fail)
      all_goals
        go_wp2_with fail
        go_ret
        exact ⟨.inl ⟨_, rfl, hw.out, HX4.out.2⟩, HB4.out.setCell hNg _⟩
  · have tq : (q != 0) = true := by rw [bne_iff_ne]; exact h0
    have hw : Hid (wrtE n m ⟨x, s⟩ = q) := by show _ = _; rw [hcase.out, if_neg h0]
    have hq0 : 0 ≤ q ∧ q ≤ 2 := by omega
    clear hpc hcase
    go_wp2_with fail
    go_ret
    exact ⟨.inr ⟨_, rfl, hw.out, h0, HW2.out⟩, HB2.out⟩
end Go.Proofs.Ytdhjadgmdmdnjaa
