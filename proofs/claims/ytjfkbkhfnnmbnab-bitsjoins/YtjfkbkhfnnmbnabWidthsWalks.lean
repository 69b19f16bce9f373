/- What linenkeep.widths answers. -/
import Derived.Test.YtjfkbkhfnnmbnabPackWalks
import Derived.Test.YtjfkbkhfnnmbnabUnpackWalks
import Derived.Test.YtjfkbkhfnnmbnabGrow
namespace Go.Proofs.Ytjfkbkhfnnmbnab
open Go.RowKit

theorem infoInt2 : (Try.prog.info? 3).map (fun i => (i.zero, i.size, i.bytes)) = some (some (.int .i64 0), 1, 8) := by kernel_rfl
def cellsW (W : Nat → Int) (k : Nat) : List Value := (List.range k).map fun i => .int .i64 (W i)
def cellsV (V : Nat → Nat) (k : Nat) : List Value := (List.range k).map fun i => .int .u64 (V i : Int)
theorem cellsW_succ (W : Nat → Int) (k : Nat) : cellsW W (k + 1) = cellsW W k ++ [.int .i64 (W k)] := by simp [cellsW, List.range_succ]
theorem cellsV_succ (V : Nat → Nat) (k : Nat) : cellsV V (k + 1) = cellsV V k ++ [.int .u64 (V k : Int)] := by simp [cellsV, List.range_succ]

theorem own_ne {w : World} {N e1 e2 n1 n2 : Nat} {v1 v2 : Value} {x1 x2 : List Value} (h1 : w.ownsRow N e1 1 v1 n1 x1) (h2 : w.ownsRow N e2 1 v2 n2 x2) (hne : e1 ≠ e2) : v1.ownBlock = none ∨ v1.ownBlock ≠ v2.ownBlock := by
  rcases h1.2 with ⟨rfl, _⟩ | ⟨g, cap, cur, rfl, _, hg, _⟩
  · exact .inl rfl
  · refine .inr ?_
    rcases h2.2 with ⟨rfl, _⟩ | ⟨g', cap', cur', rfl, _, hg', _⟩
    · intro h; cases h
    · intro h
      simp only [Value.ownBlock, Option.some.injEq] at h
      subst h
      rw [hg] at hg'
      simp only [Option.some.injEq, Obj.cells.injEq] at hg'
      exact hne hg'.2.1
theorem keep2 {T w1 : World} {N e1 e2 n1 n2 : Nat} {v1 v2 : Value} {x1 x2 : List Value} (h2 : T.ownsRow N e2 1 v2 n2 x2) (h1 : T.ownsRow N e1 1 v1 n1 x1) (hne : e2 ≠ e1) (hg : T.grownBy w1 v1.ownBlock) : w1.ownsRow N e2 1 v2 n2 x2 :=
  h2.kept hg (own_ne h2 h1 hne)
theorem after1 {wr T w1 : World} {N e k : Nat} {v : Value} {xs : List Value} (hg : T.grownBy w1 v.ownBlock) (hown : wr.ownsRow N e 1 v k xs) : ∀ b o, wr.heap.size ≤ b → b < T.heap.size → w1.cell? ⟨b, o, none⟩ = T.cell? ⟨b, o, none⟩ := by
  intro b o h1 h2
  refine World.cell?_of_block (a := ⟨b, o, none⟩) (hg.block b h2 ?_)
  intro h
  have := (hown.lt b h.symm).2
  omega
theorem below1 {w wr T w1 : World} {N e k : Nat} {v : Value} {xs : List Value} (hb : Below N w T) (hg : T.grownBy w1 v.ownBlock) (hown : wr.ownsRow N e 1 v k xs) (hN : N ≤ T.heap.size) : Below N w w1 :=
  hb.grown hg hN fun j hj => (hown.lt j hj).1
theorem one_cell {w : World} {b : Nat} {v : Value} (h : w.cell? ⟨b, 0, none⟩ = some v) : ∀ j u, [v][j]? = some u → w.cell? ((⟨b, 0, none⟩ : Addr).add j) = some u := by
  intro j u hj
  match j, hj with
  | 0, hj => simp at hj; subst hj; simpa [Addr.add] using h
theorem s1 (w : World) (o : Obj) (v : Value) (t : TypeId) : ((w.alloc o).alloc (.cells #[v] t)).cell? ⟨w.heap.size + 1, 0, none⟩ = some v := by
  simp
theorem s2 (w : World) (o p : Obj) (v : Value) (t : TypeId) : (((w.alloc o).alloc (.cells #[v] t)).alloc p).cell? ⟨w.heap.size + 1, 0, none⟩ = some v := by
  exact (World.cell?_alloc_lt (w := (w.alloc o).alloc (.cells #[v] t)) (o := p) (a := ⟨w.heap.size + 1, 0, none⟩) (by simp)).trans (s1 w o v t)
theorem s3 (w : World) (o p : Obj) (v : Value) (t : TypeId) : (((w.alloc o).alloc p).alloc (.cells #[v] t)).cell? ⟨w.heap.size + 1 + 1, 0, none⟩ = some v := by
  have h := World.cell?_alloc_new ((w.alloc o).alloc p) #[v] t 0
  simpa using h

theorem below_a2 {w wr : World} {N : Nat} (hb : Below N w wr) (hN : N ≤ wr.heap.size) (o p : Obj) : Below N w ((wr.alloc o).alloc p) ∧ N ≤ ((wr.alloc o).alloc p).heap.size :=
  ⟨(hb.alloc hN o).alloc (by simp; omega) p, by simp; omega⟩
theorem below_a3 {w wr : World} {N : Nat} (hb : Below N w wr) (hN : N ≤ wr.heap.size) (o p q : Obj) : Below N w (((wr.alloc o).alloc p).alloc q) ∧ N ≤ (((wr.alloc o).alloc p).alloc q).heap.size :=
  ⟨(below_a2 hb hN o p).1.alloc (below_a2 hb hN o p).2 q, by simp; omega⟩
theorem box2 (w : World) (a b : Value) (t : TypeId) (p : Obj) : w.heap.size < ((w.alloc (.cells #[a, b] t)).alloc p).heap.size ∧ ((w.alloc (.cells #[a, b] t)).alloc p).cell? ⟨w.heap.size, 0, none⟩ = some a :=
  ⟨by simp; omega, (World.cell?_alloc_lt (w := w.alloc (.cells #[a, b] t)) (o := p) (a := ⟨w.heap.size, 0, none⟩) (by simp)).trans (by simp)⟩
theorem box3 (w : World) (a b : Value) (t : TypeId) (p q : Obj) : w.heap.size < (((w.alloc (.cells #[a, b] t)).alloc p).alloc q).heap.size ∧ (((w.alloc (.cells #[a, b] t)).alloc p).alloc q).cell? ⟨w.heap.size, 0, none⟩ = some a :=
  ⟨by simp; omega, (World.cell?_alloc_lt (w := (w.alloc (.cells #[a, b] t)).alloc p) (o := q) (a := ⟨w.heap.size, 0, none⟩) (by simp; omega)).trans (box2 w a b t p).2⟩
theorem cell_after {wr T w1 : World} {N e k : Nat} {v x : Value} {xs : List Value} (hg : T.grownBy w1 v.ownBlock) (hown : wr.ownsRow N e 1 v k xs) (hT : wr.heap.size < T.heap.size ∧ T.cell? ⟨wr.heap.size, 0, none⟩ = some x) : w1.cell? ⟨wr.heap.size, 0, none⟩ = some x :=
  (after1 hg hown wr.heap.size 0 (Nat.le_refl _) hT.1).trans hT.2
theorem below_d2 {w wr : World} {N : Nat} (hb : Below N w wr) (hN : N ≤ wr.heap.size) (o p : Obj) : Below N w ((wr.alloc o).alloc p).drew ∧ N ≤ ((wr.alloc o).alloc p).drew.heap.size := ⟨(below_a2 hb hN o p).1.drew, (below_a2 hb hN o p).2⟩
theorem below_d3 {w wr : World} {N : Nat} (hb : Below N w wr) (hN : N ≤ wr.heap.size) (o p q : Obj) : Below N w (((wr.alloc o).alloc p).alloc q).drew ∧ N ≤ (((wr.alloc o).alloc p).alloc q).drew.heap.size := ⟨(below_a3 hb hN o p q).1.drew, (below_a3 hb hN o p q).2⟩
theorem sz22 (w : World) (o p q : Obj) : w.heap.size + 1 < (((w.alloc o).alloc p).alloc q).drew.heap.size ∧ w.heap.size + 1 + 1 < (((w.alloc o).alloc p).alloc q).drew.heap.size := by
  show w.heap.size + 1 < (((w.alloc o).alloc p).alloc q).heap.size ∧ w.heap.size + 1 + 1 < (((w.alloc o).alloc p).alloc q).heap.size
  simp
/-- the second append's element lay there ahead of the first append -/
theorem kept_s2 {wr w1 : World} {o p : Obj} {v : Value} {t : TypeId} (hq : ∀ b o', wr.heap.size ≤ b → b < (((wr.alloc o).alloc (.cells #[v] t)).alloc p).drew.heap.size → w1.cell? ⟨b, o', none⟩ = (((wr.alloc o).alloc (.cells #[v] t)).alloc p).drew.cell? ⟨b, o', none⟩) : w1.cell? ⟨wr.heap.size + 1, 0, none⟩ = some v :=
  (hq _ 0 (by omega) (sz22 _ _ _ _).1).trans (s2 _ _ _ _ _)
theorem kept_s3 {wr w1 : World} {o p : Obj} {v : Value} {t : TypeId} (hq : ∀ b o', wr.heap.size ≤ b → b < (((wr.alloc o).alloc p).alloc (.cells #[v] t)).drew.heap.size → w1.cell? ⟨b, o', none⟩ = (((wr.alloc o).alloc p).alloc (.cells #[v] t)).drew.cell? ⟨b, o', none⟩) : w1.cell? ⟨wr.heap.size + 1 + 1, 0, none⟩ = some v :=
  (hq _ 0 (by omega) (sz22 _ _ _ _).2).trans (s3 _ _ _ _ _)
theorem new1 (w : World) (v : Value) (t : TypeId) : (w.alloc (.cells #[v] t)).cell? ⟨w.heap.size, 0, none⟩ = some v := by simp
/-- what is known behind the first append, whatever lay ahead of it -/
structure Mid (N : Nat) (w wr w1 : World) (k : Nat) (v1 u3 : Value) (xs ys : List Value) : Prop where
  own1 : w1.ownsRow N 3 1 v1 (k + 1) xs
  own2 : w1.ownsRow N 28 1 u3 k ys
  bel : Below N w w1
theorem mid_of {w wr T w1 : World} {N k : Nat} {v1 u2 u3 : Value} {xs xs' ys : List Value} (h1 : T.ownsRow N 3 1 u2 k xs) (h2 : T.ownsRow N 28 1 u3 k ys) (hT : Below N w T ∧ N ≤ T.heap.size)
    (hw : wr.ownsRow N 3 1 u2 k xs) (hg : T.grownBy w1 u2.ownBlock) (hown : w1.ownsRow N 3 1 v1 (k + 1) xs') : Mid N w wr w1 k v1 u3 xs' ys :=
  ⟨hown, keep2 h2 h1 (by decide) hg, below1 hT.1 hg hw hT.2⟩

theorem bel2 {w T w2 : World} {N e k : Nat} {v : Value} {ys : List Value} (hb : Below N w T) (hN : N ≤ T.heap.size) (h2 : T.ownsRow N e 1 v k ys) (hg : T.grownBy w2 v.ownBlock) : Below N w w2 :=
  hb.grown hg hN fun j hj => (h2.lt j hj).1

set_option maxHeartbeats 2000000 in
theorem widths_any (a0 : Option Addr) (len cap : Nat) (V : Nat → Nat) (W : Nat → Int) (w : World) (hP : Pcs w a0 len V W) :
    Calls Try.prog 6 #[.slice a0 len cap] w fun e w' => (∃ v1 v2, e = .returned (.tuple #[v1, v2]) ∧ w'.ownsRow w.heap.size 3 1 v1 len (cellsW W len) ∧ w'.ownsRow w.heap.size 28 1 v2 len (cellsV V len)) ∧ Below w.heap.size w w' := by
  have hlen := hP.lenB
  have HP := Hid.mk' hP
  clear hP
  obtain ⟨i0, hi, hz0, hz1, hz2⟩ := info_parts infoInt2
  have KI := Hid.mk' hi
  have KZ0 := Hid.mk' hz0
  have KZ1 := Hid.mk' hz1
  have KZ2 := Hid.mk' hz2
  clear hi hz0 hz1 hz2
  obtain ⟨j0, hi, hz0, hz1, hz2⟩ := info_parts infoU64
  have LI := Hid.mk' hi
  have LZ0 := Hid.mk' hz0
  have LZ1 := Hid.mk' hz1
  have LZ2 := Hid.mk' hz2
  clear hi hz0 hz1 hz2
  go_enter Try.func6, Try.ntmps6
  go_wp2_with fail
  go_loopw [2, 3, 8] (fun x y i wr => ∃ k : Nat, k ≤ len ∧ i = .int .i64 k ∧ wr.ownsRow w.heap.size 3 1 x k (cellsW W k) ∧ wr.ownsRow w.heap.size 28 1 y k (cellsV V k) ∧ Below w.heap.size w wr) (fun _ _ i _ => len - (intOf i).toNat)
  case atStart => exact ⟨0, Nat.zero_le _, rfl, World.ownsRow_nil _ _ _ _, World.ownsRow_nil _ _ _ _, Below.refl _ _⟩
  case round =>
    obtain ⟨k, hk, rfl, ho1, ho2, hbl⟩ := hrel
    have HO1 := Hid.mk' ho1
    have HO2 := Hid.mk' ho2
    have HB := Hid.mk' hbl
    have hsz := hbl.size
    clear ho1 ho2 hbl
    by_cases hlt : k < len
    · obtain ⟨b, off, rfl, hb, hc⟩ := HP.out.at' (by omega)
      have c0 := (HB.out.cell (p := ⟨b, off + k * 2, none⟩) hb).trans (hc k hlt).1
      have c1 := (HB.out.cell (p := ⟨b, off + k * 2 + 1, none⟩) hb).trans (hc k hlt).2
      clear hc
      go_wp2_with fail
      go_region_law (first | (refine step_append_own rfl (.tmp 12) (.tmp 15) 23 rfl w.heap.size 3 i0 (.int .i64 0) 1 8 Try.underlying23 KI.out KZ0.out KZ1.out KZ2.out rfl (by decide) u2 k (cellsW W k) rfl ?_ _ 1 1 [.int .i64 (W k)] rfl rfl ?_ (one_int _ _) ?_ ?_ ?_ ?_; (first | exact (HO1.out.alloc _).alloc _ | exact ((HO1.out.alloc _).alloc _).alloc _); (refine one_cell ?_; first | exact s1 _ _ _ _ | exact s2 _ _ _ _ _ | exact s3 _ _ _ _ _); (unfold maxLen; omega); omega; (simp; omega); intro v1 w1 hown1 hgrow1; have HQ := Hid.mk' (after1 hgrow1 HO1.out); have q0 : w1.cell? ⟨wr.heap.size, 0, none⟩ = some (.int .u64 (V k : Int)) := cell_after hgrow1 HO1.out (by first | exact box2 _ _ _ _ _ | exact box3 _ _ _ _ _ _); have HM : Hid (Mid w.heap.size w wr w1 k v1 u3 (cellsW W (k + 1)) (cellsV V k)) := mid_of (by first | exact (HO1.out.alloc _).alloc _ | exact ((HO1.out.alloc _).alloc _).alloc _) (by first | exact (HO2.out.alloc _).alloc _ | exact ((HO2.out.alloc _).alloc _).alloc _) (by first | exact below_d2 HB.out hsz _ _ | exact below_d3 HB.out hsz _ _ _) HO1.out hgrow1 (by rw [cellsW_succ]; exact hown1); clear hown1 hgrow1) | (refine step_append_own rfl (.tmp 17) (.tmp 20) 24 rfl w.heap.size 28 j0 (.int .u64 0) 1 8 Try.underlying24 LI.out LZ0.out LZ1.out LZ2.out rfl (by decide) u3 k (cellsV V k) rfl ?_ _ 1 1 [.int .u64 (V k : Int)] rfl rfl ?_ (one_int _ _) ?_ ?_ ?_ ?_; (first | exact HM.out.own2 | exact HM.out.own2.alloc _); (refine one_cell ?_; first | exact new1 _ _ _ | exact kept_s2 HQ.out | exact kept_s3 HQ.out); (unfold maxLen; omega); omega; (have hh := HM.out.bel.size; first | exact hh | (simp; omega)); intro v2 w2 hown2 hgrow2))
      all_goals
        have HWf : Hid (w2.ownsRow w.heap.size 3 1 v1 (k + 1) (cellsW W (k + 1))) := keep2 (by first | exact HM.out.own1 | exact HM.out.own1.alloc _) (by first | exact HM.out.own2 | exact HM.out.own2.alloc _) (by decide) hgrow2
        have HVf : Hid (w2.ownsRow w.heap.size 28 1 v2 (k + 1) (cellsV V (k + 1))) := by rw [cellsV_succ]; exact hown2
        have HBf : Hid (Below w.heap.size w w2) := bel2 (by first | exact HM.out.bel | exact HM.out.bel.alloc HM.out.bel.size _) (by first | exact HM.out.bel.size | (have hh := HM.out.bel.size; simp; omega)) (by first | exact HM.out.own2 | exact HM.out.own2.alloc _) hgrow2
        clear hown2 hgrow2 q0
        go_wp2_with fail
        go_roundw
        case rel => exact ⟨k + 1, by omega, by go_num, HWf.out, HVf.out, HBf.out⟩
        case measure => simp [intOf]; omega
    · have hkl := Hid.mk' (show k = len by omega)
      go_wp2_with fail
      go_ret2
      exact ⟨⟨u2, u3, rfl, by rw [← hkl.out]; exact HO1.out, by rw [← hkl.out]; exact HO2.out⟩, HB.out⟩
end Go.Proofs.Ytjfkbkhfnnmbnab
