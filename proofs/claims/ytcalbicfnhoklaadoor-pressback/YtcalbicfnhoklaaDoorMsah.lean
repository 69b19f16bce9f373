/- Texts of ours, one behind the other: RowMk CoinRow LevelMath PairsWalks BytesKit NumPutWalks BRow HeadWalks BitsKit RowMs AddWalks ExpandWalks -/
import Derived.Test.YtcalbicfnhoklaaDoorMsac
import Derived.Test.YtcalbicfnhoklaaDoorMsag
import Derived.Deep.OwnRows
import Derived.OwnWalk
import Derived.Test.YtcalbicfnhoklaaDoorSwapCoins
import Derived.Test.YtcalbicfnhoklaaDoorMsad
import Derived.Laws.IdiomStrings
import Derived.Laws.BytesArg
import Derived.Laws.Rows

/- A row of marks of the call's own. -/
namespace Go.Proofs.YtcalbicfnhoklaaDoor
open Go.RowKit

theorem infoMk : (Tryd.prog.info? 66).map (fun i => (i.zero, i.size, i.bytes)) = some (some (.agg #[.int .i64 0, .int .i64 0, .int .u8 0]), 3, 24) := by kernel_rfl
def mk3 (m : Mk) : List Value := [.int .i64 m.ln, .int .i64 m.ds, .int .u8 (m.by' : Int)]
def mkC (l : List Mk) : List Value := l.flatMap mk3
theorem mkC_snoc (l : List Mk) (m : Mk) : mkC (l ++ [m]) = mkC l ++ mk3 m := by simp [mkC]
theorem mkC_length (l : List Mk) : (mkC l).length = l.length * 3 := by
  induction l with
  | nil => rfl
  | cons m t ih => rw [mkC, List.flatMap_cons, List.length_append, ← mkC, ih]; simp [mk3]; omega
theorem mkC_at (l : List Mk) : ∀ i (h : i < l.length), (mkC l)[i * 3]? = some (.int .i64 l[i].ln) ∧ (mkC l)[i * 3 + 1]? = some (.int .i64 l[i].ds) ∧ (mkC l)[i * 3 + 2]? = some (.int .u8 (l[i].by' : Int)) := by
  induction l with
  | nil => intro i h; simp at h
  | cons m t ih =>
    intro i h
    have e : mkC (m :: t) = .int .i64 m.ln :: .int .i64 m.ds :: .int .u8 (m.by' : Int) :: mkC t := by simp [mkC, mk3]
    rw [e]
    cases i with
    | zero => exact ⟨rfl, rfl, rfl⟩
    | succ i =>
      have := ih i (by simpa using h)
      rw [show (i + 1) * 3 = i * 3 + 1 + 1 + 1 by omega]
      simp only [List.getElem?_cons_succ, List.getElem_cons_succ]
      exact this
theorem mk3_one (m : Mk) : ∀ u ∈ mk3 m, u.oneCell' = true := by
  intro u hu
  simp only [mk3, List.mem_cons, List.not_mem_nil, or_false] at hu
  rcases hu with rfl | rfl | rfl <;> rfl
theorem cells_mk3 (w : World) (m : Mk) (t : TypeId) : ∀ j u, (mk3 m)[j]? = some u → (w.alloc (.cells #[.int .i64 m.ln, .int .i64 m.ds, .int .u8 (m.by' : Int)] t)).cell? ((⟨w.heap.size, 0, none⟩ : Addr).add j) = some u := by
  intro j u hj
  rw [show (⟨w.heap.size, 0, none⟩ : Addr).add j = ⟨w.heap.size, j, none⟩ by unfold Addr.add; split <;> simp_all, World.cell?_alloc_new]
  match j with
  | 0 => exact hj
  | 1 => exact hj
  | 2 => exact hj
  | j + 3 => simp [mk3] at hj
/-- a list as a row -/
def rowM (l : List Mk) (i : Nat) : Mk := l.getD i ⟨0, 0, 0⟩
theorem mkL_row (l : List Mk) : mkL (rowM l) 0 l.length = l := by
  apply List.ext_getElem
  · rw [mkL_length]; omega
  · intro i h1 h2
    simp only [mkL, List.getElem_map, List.getElem_range, Nat.zero_add, rowM]
    rw [List.getD_eq_getElem?_getD, List.getElem?_eq_getElem h2]; rfl
theorem mks_of_own {w : World} {N n : Nat} {v : Value} {l : List Mk} (h : w.ownsRow N 66 3 v n (mkC l)) (hn : n = l.length) (hl : l.length ≤ 5864062014805)
    (hB : ∀ m ∈ l, (-9223372036854775808 ≤ m.ln ∧ m.ln ≤ 9223372036854775807) ∧ (-9223372036854775808 ≤ m.ds ∧ m.ds ≤ 9223372036854775807) ∧ m.by' < 256) : ∃ ao cap, v = .slice ao n cap ∧ n ≤ cap ∧ cap ≤ maxLen ∧ Mks w ao n (rowM l) := by
  have hg : ∀ i (hi : i < l.length), rowM l i = l[i] := fun i hi => by unfold rowM; rw [List.getD_eq_getElem?_getD, List.getElem?_eq_getElem hi]; rfl
  have hb : ∀ i, i < l.length → (-9223372036854775808 ≤ (rowM l i).ln ∧ (rowM l i).ln ≤ 9223372036854775807) ∧ (-9223372036854775808 ≤ (rowM l i).ds ∧ (rowM l i).ds ≤ 9223372036854775807) ∧ (rowM l i).by' < 256 := fun i hi => by rw [hg i hi]; exact hB _ (List.getElem_mem hi)
  subst hn
  rcases h.2 with ⟨rfl, h0⟩ | ⟨g, cap, cur, rfl, _, hgg, hc1, hc2, _, _⟩
  · exact ⟨none, 0, by rw [h0], by omega, Nat.zero_le _, hl, fun hp => by omega, fun i hi => (hb i hi).1, fun i hi => (hb i hi).2.1, fun i hi => (hb i hi).2.2⟩
  · refine ⟨some ⟨g, 0, none⟩, cap, rfl, hc1, hc2, hl, fun _ => ⟨g, 0, rfl, (Array.getElem?_eq_some_iff.1 hgg).1, fun i hi => ?_⟩, fun i hi => (hb i hi).1, fun i hi => (hb i hi).2.1, fun i hi => (hb i hi).2.2⟩
    obtain ⟨m1, m2, m3⟩ := mkC_at l i hi
    rw [hg i hi, Nat.zero_add, h.cellAt (i * 3) (by omega), h.cellAt (i * 3 + 1) (by omega), h.cellAt (i * 3 + 2) (by omega)]
    exact ⟨m1, m2, m3⟩
end Go.Proofs.YtcalbicfnhoklaaDoor

/- Coins in a row of the call's own, and coins that are read. -/
namespace Go.Proofs.YtcalbicfnhoklaaDoor
open Go.RowKit

theorem infoCo : (Tryd.prog.info? 126).map (fun i => (i.zero, i.size, i.bytes)) = some (some (.agg #[.int .i64 0, .bool false]), 2, 16) := by kernel_rfl
def co2 (c : Nat × Bool) : List Value := [.int .i64 (c.1 : Int), .bool c.2]
def coC (l : List (Nat × Bool)) : List Value := l.flatMap co2
theorem coC_snoc (l : List (Nat × Bool)) (m : Nat × Bool) : coC (l ++ [m]) = coC l ++ co2 m := by simp [coC]
theorem coC_length (l : List (Nat × Bool)) : (coC l).length = l.length * 2 := by
  induction l with
  | nil => rfl
  | cons m t ih => rw [coC, List.flatMap_cons, List.length_append, ← coC, ih]; simp [co2]; omega
theorem coC_at (l : List (Nat × Bool)) : ∀ i (h : i < l.length), (coC l)[i * 2]? = some (.int .i64 (l[i].1 : Int)) ∧ (coC l)[i * 2 + 1]? = some (.bool l[i].2) := by
  induction l with
  | nil => intro i h; simp at h
  | cons m t ih =>
    intro i h
    have e : coC (m :: t) = .int .i64 (m.1 : Int) :: .bool m.2 :: coC t := by simp [coC, co2]
    rw [e]
    cases i with
    | zero => exact ⟨rfl, rfl⟩
    | succ i =>
      have := ih i (by simpa using h)
      rw [show (i + 1) * 2 = i * 2 + 1 + 1 by omega]
      simp only [List.getElem?_cons_succ, List.getElem_cons_succ]
      exact this
theorem co2_one (m : Nat × Bool) : ∀ u ∈ co2 m, u.oneCell' = true := by
  intro u hu
  simp only [co2, List.mem_cons, List.not_mem_nil, or_false] at hu
  rcases hu with rfl | rfl <;> rfl
theorem cells_co2 (w : World) (m : Nat × Bool) (t : TypeId) : ∀ j u, (co2 m)[j]? = some u → (w.alloc (.cells #[.int .i64 (m.1 : Int), .bool m.2] t)).cell? ((⟨w.heap.size, 0, none⟩ : Addr).add j) = some u := by
  intro j u hj
  rw [show (⟨w.heap.size, 0, none⟩ : Addr).add j = ⟨w.heap.size, j, none⟩ by unfold Addr.add; split <;> simp_all, World.cell?_alloc_new]
  match j with
  | 0 => exact hj
  | 1 => exact hj
  | j + 2 => simp [co2] at hj
/-- a list of coins as a row -/
def rowC (l : List (Nat × Bool)) (i : Nat) : Int × Bool := (((l.getD i (0, false)).1 : Int), (l.getD i (0, false)).2)
theorem rowC_at (l : List (Nat × Bool)) (i : Nat) (h : i < l.length) : rowC l i = ((l[i].1 : Int), l[i].2) := by
  unfold rowC; rw [List.getD_eq_getElem?_getD, List.getElem?_eq_getElem h]; rfl
/-- coins that are read -/
structure Cos (w : World) (v : Value) (B : List (Nat × Bool)) : Prop where
  is : ∃ ao cap, v = .slice ao B.length cap ∧ B.length ≤ cap ∧ cap ≤ maxLen ∧ (0 < B.length → ∃ g, ao = some ⟨g, 0, none⟩ ∧ g < w.heap.size ∧ ∀ i (h : i < B.length), w.cell? ⟨g, i * 2, none⟩ = some (.int .i64 (B[i].1 : Int)) ∧ w.cell? ⟨g, i * 2 + 1, none⟩ = some (.bool B[i].2))
theorem cos_nil (w : World) : Cos w (.slice none 0 0) [] := ⟨none, 0, rfl, Nat.le_refl _, Nat.zero_le _, fun h => by simp at h⟩
theorem cos_below {w w' : World} {v : Value} {B : List (Nat × Bool)} (h : Cos w v B) (hb : Below w.heap.size w w') : Cos w' v B := by
  obtain ⟨ao, cap, hv, hc1, hc2, hc⟩ := h.is
  refine ⟨ao, cap, hv, hc1, hc2, fun hp => ?_⟩
  obtain ⟨g, h1, h2, h3⟩ := hc hp
  exact ⟨g, h1, Nat.lt_of_lt_of_le h2 hb.size, fun i hi => ⟨(hb.cell (p := ⟨g, i * 2, none⟩) h2).trans (h3 i hi).1, (hb.cell (p := ⟨g, i * 2 + 1, none⟩) h2).trans (h3 i hi).2⟩⟩
/-- a row of one's own with something in it, by its cells -/
theorem rowco_of_own {w : World} {N : Nat} {v : Value} {l : List (Nat × Bool)} (h : w.ownsRow N 126 2 v l.length (coC l)) (hl : 0 < l.length) : ∃ g cap, v = .slice (some ⟨g, 0, none⟩) l.length cap ∧ N ≤ g ∧ l.length ≤ cap ∧ cap ≤ maxLen ∧ RowCo w g l.length (rowC l) := by
  rcases h.2 with ⟨_, h0⟩ | ⟨g, cap, cur, hv, hb, hg, k1, k2, _, _⟩
  · omega
  · subst hv
    refine ⟨g, cap, rfl, hb, k1, k2, ⟨fun i hi => ?_, fun i hi => ?_, fun i hi => ?_, fun i hi => ?_, (Array.getElem?_eq_some_iff.1 hg).1⟩⟩
    · rw [h.cellAt (i * 2) (by omega), (coC_at l i hi).1, rowC_at l i hi]
    · rw [h.cellAt (i * 2 + 1) (by omega), (coC_at l i hi).2, rowC_at l i hi]
    · unfold World.frozen?
      rw [hg]; rfl
    · unfold World.frozen?
      rw [hg]; rfl
/-- pairs, one more -/
theorem prs_snoc : ∀ (k : Nat) (l : List Nat) (h : 2 * k + 1 < l.length), prs (l.take (2 * (k + 1))) = prs (l.take (2 * k)) ++ [l[2 * k] + l[2 * k + 1]]
  | 0, a :: b :: l, _ => by simp [prs]
  | k + 1, a :: b :: l, h => by
    have ih := prs_snoc k l (by simp at h; omega)
    rw [show 2 * (k + 1 + 1) = 2 * (k + 1) + 1 + 1 by omega, List.take_succ_cons, List.take_succ_cons, prs, ih]
    have e : 2 * (k + 1) = 2 * k + 1 + 1 := by omega
    simp only [e, List.take_succ_cons, prs, List.cons_append, List.getElem_cons_succ]
  | 0, [], h => by simp at h
  | 0, [_], h => by simp at h
  | _ + 1, [], h => by simp at h
  | _ + 1, [_], h => by simp at h
theorem prs_all : ∀ (k : Nat) (l : List Nat), l.length ≤ 2 * k + 1 → prs (l.take (2 * k)) = prs l
  | 0, [], _ => rfl
  | 0, [_], _ => by simp [prs]
  | 0, _ :: _ :: _, h => by simp at h
  | _ + 1, [], _ => by simp
  | _ + 1, [_], _ => by simp [prs, Nat.mul_add]
  | k + 1, a :: b :: l, h => by
    have ih := prs_all k l (by simp at h; omega)
    have e : 2 * (k + 1) = 2 * k + 1 + 1 := by omega
    rw [e, List.take_succ_cons, List.take_succ_cons, prs, ih, prs]
theorem prs_high (t : Nat) : ∀ l : List Nat, (∀ y ∈ l, y ≤ t) → ∀ x ∈ prs l, x ≤ 2 * t
  | [], _, x, hx => by simp [prs] at hx
  | [_], _, x, hx => by simp [prs] at hx
  | c :: d :: l, h, x, hx => by
    simp only [prs, List.mem_cons] at hx
    rcases hx with rfl | hx
    · have := h c (by simp); have := h d (by simp); omega
    · exact prs_high t l (fun y hy => h y (by simp [hy])) x hx
end Go.Proofs.YtcalbicfnhoklaaDoor

/- Plain facts: a row of coins that was sorted is a level. No Go in sight. -/
namespace Go.Proofs.YtcalbicfnhoklaaDoor

theorem range_perm (N : Nat) (s t : Nat → Nat) (h1 : ∀ x, t (s x) = x) (h2 : ∀ x, s (t x) = x) (h3 : ∀ x, x < 0 ∨ N ≤ x → s x = x) : ((List.range N).map s).Perm (List.range N) := by
  have lt : ∀ x, x < N → s x < N := fun x hx => Nat.lt_of_not_le fun hl => by
    have h := h3 (s x) (.inr hl)
    have h4 := congrArg t h
    rw [h1, h1] at h4
    omega
  have lt' : ∀ x, x < N → t x < N := fun x hx => Nat.lt_of_not_le fun hl => by
    have h := h3 (t x) (.inr hl)
    rw [h2] at h
    omega
  have nd : ((List.range N).map s).Nodup := List.pairwise_map.2 ((List.nodup_range (n := N)).imp fun {a b} hab he => hab (by rw [← h1 a, he, h1]))
  rw [List.perm_iff_count]
  intro a
  by_cases ha : a < N
  · rw [count_once nd (List.mem_map.2 ⟨t a, List.mem_range.2 (lt' a ha), h2 a⟩), count_once List.nodup_range (List.mem_range.2 ha)]
  · rw [List.count_eq_zero_of_not_mem (by
      intro h
      obtain ⟨x, hx, he⟩ := List.mem_map.1 h
      have := lt x (List.mem_range.1 hx)
      omega), List.count_eq_zero_of_not_mem (by rw [List.mem_range]; exact ha)]
theorem PermF.list {α : Type} {N : Nat} {f g : Nat → α} (h : PermF 0 N f g) : ((List.range N).map g).Perm ((List.range N).map f) := by
  obtain ⟨s, t, k1, k2, k3, k4⟩ := h
  have e : g = fun x => f (s x) := funext k4
  have h := (range_perm N s t k1 k2 k3).map f
  rw [List.map_map] at h
  rw [e]; exact h
/-- a row of coins as a list -/
def lsC (s : Nat → Int × Bool) (N : Nat) : List (Nat × Bool) := (List.range N).map fun i => ((s i).1.toNat, (s i).2)
theorem lsC_length (s : Nat → Int × Bool) (N : Nat) : (lsC s N).length = N := by simp [lsC]
theorem lsC_at (s : Nat → Int × Bool) (N i : Nat) (h : i < (lsC s N).length) : (lsC s N)[i] = ((s i).1.toNat, (s i).2) := by simp [lsC]
theorem lsC_row (l : List (Nat × Bool)) : lsC (rowC l) l.length = l := by
  apply List.ext_getElem
  · rw [lsC_length]
  · intro i h1 h2
    rw [lsC_at, rowC_at l i h2]; simp
theorem lsC_perm {l : List (Nat × Bool)} {s : Nat → Int × Bool} (h : PermF 0 l.length (rowC l) s) : (lsC s l.length).Perm l := by
  have h1 := h.list.map (fun c : Int × Bool => (c.1.toNat, c.2))
  rw [List.map_map, List.map_map] at h1
  have h2 : (lsC s l.length).Perm (lsC (rowC l) l.length) := h1
  rwa [lsC_row] at h2
theorem lsC_is {l : List (Nat × Bool)} {s : Nat → Int × Bool} (h : PermF 0 l.length (rowC l) s) (i : Nat) (hi : i < l.length) : s i = rowC (lsC s l.length) i := by
  rw [rowC_at _ i (by rw [lsC_length]; exact hi), lsC_at]
  obtain ⟨y, _, hy, he⟩ := h.mem i (Nat.zero_le _) hi
  have h0 : 0 ≤ (s i).1 := by rw [he, rowC_at l y hy]; simp
  refine Prod.ext ?_ rfl
  show (s i).1 = ((s i).1.toNat : Int)
  omega
theorem lsC_up {s : Nat → Int × Bool} {N : Nat} (h : SortF Prod.fst s 0 N) : (lsC s N).Pairwise (fun a b => a.1 ≤ b.1) := by
  rw [List.pairwise_iff_getElem]
  intro i j hi hj hij
  rw [lsC_at, lsC_at]
  rw [lsC_length] at hj
  have := h i j (Nat.zero_le _) (by omega) hj
  simp only
  omega
/-- the singles of k signs -/
def sgl (wt : Nat → Nat) (k : Nat) : List (Nat × Bool) := (List.range k).map fun j => (wt j, false)
theorem sgl_snoc (wt : Nat → Nat) (k : Nat) : sgl wt (k + 1) = sgl wt k ++ [(wt k, false)] := by simp [sgl, List.range_succ]
theorem sgl_length (wt : Nat → Nat) (k : Nat) : (sgl wt k).length = k := by simp [sgl]
theorem sgl_is (wt : Nat → Nat) (n : Nat) : sgl wt n = ((List.range n).map wt).map fun c => (c, false) := by simp [sgl]
/-- a level as it is laid, ahead of the sort -/
def lvl (wt : Nat → Nat) (n : Nat) (B : List (Nat × Bool)) : List (Nat × Bool) := ((prs (B.map Prod.fst)).map fun c => (c, true)) ++ sgl wt n
theorem lvl_length (wt : Nat → Nat) (n : Nat) (B : List (Nat × Bool)) : (lvl wt n B).length = B.length / 2 + n := by
  unfold lvl; rw [List.length_append, List.length_map, prs_length, List.length_map, sgl_length]
theorem lvl_lvc (wt : Nat → Nat) (n : Nat) (B : List (Nat × Bool)) {s : Nat → Int × Bool} (hp : PermF 0 (lvl wt n B).length (rowC (lvl wt n B)) s) (hs : SortF Prod.fst s 0 (lvl wt n B).length) : LvC ((List.range n).map wt) B (lsC s (lvl wt n B).length) :=
  ⟨lsC_up hs, by have h := lsC_perm hp; unfold lvl at h ⊢; rwa [sgl_is] at h ⊢⟩
theorem lvl_high (wt : Nat → Nat) (n T : Nat) (B : List (Nat × Bool)) (hB : ∀ c ∈ B, c.1 ≤ T) (hw : ∀ j, j < n → wt j ≤ T) : ∀ c ∈ lvl wt n B, c.1 ≤ 2 * T := by
  intro c hc
  unfold lvl at hc
  rcases List.mem_append.1 hc with h | h
  · obtain ⟨x, hx, rfl⟩ := List.mem_map.1 h
    refine prs_high T _ (fun y hy => ?_) x hx
    obtain ⟨b, hb, rfl⟩ := List.mem_map.1 hy
    exact hB b hb
  · obtain ⟨j, hj, rfl⟩ := List.mem_map.1 h
    have := hw j (List.mem_range.1 hj)
    show wt j ≤ 2 * T
    omega
end Go.Proofs.YtcalbicfnhoklaaDoor

/- What huff.pairs answers. -/
namespace Go.Proofs.YtcalbicfnhoklaaDoor
open Go.RowKit

def prL (B : List (Nat × Bool)) (k : Nat) : List (Nat × Bool) := (prs ((B.map Prod.fst).take k)).map fun c => (c, true)
theorem prL_snoc (B : List (Nat × Bool)) (k : Nat) (h : 2 * k + 1 < B.length) : prL B (2 * (k + 1)) = prL B (2 * k) ++ [(B[2 * k].1 + B[2 * k + 1].1, true)] := by
  unfold prL
  rw [prs_snoc k (B.map Prod.fst) (by rw [List.length_map]; exact h)]
  simp
theorem prL_len (B : List (Nat × Bool)) (k : Nat) : (prL B (2 * k)).length ≤ k := by
  unfold prL
  rw [List.length_map, prs_length, List.length_take]; omega

set_option maxRecDepth 20000 in
set_option maxHeartbeats 1000000 in
theorem pairs_any (v : Value) (B : List (Nat × Bool)) (w : World) (hB : Cos w v B) (hl : B.length ≤ 1000) (hc : ∀ c ∈ B, c.1 ≤ 1000000000000) :
    Calls Tryd.prog 74 #[v] w fun e w' => (∃ u, e = .returned u ∧ w'.ownsRow w.heap.size 126 2 u ((prs (B.map Prod.fst)).map fun c => (c, true)).length (coC ((prs (B.map Prod.fst)).map fun c => (c, true)))) ∧ Below w.heap.size w w' := by
  obtain ⟨ao, cap, rfl, hc1, hc2, hat⟩ := hB.is
  have HA := Hid.mk' hat
  have HC := Hid.mk' hc
  obtain ⟨i0, hi, hz0, hz1, hz2⟩ := info_parts infoCo
  have KI := Hid.mk' hi
  have KZ0 := Hid.mk' hz0
  have KZ1 := Hid.mk' hz1
  have KZ2 := Hid.mk' hz2
  clear hi hz0 hz1 hz2 hat hc hB
  go_enter Tryd.func74, Tryd.ntmps74
  go_wp2_with fail
  go_loopw [3, 4] (fun lv iv wr => ∃ k : Nat, 2 * k ≤ B.length ∧ iv = .int .i64 ((2 * k + 1 : Nat) : Int) ∧ wr.ownsRow w.heap.size 126 2 lv (prL B (2 * k)).length (coC (prL B (2 * k))) ∧ Below w.heap.size w wr) (fun _ iv _ => B.length + 1 - (intOf iv).toNat)
  case atStart => exact ⟨0, Nat.zero_le _, rfl, by unfold prL; simp [prs, coC]; exact World.ownsRow_nil _ _ _ _, Below.refl _ _⟩
  case round =>
    obtain ⟨k, hk, rfl, hown, hbl⟩ := hrel
    have HO := Hid.mk' hown
    have HB := Hid.mk' hbl
    have hs := hbl.size
    have hpl := prL_len B k
    clear hown hbl
    obtain ⟨i, hik⟩ : ∃ i, Hid (2 * k + 1 = i) := ⟨_, Hid.mk' rfl⟩
    rw [hik.out]
    have hi1 : i ≤ B.length + 1 := by have := hik.out; omega
    by_cases hlt : i < B.length
    · obtain ⟨g, rfl, hg, hcell⟩ := HA.out (by omega)
      have h1 : 2 * k < B.length := by have := hik.out; omega
      have h2 : 2 * k + 1 < B.length := by have := hik.out; omega
      obtain ⟨j, hj⟩ : ∃ j, Hid (2 * k = j) := ⟨_, Hid.mk' rfl⟩
      have hji : i = j + 1 := by have := hik.out; have := hj.out; omega
      subst hji
      have hjz : ((j + 1 : Nat) : Int) - 1 = (j : Int) := by omega
      have x0 := (HB.out.cell (p := ⟨g, 2 * k * 2, none⟩) hg).trans (hcell (2 * k) h1).1
      have y0 := (HB.out.cell (p := ⟨g, (2 * k + 1) * 2, none⟩) hg).trans (hcell (2 * k + 1) h2).1
      have hst := Hid.mk' (prL_snoc B k h2)
      have xb := HC.out _ (List.getElem_mem h1)
      have yb := HC.out _ (List.getElem_mem h2)
      generalize B[2 * k].1 = x at x0 xb hst
      generalize B[2 * k + 1].1 = y at y0 yb hst
      rw [hj.out] at x0 y0
      obtain ⟨z, hz⟩ : ∃ z, Hid (x + y = z) := ⟨_, Hid.mk' rfl⟩
      have hxy : (x : Int) + (y : Int) = (z : Int) := by have := hz.out; omega
      have zb : z ≤ 2000000000000 := by have := hz.out; omega
      rw [hz.out] at hst
      clear hcell
      have wj : IntKind.i64.wrap (j : Int) = (j : Int) := by rw [IntKind.wrap_i64]; omega
      have wz : IntKind.i64.wrap (z : Int) = (z : Int) := by rw [IntKind.wrap_i64]; omega
      have j0 : (0 : Int) ≤ (j : Int) := by omega
      have j1 : (j : Int) < (B.length : Int) := by omega
      have j2 : (0 : Int) ≤ (j : Int) + 1 := by omega
      have j3 : (j : Int) + 1 < (B.length : Int) := by omega
      have j4 : ((j : Int) + 1).toNat = j + 1 := by omega
      go_wp2_with fail
      go_region_law (refine step_append_own rfl (.tmp 11) (.tmp 25) 124 rfl w.heap.size 126 i0 (.agg #[.int .i64 0, .bool false]) 2 16 Tryd.underlying124 KI.out KZ0.out KZ1.out KZ2.out rfl (by decide) u3 _ _ rfl (by exact HO.out.alloc _) ⟨wr.heap.size, 0, none⟩ 1 1 (co2 (z, true)) rfl rfl (cells_co2 _ (z, true) _) (co2_one _) (by unfold maxLen; omega) (by omega) (by simp; omega) ?_; intro v' w1 hown1 hgrow1)
      all_goals
        have HB5 : Hid (Below w.heap.size w w1) := ((HB.out.drew).alloc (by exact hs) _).grown hgrow1 (by simp; exact Nat.le_succ_of_le hs) fun i hi => (HO.out.lt i hi).1
        have HO5 : Hid (w1.ownsRow w.heap.size 126 2 v' (prL B (2 * (k + 1))).length (coC (prL B (2 * (k + 1))))) := by rw [hst.out, coC_snoc, List.length_append]; exact hown1
        clear hown1 hgrow1
        go_wp2_with fail
        go_roundw
        case rel => exact ⟨k + 1, by omega, by have := hj.out; exact int_eq (by omega), HO5.out, HB5.out⟩
        case measure => simp [intOf]; omega
    · have he : Hid (prL B (2 * k) = (prs (B.map Prod.fst)).map fun c => (c, true)) := by
        show _ = _
        unfold prL
        rw [prs_all k (B.map Prod.fst) (by rw [List.length_map]; have := hik.out; omega)]
      go_wp2_with fail
      go_ret
      refine ⟨⟨u3, rfl, ?_⟩, HB.out⟩
      rw [← he.out]
      exact HO.out
end Go.Proofs.YtcalbicfnhoklaaDoor

/- Rows of bytes of the call's own, by their cells. -/
namespace Go.Proofs.YtcalbicfnhoklaaDoor
open Go.RowKit

theorem infoByteP : (Tryd.prog.info? 5).map (fun i => (i.zero, i.size, i.bytes)) = some (some (.int .u8 0), 1, 1) := by kernel_rfl
def cellsB (l : List UInt8) : List Value := l.map fun x : UInt8 => .int .u8 (x.toNat : Int)
theorem cellsB_snoc (l : List UInt8) (x : UInt8) : cellsB (l ++ [x]) = cellsB l ++ [.int .u8 (x.toNat : Int)] := by simp [cellsB]
theorem below_growB {w wr w1 : World} {N k : Nat} {e : TypeId} {v : Value} {xs : List Value} {o : Obj} (hown : wr.ownsRow N e 1 v k xs) (hbl : Below N w wr) (hN : N ≤ wr.heap.size) (hg : (wr.alloc o).grownBy w1 v.ownBlock) : Below N w w1 :=
  (hbl.alloc hN o).grown hg (by simp; omega) fun j hj => (hown.lt j hj).1
/-- a row of bytes of the call's own, as a text -/
theorem own_string {w : World} {N : Nat} {v : Value} {l : List UInt8} (h : w.ownsRow N 5 1 v l.length (cellsB l)) :
    (convert 27 9 v).run Tryd.prog w = .ok (.string ⟨l.toArray⟩) w := by
  rcases h.2 with ⟨rfl, hn⟩ | ⟨g, cap, cur, rfl, _, _, _, _, _, _⟩
  · have : l = [] := List.length_eq_zero_iff.1 hn
    subst this
    exact run_convert_bytes_nil w 27 5 Tryd.underlying27 Tryd.underlying5 0 0 9 Tryd.underlying9
  · refine run_convert_bytes_back w 27 9 5 ⟨g, 0, none⟩ cap l Tryd.underlying27 Tryd.underlying5 Tryd.underlying9 fun j hj => ?_
    have := h.cellAt j (by omega)
    rw [show (⟨g, 0, none⟩ : Addr).add j = ⟨g, j, none⟩ by unfold Addr.add; split <;> simp_all, this]
    simp [cellsB, hj]
end Go.Proofs.YtcalbicfnhoklaaDoor

/- What num.Put answers. -/
namespace Go.Proofs.YtcalbicfnhoklaaDoor
open Go.RowKit

theorem put_or (m : Nat) : bits .or .u8 ((m : Int) % 256) 128 = ((UInt8.ofNat (m % 128 + 128)).toNat : Int) := by
  have h : ∀ a, a < 256 → a ||| 128 = a % 128 + 128 := by decide +kernel
  rw [show (m : Int) % 256 = ((m % 256 : Nat) : Int) by omega, show (128 : Int) = ((128 : Nat) : Int) from rfl, u8_or_nat _ _ (by omega) (by omega), h _ (by omega), UInt8.toNat_ofNat']
  omega
theorem putB_len (n : Nat) : ∀ k, n < 128 ^ k → 0 < k → (putB n).length ≤ k := by
  induction n using Nat.strongRecOn with
  | _ n ih =>
    intro k hk h0
    by_cases h : n < 128
    · rw [putB_lo n h]; simp; omega
    · rw [putB_hi n (by omega)]
      obtain ⟨j, rfl⟩ : ∃ j, k = j + 1 := ⟨k - 1, by omega⟩
      rw [Nat.pow_succ] at hk
      have hj : 0 < j := by
        rcases Nat.eq_zero_or_pos j with e | e
        · subst e; simp at hk; omega
        · exact e
      have := ih (n / 128) (by omega) j (by omega) hj
      simp; omega
theorem putB_len10 (n : Nat) (h : n < 18446744073709551616) : (putB n).length ≤ 10 := putB_len n 10 (by omega) (by omega)
theorem putB_pos (n : Nat) : 0 < (putB n).length := by
  by_cases h : n < 128
  · rw [putB_lo n h]; simp
  · rw [putB_hi n (by omega)]; simp

set_option maxRecDepth 20000 in
set_option maxHeartbeats 800000 in
theorem put_num (n : Nat) (w : World) (hn : n < 18446744073709551616) :
    Calls Tryd.prog 9 #[.int .u64 n] w fun e w' => e = .returned (.string ⟨(putB n).toArray⟩) ∧ Below w.heap.size w w' := by
  obtain ⟨i0, hi, hz0, hz1, hz2⟩ := info_parts infoByteP
  have KI := Hid.mk' hi
  have KZ0 := Hid.mk' hz0
  have KZ1 := Hid.mk' hz1
  have KZ2 := Hid.mk' hz2
  clear hi hz0 hz1 hz2
  have hL := putB_len10 n hn
  go_enter Tryd.func9, Tryd.ntmps9
  go_wp2_with fail
  go_loopw [0, 3] (fun x v wr => ∃ (l : List UInt8) (m : Nat), x = .int .u64 m ∧ m < 18446744073709551616 ∧ wr.ownsRow w.heap.size 5 1 v l.length (cellsB l) ∧ putB n = l ++ putB m ∧ Below w.heap.size w wr) (fun x _ _ => (intOf x).toNat)
  case atStart => exact ⟨[], n, rfl, hn, World.ownsRow_nil _ _ _ _, rfl, Below.refl _ _⟩
  case round =>
    obtain ⟨l, m, rfl, hm, hown, hput, hbl⟩ := hrel
    have HO := Hid.mk' hown
    have HB := Hid.mk' hbl
    have hsz := hbl.size
    have hlen : l.length ≤ 10 := by rw [hput, List.length_append] at hL; omega
    have HP := Hid.mk' hput
    clear hown hbl hput
    by_cases hlt : 128 ≤ m
    · have hor := put_or m
      have HP2 : Hid (putB n = (l ++ [UInt8.ofNat (m % 128 + 128)]) ++ putB (m / 128)) := by show _ = _; rw [HP.out, putB_hi m hlt]; simp
      generalize UInt8.ofNat (m % 128 + 128) = z at *
      go_wp2_with (at_builtin; refine wpList_append_own _ rfl (.tmp 6) (.tmp 10) 27 rfl w.heap.size 5 i0 (.int .u8 0) 1 1 Tryd.underlying27 KI.out KZ0.out KZ1.out KZ2.out rfl (by decide) u3 _ _ rfl (HO.out.alloc _) ⟨wr.heap.size, 0, none⟩ 1 1 [.int .u8 (z.toNat : Int)] rfl rfl (cell_one_new _ _ _) (one_int _ _) (by unfold maxLen; omega) (by omega) (by simp; omega) ?_; intro v' w1 hown1 hgrow1 _)
      have HB4 := Hid.mk' (below_growB HO.out HB.out hsz hgrow1)
      have HO4 : Hid (w1.ownsRow w.heap.size 5 1 v' (l ++ [z]).length (cellsB (l ++ [z]))) := by
        rw [List.length_append, cellsB_snoc]; exact hown1
      clear hown1 hgrow1 hor
      go_wp2_with fail
      go_roundw
      case rel => exact ⟨l ++ [z], m / 128, by go_num, by omega, HO4.out, HP2.out, HB4.out⟩
      case measure => simp [intOf]; omega
    · have HP2 : Hid (putB n = l ++ [UInt8.ofNat m]) := by show _ = _; rw [HP.out, putB_lo m (by omega)]
      have hz : ((UInt8.ofNat m).toNat : Int) = m := by rw [UInt8.toNat_ofNat']; omega
      have HZ := Hid.mk' hz
      clear hz
      generalize UInt8.ofNat m = z at *
      go_wp2_with (at_builtin; refine wpList_append_own _ rfl (.tmp 14) (.tmp 17) 27 rfl w.heap.size 5 i0 (.int .u8 0) 1 1 Tryd.underlying27 KI.out KZ0.out KZ1.out KZ2.out rfl (by decide) u3 _ _ rfl (HO.out.alloc _) ⟨wr.heap.size, 0, none⟩ 1 1 [.int .u8 (m : Int)] rfl rfl (cell_one_new _ _ _) (one_int _ _) (by unfold maxLen; omega) (by omega) (by simp; omega) ?_; intro v' w1 hown1 hgrow1 _)
      have HB4 := Hid.mk' (below_growB HO.out HB.out hsz hgrow1)
      have HO4 : w1.ownsRow w.heap.size 5 1 v' (l ++ [z]).length (cellsB (l ++ [z])) := by
        rw [List.length_append, cellsB_snoc, HZ.out]; exact hown1
      have hcs := own_string HO4
      clear hown1 hgrow1 HO4
      go_wp2_with fail
      rw [hcs]
      go_wp2_with fail
      go_ret
      refine ⟨?_, HB4.out⟩
      rw [HP2.out]
      rfl
end Go.Proofs.YtcalbicfnhoklaaDoor

/- A row of bytes of the call's own that was made of a text: one byte more, one byte turned. -/
namespace Go.Proofs.YtcalbicfnhoklaaDoor
open Go.RowKit

structure BRow (w : World) (base : Nat) (v : Value) (l : List UInt8) : Prop where
  is : ∃ g cap, v = .slice (some ⟨g, 0, none⟩) l.length cap ∧ base ≤ g ∧ g < w.heap.size ∧ l.length ≤ cap ∧ cap ≤ maxLen ∧
    (∀ j (h : j < l.length), w.cell? ⟨g, j, none⟩ = some (.int .u8 (l[j].toNat : Int))) ∧ (∀ j, j < cap → ∃ u, w.cell? ⟨g, j, none⟩ = some u) ∧ (∀ j, j < cap → w.frozen? ⟨g, j, none⟩ = false)
theorem cell_new1 (w : World) (v : Value) (t : TypeId) : (w.alloc (.cells #[v] t)).cell? ⟨w.heap.size, 0, none⟩ = some v := by rw [World.cell?_alloc_new]; rfl
theorem addB (g o k : Nat) : (⟨g, o, none⟩ : Addr).add k = ⟨g, o + k, none⟩ := by unfold Addr.add; split <;> simp_all
theorem BRow.kept {w w' : World} {base : Nat} {v : Value} {l : List UInt8} (h : BRow w base v l) (hb : Below w.heap.size w w') : BRow w' base v l := by
  obtain ⟨g, cap, hv, h1, h2, h3, h4, h5, h6, h7⟩ := h.is
  have hc : ∀ j, w'.cell? ⟨g, j, none⟩ = w.cell? ⟨g, j, none⟩ := fun j => hb.cell (p := ⟨g, j, none⟩) h2
  have hf : ∀ j, w'.frozen? ⟨g, j, none⟩ = w.frozen? ⟨g, j, none⟩ := fun j => World.frozen?_of_block (w := w) (a := ⟨g, j, none⟩) (hb.block g h2)
  exact ⟨g, cap, hv, h1, Nat.lt_of_lt_of_le h2 hb.size, h3, h4, fun j hj => (hc j).trans (h5 j hj), fun j hj => by rw [hc]; exact h6 j hj, fun j hj => (hf j).trans (h7 j hj)⟩
theorem BRow.alloc {w : World} {base : Nat} {v : Value} {l : List UInt8} (h : BRow w base v l) (o : Obj) : BRow (w.alloc o) base v l := h.kept ((Below.refl _ _).alloc (Nat.le_refl _) o)
theorem below_dN {B : Nat} {a w : World} (h : Below B a w) (q : Nat) : Below B a (w.drewN q) := ⟨h.os, h.tape, h.output, h.size, h.block⟩
theorem BRow.drewN {w : World} {base : Nat} {v : Value} {l : List UInt8} (h : BRow w base v l) (q : Nat) : BRow (w.drewN q) base v l := h.kept (below_dN (Below.refl _ _) q)
theorem BRow.string {w : World} {base : Nat} {v : Value} {l : List UInt8} (h : BRow w base v l) : (convert 27 9 v).run Tryd.prog w = .ok (.string ⟨l.toArray⟩) w := by
  obtain ⟨g, cap, rfl, h1, h2, h3, h4, h5, h6, h7⟩ := h.is
  refine run_convert_bytes_back w 27 9 5 ⟨g, 0, none⟩ cap l Tryd.underlying27 Tryd.underlying5 Tryd.underlying9 fun j hj => ?_
  rw [addB, Nat.zero_add]
  exact h5 j hj
/-- made of a text -/
theorem bytes_made (l : List UInt8) (w : World) (base : Nat) (hb : base ≤ w.heap.size) (hl : l.length ≤ 1048576) : ∃ v w', (convert 9 27 (.string ⟨l.toArray⟩)).run Tryd.prog w = .ok v w' ∧ BRow w' base v l ∧ Below w.heap.size w w' := by
  have hsz : (⟨l.toArray⟩ : ByteArray).size = l.length := rfl
  have hge := grownCap_ge w l.length 0 5
  have hle := grownCap_le_maxLen w l.length 0 5 (by unfold maxLen; omega)
  have hr := run_bytes_of_string (P := Tryd.prog) w 9 27 5 ⟨l.toArray⟩ Tryd.underlying9 Tryd.underlying27 Tryd.underlying5
  rw [hsz] at hr
  generalize grownCap w l.length 0 5 = cap at *
  have hrow : (bytesRow ⟨l.toArray⟩ cap).size = cap := by unfold bytesRow; simp [hsz]; omega
  refine ⟨_, _, hr, ⟨w.heap.size, cap, rfl, hb, by simp, hge, hle, fun j hj => ?_, fun j hj => ?_, fun j hj => ?_⟩, ?_⟩
  · rw [cell_of_row _ w.heap.size j _ _ _ (heap_alloc_new w.drew _)]
    exact bytesRow_at ⟨l.toArray⟩ cap j (by simpa using hj)
  · refine ⟨(bytesRow ⟨l.toArray⟩ cap)[j]'(by omega), ?_⟩
    rw [cell_of_row _ w.heap.size j _ _ _ (heap_alloc_new w.drew _)]
    exact Array.getElem?_eq_getElem _
  · rw [hrow]
    unfold World.frozen?
    rw [show (w.drew.alloc (.cells (bytesRow ⟨l.toArray⟩ cap) 5 (cap, cap + 1))).heap[w.heap.size]? = _ from heap_alloc_new w.drew _]
    simp; omega
  · exact ((Below.refl _ _).drew).alloc (Nat.le_refl _) _
theorem BRow.set {w : World} {base : Nat} {g cap k : Nat} {l : List UInt8} (h : BRow w base (.slice (some ⟨g, 0, none⟩) l.length cap) l) (hk : k < l.length) (x : UInt8) :
    BRow (w.setCell ⟨g, k, none⟩ (.int .u8 (x.toNat : Int))) base (.slice (some ⟨g, 0, none⟩) l.length cap) (l.set k x) := by
  obtain ⟨g', cap', hv, h1, h2, h3, h4, h5, h6, h7⟩ := h.is
  simp only [Value.slice.injEq, Option.some.injEq, Addr.mk.injEq, and_true, true_and] at hv
  obtain ⟨rfl, rfl⟩ := hv
  refine ⟨g, cap, by rw [List.length_set], h1, by simpa [World.setCell] using h2, by rw [List.length_set]; exact h3, h4, fun j hj => ?_, fun j hj => ?_, fun j hj => ?_⟩
  · have hj2 : j < l.length := by simpa using hj
    by_cases e : j = k
    · subst e
      rw [List.getElem_set_self]
      exact World.cell?_setCell_same _ _ _ (h5 j hj2)
    · rw [List.getElem_set_ne (by omega), World.cell?_setCell_other _ _ _ _ (by intro he; simp only [Addr.mk.injEq] at he; omega)]
      exact h5 j hj2
  · by_cases e : j = k
    · subst e
      exact ⟨_, World.cell?_setCell_same _ _ _ (h5 j hk)⟩
    · rw [World.cell?_setCell_other _ _ _ _ (by intro he; simp only [Addr.mk.injEq] at he; omega)]
      exact h6 j hj
  · rw [World.frozen?_setCell]; exact h7 j hj
theorem run_append_brow (w : World) (base : Nat) (ty : TypeId) (i : TypeInfo) (h2 : Tryd.prog.info? 5 = some i) (h3 : i.zero = some (.int .u8 0)) (h4 : i.size = 1) (h5 : i.bytes = 1)
    (v : Value) (l : List UInt8) (hv : BRow w base v l) (a : Addr) (c : Nat) (x : UInt8) (hx : w.cell? a = some (.int .u8 (x.toNat : Int))) (hl : l.length ≤ 1048576) (hb : base ≤ w.heap.size) :
    ∃ v' w', (Builtin.append_ #[27, 27] ty #[v, .slice (some a) 1 c]).run Tryd.prog w = .ok v' w' ∧ BRow w' base v' (l ++ [x]) ∧ w.grownBy w' v.ownBlock := by
  obtain ⟨g, cap, rfl, k1, k2, k3, k4, k5, k6, k7⟩ := hv.is
  have hnews : ∀ j u, [Value.int .u8 (x.toNat : Int)][j]? = some u → w.cell? (a.add j) = some u := by
    intro j u hj
    cases j with
    | zero =>
      have e : a.add 0 = a := by unfold Addr.add; cases a with | mk b o s => cases s <;> simp
      rw [e, hx]; simpa using hj
    | succ j => simp at hj
  by_cases hroom : l.length + 1 ≤ cap
  · have hf := run_firstCells_some (P := Tryd.prog) w i.size 1 a 1 c [.int .u8 (x.toNat : Int)] (by rw [h4]; rfl) hnews
    obtain ⟨u, hu⟩ := k6 l.length (by omega)
    have hst : (storeCells ⟨g, l.length * i.size, none⟩ [.int .u8 (x.toNat : Int)] 0).run Tryd.prog w = .ok () (w.setCell ⟨g, l.length, none⟩ (.int .u8 (x.toNat : Int))) := by
      have hs1 : (store ((⟨g, l.length * i.size, none⟩ : Addr).add 0) (.int .u8 (x.toNat : Int))).run Tryd.prog w = .ok () (w.setCell ⟨g, l.length, none⟩ (.int .u8 (x.toNat : Int))) := by
        rw [addB, h4, Nat.mul_one, Nat.add_zero, run_store _ w _ _ _ rfl, hu]
        simp [k7 l.length (by omega)]
      simp only [storeCells, Sem.run_bind, hs1, Result.andThen_ok]
      rfl
    refine ⟨.slice (some ⟨g, 0, none⟩) (l.length + 1) cap, w.setCell ⟨g, l.length, none⟩ (.int .u8 (x.toNat : Int)), ?_, ⟨g, cap, by simp, k1, by simpa [World.setCell] using k2, by simpa using hroom, k4, fun j hj => ?_, fun j hj => ?_, fun j hj => ?_⟩, ⟨rfl, rfl, rfl, by simp [World.setCell], fun k _ hk => heap_setCell_other _ _ _ _ (by intro e; exact hk (by simp [Value.ownBlock, e]))⟩⟩
    · simp [Builtin.append_, run_underlying Tryd.underlying27, sizeOf, typeInfo, h2, Builtin.lenOf, hroom, hf, Addr.add_lit, hst]
    · by_cases e : j = l.length
      · subst e
        rw [List.getElem_append_right (Nat.le_refl _)]
        simp only [Nat.sub_self, List.getElem_cons_zero]
        exact World.cell?_setCell_same _ _ _ hu
      · have hj2 : j < l.length := by simp at hj; omega
        rw [List.getElem_append_left hj2, World.cell?_setCell_other _ _ _ _ (by intro he; simp only [Addr.mk.injEq] at he; omega)]
        exact k5 j hj2
    · by_cases e : j = l.length
      · subst e
        exact ⟨_, World.cell?_setCell_same _ _ _ hu⟩
      · rw [World.cell?_setCell_other _ _ _ _ (by intro he; simp only [Addr.mk.injEq] at he; omega)]
        exact k6 j hj
    · rw [World.frozen?_setCell]; exact k7 j hj
  · have hg := run_append_grow (P := Tryd.prog) w 27 ty 5 i (.int .u8 0) Tryd.underlying27 h2 h3 ⟨g, 0, none⟩ l.length cap (cellsB l) (by rw [h4]; simp [cellsB]) (by
        intro j u hj
        have hjl : j < l.length := by have := (List.getElem?_eq_some_iff.1 hj).1; simpa [cellsB] using this
        rw [addB, Nat.zero_add, k5 j hjl]
        simp only [cellsB, List.getElem?_map, List.getElem?_eq_getElem hjl] at hj
        exact hj) a 1 c [.int .u8 (x.toNat : Int)] (by rw [h4]; rfl) hnews (by omega) (by omega) (by rw [h5]; exact growslice_fits (by omega) (by omega))
    have hge := grownCap_ge w (l.length + 1) cap 5
    have hle := grownCap_le_maxLen w (l.length + 1) cap 5 (by unfold maxLen; omega)
    generalize grownCap w (l.length + 1) cap 5 = cp at *
    have hz1 : (Value.int IntKind.u8 0).cells.size = 1 := rfl
    refine ⟨_, _, hg, ⟨w.heap.size, cp, by simp, hb, by simp, by simpa using hge, hle, fun j hj => ?_, fun j hj => ?_, fun j hj => ?_⟩, ⟨rfl, rfl, rfl, by simp, fun k hk _ => heap_alloc_old w.drew _ hk⟩⟩
    · rw [cell_of_row _ w.heap.size j _ _ _ (heap_alloc_new w.drew _)]
      have hj2 : j < l.length + 1 := by simpa using hj
      have e : (cellsB l).toArray ++ [Value.int .u8 (x.toNat : Int)].toArray = (cellsB (l ++ [x])).toArray := by rw [cellsB_snoc]; simp
      rw [e, Array.getElem?_append_left (by simp [cellsB]; omega)]
      show (cellsB (l ++ [x])).toArray[j]? = _
      rw [List.getElem?_toArray]
      unfold cellsB
      rw [List.getElem?_map, List.getElem?_eq_getElem hj]
      rfl
    · rw [cell_of_row _ w.heap.size j _ _ _ (heap_alloc_new w.drew _)]
      have : j < ((cellsB l).toArray ++ [Value.int .u8 (x.toNat : Int)].toArray ++ Builtin.zeroCells (Value.int IntKind.u8 0).cells (cp - (l.length + 1))).size := by
        simp only [Array.size_append, List.size_toArray, size_zeroCells, hz1, cellsB, List.length_map, List.length_cons, List.length_nil]
        omega
      exact ⟨_, Array.getElem?_eq_getElem this⟩
    · unfold World.frozen?
      rw [show (w.drew.alloc (.cells _ 5)).heap[w.heap.size]? = _ from heap_alloc_new w.drew _]
      rfl
theorem wpList_append_brow {ops : Array Oper} {rest : List Oper} {o : Oper} {a : Act} {w : World} {Q : Exit → Act → World → Prop} (hgd : o.guard = none) (s x : Operand)
    (ho : o.op = .call { callee := .builtin .append, args := #[s, x], argTypes := #[27, 27] })
    (base : Nat) (i : TypeInfo) (h2 : Tryd.prog.info? 5 = some i) (h3 : i.zero = some (.int .u8 0)) (h4 : i.size = 1) (h5 : i.bytes = 1)
    (v : Value) (l : List UInt8) (hs : a.eval s = v) (hv : BRow w base v l) (ad : Addr) (c : Nat) (y : UInt8) (hx : a.eval x = .slice (some ad) 1 c) (hy : w.cell? ad = some (.int .u8 (y.toNat : Int))) (hl : l.length ≤ 1048576) (hb : base ≤ w.heap.size)
    (h : ∀ v' w', BRow w' base v' (l ++ [y]) → w.grownBy w' v.ownBlock → wpList Tryd.prog ops Q rest (a.put o.dst v') w') : wpList Tryd.prog ops Q (o :: rest) a w := by
  refine wpList_plain hgd fun K hK => ?_
  obtain ⟨v', w', hr, k2, k3⟩ := run_append_brow w base o.type i h2 h3 h4 h5 v l hv ad c y hy hl hb
  unfold Oper.wp execOp
  simp only [ho, resolve, invoke, builtin, Sem.run_bind, Sem.run_pure, Result.andThen_ok, List.map_toArray, List.map_cons, List.map_nil, hs, hx, hr]
  exact hK _ _ (h v' w' k2 k3)
theorem BRow.lt {w : World} {base : Nat} {v : Value} {l : List UInt8} (h : BRow w base v l) : ∀ k, v.ownBlock = some k → base ≤ k ∧ k < w.heap.size := by
  obtain ⟨g, cap, rfl, k1, k2, _⟩ := h.is
  intro k hk
  simp only [Value.ownBlock, Option.some.injEq] at hk
  subst hk
  exact ⟨k1, k2⟩
end Go.Proofs.YtcalbicfnhoklaaDoor

/- What press.head answers. -/
namespace Go.Proofs.YtcalbicfnhoklaaDoor
open Go.RowKit

theorem one_catF (f : UInt8) (l : List UInt8) : strOfNums [(f.toNat : Int)] ++ ⟨l.toArray⟩ = ⟨(f :: l).toArray⟩ := by
  apply bytes_ext
  have e : (strOfNums [(f.toNat : Int)]).data.toList = [f] := by
    show [UInt8.ofNat ((f.toNat : Int)).toNat] = _
    rw [Int.toNat_natCast, UInt8.ofNat_toNat]
  rw [ByteArray.data_append, Array.toList_append, e]
  rfl
theorem bcellH {W w1 : World} (hb : Below W.heap.size W w1) : ∀ b o, b < W.heap.size → w1.cell? ⟨b, o, none⟩ = W.cell? ⟨b, o, none⟩ := fun b o h => hb.cell (p := ⟨b, o, none⟩) h
set_option maxRecDepth 20000 in
set_option maxHeartbeats 800000 in
theorem head_any (f : UInt8) (s : ByteArray) (w : World) (hs : s.size ≤ 512) :
    Calls Tryd.prog 11 #[.int .u8 (f.toNat : Int), .string s] w fun e w' => e = .returned (.string ⟨(f :: putB s.size).toArray⟩) ∧ Below w.heap.size w w' := by
  have hfb := f.toNat_lt
  have e1 : IntKind.u64.wrap (s.size : Int) = (s.size : Int) := by rw [IntKind.wrap_u64]; omega
  have hL := putB_len10 s.size (by omega)
  have hcv := one_string_at (f.toNat : Int)
  have hos := one_size (f.toNat : Int)
  have hoc := Hid.mk' (one_catF f (putB s.size))
  generalize strOfNums [(f.toNat : Int)] = t at *
  go_enter Tryd.func11, Tryd.ntmps11
  go_wp2_with fail
  go_region_with (go_at_call 9; refine (put_num s.size _ (by omega)).mono ?_; rintro e w1 ⟨rfl, hb⟩; have hcc := bcellH hb; have HB := Hid.mk' hb; clear hb)
  all_goals
    go_wp2_with fail
    go_ret
    refine ⟨?_, ?_⟩
    · rw [← hoc.out]; rfl
    · first
        | exact (((Below.refl _ _).alloc (Nat.le_refl _) _).drew).trans (HB.out.mono (by simp))
        | exact ((Below.refl _ _).drew.trans HB.out).alloc HB.out.size _
end Go.Proofs.YtcalbicfnhoklaaDoor

/- Bits as a list of ints. -/
namespace Go.Proofs.YtcalbicfnhoklaaDoor
open Go.RowKit

theorem infoIntB : (Tryd.prog.info? 3).map (fun i => (i.zero, i.size, i.bytes)) = some (some (.int .i64 0), 1, 8) := by kernel_rfl
/-- the bits of a number, from bit a on -/
def bitsC (X k : Nat) : List Value := (List.range k).map fun i => .int .i64 ((X / 2 ^ i % 2 : Nat) : Int)
theorem bitsC_succ (X k : Nat) : bitsC X (k + 1) = bitsC X k ++ [.int .i64 ((X / 2 ^ k % 2 : Nat) : Int)] := by simp [bitsC, List.range_succ]
theorem two_bits (a b : Nat) (h : decide (a % 2 = 1) = decide (b % 2 = 1)) : a % 2 = b % 2 := by
  have h1 := Nat.mod_two_eq_zero_or_one a
  have h2 := Nat.mod_two_eq_zero_or_one b
  rcases h1 with h1 | h1 <;> rcases h2 with h2 | h2 <;> simp_all
theorem bit_txt (l : List UInt8) (j t : Nat) (ht : t < 8) : txtN l / 2 ^ (8 * j + t) % 2 = (l.getD j 0).toNat / 2 ^ t % 2 := by
  have h := txtN_bit l j t ht
  rw [Nat.testBit_eq_decide_div_mod_eq, Nat.testBit_eq_decide_div_mod_eq] at h
  exact two_bits _ _ h
theorem i64_and1' (q : Nat) (h : q < 9223372036854775808) : bits .and .i64 (q : Int) 1 = ((q % 2 : Nat) : Int) := by
  have e : (BitVec.ofInt 64 (q : Int) &&& BitVec.ofInt 64 1).toNat = q % 2 := by
    rw [BitVec.toNat_and, BitVec.ofInt_natCast, BitVec.toNat_ofNat, Nat.mod_eq_of_lt (by omega), show (BitVec.ofInt 64 1).toNat = 1 by decide, Nat.and_one_is_mod]
  show IntKind.i64.wrap ((BitVec.ofInt 64 (q : Int) &&& BitVec.ofInt 64 1).toNat : Nat) = _
  rw [e, IntKind.wrap_i64]
  omega
theorem bit_val (b : UInt8) (q : Nat) : bits .and .i64 (wrap64 ((b.toNat : Nat) : Int) / 2 ^ q) 1 = ((b.toNat / 2 ^ q % 2 : Nat) : Int) := by
  have hb := b.toNat_lt
  have e : wrap64 ((b.toNat : Nat) : Int) = ((b.toNat : Nat) : Int) := by
    unfold wrap64; omega
  have hle := Nat.div_le_self b.toNat (2 ^ q)
  rw [e, show ((b.toNat : Nat) : Int) / 2 ^ q = ((b.toNat / 2 ^ q : Nat) : Int) by simp, i64_and1' _ (by omega)]
theorem below_grow' {w wr w1 : World} {N k : Nat} {e : TypeId} {v : Value} {xs : List Value} {o : Obj} (hown : wr.ownsRow N e 1 v k xs) (hbl : Below N w wr) (hN : N ≤ wr.heap.size) (hg : (wr.alloc o).grownBy w1 v.ownBlock) : Below N w w1 :=
  (hbl.alloc hN o).grown hg (by simp; omega) fun j hj => (hown.lt j hj).1

theorem getN_step (X a m : Nat) : getN X a (m + 1) = 2 * getN X (a + 1) m + X / 2 ^ a % 2 := by
  unfold getN
  rw [Nat.pow_succ, Nat.mul_comm (2 ^ m) 2, Nat.mod_mul, Nat.pow_succ, Nat.div_div_eq_div_mul]
  omega
/-- what is left of the bits -/
structure BV (w : World) (v : Value) (X a rem : Nat) : Prop where
  is : ∃ ao cap, v = .slice ao rem cap ∧ rem ≤ cap ∧ (0 < rem → ∃ g off, ao = some ⟨g, off, none⟩ ∧ g < w.heap.size ∧ ∀ i, i < rem → w.cell? ⟨g, off + i, none⟩ = some (.int .i64 ((X / 2 ^ (a + i) % 2 : Nat) : Int)))
theorem bv_of_own {w : World} {N n X : Nat} {v : Value} (h : w.ownsRow N 3 1 v n (bitsC X n)) : BV w v X 0 n := by
  rcases h.2 with ⟨rfl, rfl⟩ | ⟨g, cap, cur, rfl, _, hg, hc, _, _, _⟩
  · exact ⟨none, 0, rfl, Nat.le_refl _, fun hp => by omega⟩
  · refine ⟨some ⟨g, 0, none⟩, cap, rfl, hc, fun _ => ⟨g, 0, rfl, (Array.getElem?_eq_some_iff.1 hg).1, fun i hi => ?_⟩⟩
    rw [Nat.zero_add, h.cellAt i (by omega)]
    simp [bitsC, hi]
theorem bv_next {w : World} {bo : Option Addr} {rem bc X a wd : Nat} (hr : wd ≤ rem) (hb : rem ≤ bc) (hc : 0 < rem → ∃ g off, bo = some ⟨g, off, none⟩ ∧ g < w.heap.size ∧ ∀ i, i < rem → w.cell? ⟨g, off + i, none⟩ = some (.int .i64 ((X / 2 ^ (a + i) % 2 : Nat) : Int))) :
    BV w (.slice (if bc = wd then bo else bo.map (·.add wd)) (rem - wd) (bc - wd)) X (a + wd) (rem - wd) := by
  refine ⟨_, _, rfl, by omega, fun hp => ?_⟩
  obtain ⟨g, off, rfl, hg, hcc⟩ := hc (by omega)
  rw [if_neg (by omega)]
  refine ⟨g, off + wd, by unfold Addr.add; simp, hg, fun i hi => ?_⟩
  rw [Nat.add_assoc, Nat.add_assoc]
  exact hcc (wd + i) (by omega)
end Go.Proofs.YtcalbicfnhoklaaDoor

/- A row of marks, whatever they are, that is written. -/
namespace Go.Proofs.YtcalbicfnhoklaaDoor
open Go.RowKit

structure RowMs (w : World) (g len : Nat) (M : Nat → Mk) : Prop where
  c0 : ∀ i, i < len → w.cell? ⟨g, i * 3, none⟩ = some (.int .i64 (M i).ln)
  c1 : ∀ i, i < len → w.cell? ⟨g, i * 3 + 1, none⟩ = some (.int .i64 (M i).ds)
  c2 : ∀ i, i < len → w.cell? ⟨g, i * 3 + 2, none⟩ = some (.int .u8 ((M i).by' : Int))
  fz : ∀ p, p < len * 3 → w.frozen? ⟨g, p, none⟩ = false
  lt : g < w.heap.size
theorem RowMs.block {w w' : World} {g len : Nat} {M : Nat → Mk} (h : RowMs w g len M) (hb : w'.heap[g]? = w.heap[g]?) (hl : w.heap.size ≤ w'.heap.size) : RowMs w' g len M :=
  have hc : ∀ p, w'.cell? ⟨g, p, none⟩ = w.cell? ⟨g, p, none⟩ := fun _ => World.cell?_of_block hb
  ⟨fun i hi => (hc _).trans (h.c0 i hi), fun i hi => (hc _).trans (h.c1 i hi), fun i hi => (hc _).trans (h.c2 i hi), fun p hp => (World.frozen?_of_block (w := w) (a := ⟨g, p, none⟩) hb).trans (h.fz p hp), Nat.lt_of_lt_of_le h.lt hl⟩
theorem RowMs.set {w : World} {g len : Nat} {M : Nat → Mk} (h : RowMs w g len M) (k : Nat) (hk : k < len) (m : Mk) :
    RowMs (((w.setCell ⟨g, k * 3, none⟩ (.int .i64 m.ln)).setCell ⟨g, k * 3 + 1, none⟩ (.int .i64 m.ds)).setCell ⟨g, k * 3 + 2, none⟩ (.int .u8 (m.by' : Int))) g len (fun i => if i = k then m else M i) := by
  have ne : ∀ a b : Nat, a ≠ b → (⟨g, a, none⟩ : Addr) ≠ ⟨g, b, none⟩ := fun a b hab e => by simp only [Addr.mk.injEq] at e; omega
  refine ⟨fun i hi => ?_, fun i hi => ?_, fun i hi => ?_, fun p hp => ?_, by simpa [World.setCell] using h.lt⟩
  · rw [World.cell?_setCell_other _ _ _ _ (ne _ _ (by omega)), World.cell?_setCell_other _ _ _ _ (ne _ _ (by omega))]
    by_cases e : i = k
    · subst e; rw [if_pos rfl]; exact World.cell?_setCell_same _ _ _ (h.c0 i hi)
    · rw [if_neg e, World.cell?_setCell_other _ _ _ _ (ne _ _ (by omega))]; exact h.c0 i hi
  · rw [World.cell?_setCell_other _ _ _ _ (ne _ _ (by omega))]
    by_cases e : i = k
    · subst e; rw [if_pos rfl]
      exact World.cell?_setCell_same _ _ _ (u := .int .i64 (M i).ds) (by rw [World.cell?_setCell_other _ _ _ _ (ne _ _ (by omega))]; exact h.c1 i hi)
    · rw [if_neg e, World.cell?_setCell_other _ _ _ _ (ne _ _ (by omega)), World.cell?_setCell_other _ _ _ _ (ne _ _ (by omega))]; exact h.c1 i hi
  · by_cases e : i = k
    · subst e; rw [if_pos rfl]
      exact World.cell?_setCell_same _ _ _ (u := .int .u8 ((M i).by' : Int)) (by rw [World.cell?_setCell_other _ _ _ _ (ne _ _ (by omega)), World.cell?_setCell_other _ _ _ _ (ne _ _ (by omega))]; exact h.c2 i hi)
    · rw [if_neg e, World.cell?_setCell_other _ _ _ _ (ne _ _ (by omega)), World.cell?_setCell_other _ _ _ _ (ne _ _ (by omega)), World.cell?_setCell_other _ _ _ _ (ne _ _ (by omega))]; exact h.c2 i hi
  · rw [World.frozen?_setCell, World.frozen?_setCell, World.frozen?_setCell]; exact h.fz p hp
theorem rowMs_made (w : World) (len : Nat) (t : TypeId) : RowMs (w.alloc (.cells (madeCells #[.int .i64 0, .int .i64 0, .int .u8 0] (len * 3)) t)) w.heap.size len (fun _ => ⟨0, 0, 0⟩) := by
  have hc : ∀ p, p < len * 3 → (w.alloc (.cells (madeCells #[.int .i64 0, .int .i64 0, .int .u8 0] (len * 3)) t)).cell? ⟨w.heap.size, p, none⟩ = some (#[Value.int .i64 0, .int .i64 0, .int .u8 0][p % 3]'(by simp; omega)) := fun p hp => by
    rw [World.cell?_alloc_new]
    simp [madeCells, hp]
    rw [List.getElem?_eq_getElem (by simp; omega)]
    rfl
  refine ⟨fun i hi => ?_, fun i hi => ?_, fun i hi => ?_, fun p _ => ?_, by simp⟩
  · rw [hc _ (by omega)]; simp [Nat.mul_mod_left]
  · rw [hc _ (by omega)]; simp [Nat.mul_add_mod_self_right]
  · rw [hc _ (by omega)]; simp [Nat.mul_add_mod_self_right]
  · unfold World.frozen?
    rw [heap_alloc_new]
    rfl
theorem RowMs.congr {w : World} {g len : Nat} {M M' : Nat → Mk} (h : RowMs w g len M) (he : ∀ i, i < len → M i = M' i) : RowMs w g len M' :=
  ⟨fun i hi => by rw [← he i hi]; exact h.c0 i hi, fun i hi => by rw [← he i hi]; exact h.c1 i hi, fun i hi => by rw [← he i hi]; exact h.c2 i hi, h.fz, h.lt⟩
theorem RowMs.mks {w : World} {g len : Nat} {M : Nat → Mk} (h : RowMs w g len M) (hn : len ≤ 512) (hB : ∀ i, i < len → (-9223372036854775808 ≤ (M i).ln ∧ (M i).ln ≤ 9223372036854775807) ∧ (-9223372036854775808 ≤ (M i).ds ∧ (M i).ds ≤ 9223372036854775807) ∧ (M i).by' < 256) : Mks w (some ⟨g, 0, none⟩) len M :=
  ⟨by omega, fun _ => ⟨g, 0, rfl, h.lt, fun i hi => by rw [Nat.zero_add]; exact ⟨h.c0 i hi, h.c1 i hi, h.c2 i hi⟩⟩, fun i hi => (hB i hi).1, fun i hi => (hB i hi).2.1, fun i hi => (hB i hi).2.2⟩
end Go.Proofs.YtcalbicfnhoklaaDoor

/- What lz.size and lz.add answer. -/
namespace Go.Proofs.YtcalbicfnhoklaaDoor
open Go.RowKit

set_option maxHeartbeats 400000 in
theorem size_any (x y : Int) (z : Nat) (w : World) (h : okM ⟨x, y, z⟩ = true) :
    Calls Tryd.prog 65 #[.agg #[.int .i64 x, .int .i64 y, .int .u8 (z : Int)]] w fun e w' => e = .returned (.int .i64 (szM ⟨x, y, z⟩ : Nat)) ∧ Below w.heap.size w w' := by
  have hB : Hid (∀ o : Obj, Below w.heap.size w (w.alloc o)) := fun o => (Below.refl _ _).alloc (Nat.le_refl _) o
  have ho := okM_of h
  clear h
  simp only at ho
  by_cases h0 : x = 0
  · subst h0
    go_enter Tryd.func65, Tryd.ntmps65
    go_wp2_with fail
    go_ret
    exact ⟨rfl, hB.out _⟩
  · have hs : Hid ((szM ⟨x, y, z⟩ : Int) = x) := by
      show _ = _
      unfold szM
      rw [if_neg h0]
      simp only
      omega
    have hmx : (if x < 1 then (1 : Int) else x) = x := by rw [if_neg (by omega)]
    have h3 : 1 < x := by omega
    clear ho h0
    go_enter Tryd.func65, Tryd.ntmps65
    go_wp2_with fail
    go_ret
    exact ⟨by rw [hs.out]; first | rfl | (congr 2), hB.out _⟩

theorem cell_one_new2 (w : World) (o : Obj) (v : Value) (t : TypeId) : ∀ j u, [v][j]? = some u → ((w.alloc o).alloc (.cells #[v] t)).cell? ((⟨w.heap.size + 1, 0, none⟩ : Addr).add j) = some u := by
  have h := cell_one_new (w.alloc o) v t
  rwa [show (w.alloc o).heap.size = w.heap.size + 1 by simp] at h
theorem own_byte {w : World} {N n : Nat} {v : Value} {l : List UInt8} (h : w.ownsRow N 5 1 v n (cellsB l)) (hn : n = l.length) (j : Nat) (hj : j < l.length) :
    ∃ g cap, v = .slice (some ⟨g, 0, none⟩) n cap ∧ g < w.heap.size ∧ w.cell? ⟨g, j, none⟩ = some (.int .u8 ((l.getD j 0).toNat : Int)) := by
  obtain ⟨g, cap, hv, _, hg, hc⟩ := own_some h (by omega)
  refine ⟨g, cap, hv, hg, ?_⟩
  have := hc j (.int .u8 ((l.getD j 0).toNat : Int)) (by
    unfold cellsB
    rw [List.getElem?_map, List.getElem?_eq_getElem hj, List.getD_eq_getElem?_getD, List.getElem?_eq_getElem hj]; rfl)
  rw [show (⟨g, 0, none⟩ : Addr).add j = ⟨g, j, none⟩ by unfold Addr.add; split <;> simp_all] at this
  exact this

set_option maxRecDepth 20000 in
set_option maxHeartbeats 1000000 in
theorem add_any (N : Nat) (w0 : World) (v : Value) (l : List UInt8) (x y : Int) (z : Nat) (w : World) (hown : w.ownsRow N 5 1 v l.length (cellsB l)) (hbl : Below N w0 w) (hN : N ≤ w.heap.size) (hok : okM ⟨x, y, z⟩ = true) (hd : y ≤ l.length) (hl : l.length + szM ⟨x, y, z⟩ ≤ 512) (hz : z < 256) :
    Calls Tryd.prog 66 #[v, .agg #[.int .i64 x, .int .i64 y, .int .u8 (z : Int)]] w fun e w' => (∃ v', e = .returned v' ∧ w'.ownsRow N 5 1 v' (addM l ⟨x, y, z⟩).length (cellsB (addM l ⟨x, y, z⟩))) ∧ Below N w0 w' := by
  obtain ⟨i0, hi, hz0, hz1, hz2⟩ := info_parts infoByteP
  have KI := Hid.mk' hi
  have KZ0 := Hid.mk' hz0
  have KZ1 := Hid.mk' hz1
  have KZ2 := Hid.mk' hz2
  clear hi hz0 hz1 hz2
  have ho := okM_of hok
  simp only at ho
  clear hok
  have hnB : Hid (v.ownBlock ≠ some w.heap.size) := fun h => by have := (hown.lt _ h).2; omega
  have HO := Hid.mk' hown
  have HB := Hid.mk' hbl
  clear hown hbl
  by_cases h0 : x = 0
  · have had : Hid (addM l ⟨x, y, z⟩ = l ++ [UInt8.ofNat z]) := by show _ = _; unfold addM; rw [if_pos h0]
    have hzv : Hid (((UInt8.ofNat z).toNat : Int) = z) := by show _ = _; rw [UInt8.toNat_ofNat']; omega
    have hl2 : l.length ≤ 512 := by omega
    subst h0
    clear ho hl hd
    generalize UInt8.ofNat z = b at *
    go_enter Tryd.func66, Tryd.ntmps66
    go_wp2_with (at_builtin; refine wpList_append_own _ rfl (.tmp 8) (.tmp 11) 27 rfl N 5 i0 (.int .u8 0) 1 1 Tryd.underlying27 KI.out KZ0.out KZ1.out KZ2.out rfl (by decide) v _ _ rfl ((HO.out.alloc _).alloc _) ⟨w.heap.size + 1, 0, none⟩ 1 1 [.int .u8 (z : Int)] rfl rfl (cell_one_new2 w _ _ _) (one_int _ _) (by unfold maxLen; omega) (by omega) (by simp; omega) ?_; intro v' w1 hown1 hgrow1 _)
    have HB4 : Hid (Below N w0 w1) := ((HB.out.alloc hN _).alloc (by simp; omega) _).grown hgrow1 (by simp; omega) fun i hi => (HO.out.lt i hi).1
    have HO4 : Hid (w1.ownsRow N 5 1 v' (l ++ [b]).length (cellsB (l ++ [b]))) := by
      rw [List.length_append, cellsB_snoc, hzv.out]; exact hown1
    clear hown1 hgrow1
    go_wp2_with fail
    go_ret
    rw [had.out]
    exact ⟨⟨v', rfl, HO4.out⟩, HB4.out⟩
  · have hx3 : 3 ≤ x := by omega
    have hx6 : x ≤ 66 := by omega
    have hy1 : 1 ≤ y := by omega
    have t0 : (x == 0) = false := by rw [beq_eq_false_iff_ne]; omega
    obtain ⟨n, hn⟩ : ∃ n : Nat, x = (n : Int) := ⟨x.toNat, by omega⟩
    obtain ⟨d, hdd⟩ : ∃ d : Nat, y = (d : Int) := ⟨y.toNat, by omega⟩
    subst hn hdd
    have had : Hid (addM l ⟨(n : Int), (d : Int), z⟩ = cpy d n l) := by
      show _ = _
      unfold addM
      rw [if_neg (by simp only; omega)]
      simp only [Int.toNat_natCast]
    have hln : l.length + n ≤ 512 := by
      have : szM ⟨(n : Int), (d : Int), z⟩ = n := by unfold szM; rw [if_neg (by simp only; omega)]; simp only [Int.toNat_natCast]
      omega
    have hdl : d ≤ l.length := by omega
    have hd1 : 1 ≤ d := by omega
    clear ho hl hd h0
    go_enter Tryd.func66, Tryd.ntmps66
    go_wp2_with fail
    obtain ⟨W1, hW1⟩ : ∃ W1, Hid (w.alloc (.cells #[.int .i64 (n : Int), .int .i64 (d : Int), .int .u8 (z : Int)] 66) = W1) := ⟨_, Hid.mk' rfl⟩
    have HO1 : Hid (W1.ownsRow N 5 1 v l.length (cellsB l)) := by rw [← hW1.out]; exact HO.out.alloc _
    have HB1 : Hid (Below N w0 W1) := by rw [← hW1.out]; exact HB.out.alloc hN _
    have HC1 : Hid (W1.cell? ⟨w.heap.size, 1, none⟩ = some (.int .i64 (d : Int))) := by rw [← hW1.out]; show _ = _; rw [World.cell?_alloc_new]; rfl
    have HS1 : Hid (w.heap.size < W1.heap.size) := by rw [← hW1.out]; show _ < _; simp
    rw [hW1.out]
    go_loopw [0, 15] (fun ov iv wr => ∃ (k : Nat) (m : List UInt8), k ≤ n ∧ iv = .int .i64 (k : Int) ∧ wr.ownsRow N 5 1 ov m.length (cellsB m) ∧ m.length = l.length + k ∧ cpy d (n - k) m = cpy d n l ∧ wr.cell? ⟨w.heap.size, 1, none⟩ = some (.int .i64 (d : Int)) ∧ ov.ownBlock ≠ some w.heap.size ∧ w.heap.size < wr.heap.size ∧ Below N w0 wr) (fun _ iv _ => n - (intOf iv).toNat)
    case atStart => exact ⟨0, l, Nat.zero_le _, rfl, HO1.out, rfl, rfl, HC1.out, hnB.out, HS1.out, HB1.out⟩
    case round =>
      obtain ⟨k, m, hk, rfl, hown, hml, hcp, hcd, hne, hsz, hbl⟩ := hrel
      have HOr := Hid.mk' hown
      have HCp := Hid.mk' hcp
      have HNe := Hid.mk' hne
      have HBr := Hid.mk' hbl
      have HML := Hid.mk' hml
      clear hown hcp hne hbl
      by_cases hlt : k < n
      · obtain ⟨j, hj⟩ : ∃ j, m.length - d = j := ⟨_, rfl⟩
        obtain ⟨g, cp, rfl, hg, hcell⟩ := own_byte HOr.out rfl j (by omega)
        have HStep : Hid (cpy d (n - (k + 1)) (m ++ [m.getD j 0]) = cpy d n l) := by
          show _ = _
          rw [← HCp.out, show n - k = (n - (k + 1)) + 1 by omega, cpy, hj]
        obtain ⟨L, hL⟩ : ∃ L, m.length = L := ⟨_, rfl⟩
        have hLd : (L : Int) - (d : Int) = (j : Int) := by omega
        have hjL : j < L := by omega
        have hLb : L ≤ 512 := by omega
        generalize m.getD j 0 = b at *
        rw [hL]
        rw [hL] at HOr
        clear hml hj
        go_wp2_with (at_builtin; refine wpList_append_own_at _ rfl (.tmp 17) (.tmp 26) 27 rfl N 5 i0 (.int .u8 0) 1 1 Tryd.underlying27 KI.out KZ0.out KZ1.out KZ2.out rfl (by decide) (.slice (some ⟨g, 0, none⟩) L cp) _ _ rfl (HOr.out.alloc _) ⟨wr.heap.size, 0, none⟩ 1 1 [.int .u8 (b.toNat : Int)] rfl rfl (cell_one_new _ _ _) (one_int _ _) (by unfold maxLen; omega) (by omega) (by have := HBr.out.size; simp; omega) ?_; intro v5 w5 hown5 hgrow5 _ hat5)
        have HO5 : Hid (w5.ownsRow N 5 1 v5 (m ++ [b]).length (cellsB (m ++ [b]))) := by
          rw [List.length_append, cellsB_snoc, hL]; exact hown5
        have HB5 : Hid (Below N w0 w5) := (HBr.out.alloc (by have := HBr.out.size; omega) _).grown hgrow5 (by have := HBr.out.size; simp; omega) fun i hi => (HOr.out.lt i hi).1
        have hs5 := hgrow5.size
        have hs6 : w.heap.size < w5.heap.size := by simp at hs5; omega
        have HC5 : Hid (w5.cell? ⟨w.heap.size, 1, none⟩ = some (.int .i64 (d : Int))) := by
          show _ = _
          rw [World.cell?_of_block (hgrow5.block w.heap.size (by simp; omega) (fun he => HNe.out he.symm))]
          rw [World.cell?_of_block (w := wr) (heap_alloc_old wr _ hsz)]
          exact hcd
        have HN5 : Hid (v5.ownBlock ≠ some w.heap.size) := by
          intro he
          rcases hat5 with h1 | h1
          · exact HNe.out (h1 ▸ he)
          · rw [he] at h1
            simp at h1
            omega
        have HL5 : Hid ((m ++ [b]).length = l.length + (k + 1)) := by show _ = _; have := HML.out; simp; omega
        clear hown5 hgrow5 hat5
        go_wp2_with fail
        go_roundw
        case rel => exact ⟨k + 1, m ++ [b], by omega, by go_num, HO5.out, HL5.out, HStep.out, HC5.out, HN5.out, hs6, HB5.out⟩
        case measure => simp [intOf]; omega
      · have hkn : k = n := by omega
        have hend : Hid (m = cpy d n l) := by
          show _ = _
          rw [← HCp.out, hkn, Nat.sub_self]; rfl
        go_wp2_with fail
        go_ret
        rw [had.out, ← hend.out]
        exact ⟨⟨_, rfl, HOr.out⟩, HBr.out⟩
end Go.Proofs.YtcalbicfnhoklaaDoor

/- What lz.Expand answers. -/
namespace Go.Proofs.YtcalbicfnhoklaaDoor
open Go.RowKit

theorem box_cells (w : World) (x y z : Value) (t : TypeId) : (w.alloc (.cells #[x, y, z] t)).cell? ⟨w.heap.size, 0, none⟩ = some x ∧ (w.alloc (.cells #[x, y, z] t)).cell? ⟨w.heap.size, 1, none⟩ = some y ∧ (w.alloc (.cells #[x, y, z] t)).cell? ⟨w.heap.size, 2, none⟩ = some z := by
  refine ⟨?_, ?_, ?_⟩ <;> (rw [World.cell?_alloc_new]; rfl)

set_option maxRecDepth 20000 in
set_option maxHeartbeats 1000000 in
theorem expand_any (a0 : Option Addr) (len cap : Nat) (M : Nat → Mk) (w : World) (hP : Mks w a0 len M) :
    Calls Tryd.prog 44 #[.slice a0 len cap] w fun e w' => e = .returned (.tuple #[.string ⟨(exA (mkL M 0 len)).toArray⟩, .int .i64 (exE (mkL M 0 len) [])]) ∧ Below w.heap.size w w' := by
  have hlen := hP.lenB
  have HP := Hid.mk' hP
  clear hP
  go_enter Tryd.func44, Tryd.ntmps44
  go_wp2_with fail
  go_loopw [4, 10] (fun ov iv wr => ∃ (k : Nat) (out : List UInt8), k ≤ len ∧ iv = .int .i64 (k : Int) ∧ wr.ownsRow w.heap.size 5 1 ov out.length (cellsB out) ∧ out.length ≤ 512 ∧ exE (mkL M 0 len) [] = exE (mkL M k len) out ∧ exT (mkL M 0 len) [] = exT (mkL M k len) out ∧ Below w.heap.size w wr) (fun _ iv _ => len - (intOf iv).toNat)
  case atStart => exact ⟨0, [], Nat.zero_le _, rfl, World.ownsRow_nil _ _ _ _, by simp, rfl, rfl, Below.refl _ _⟩
  case round =>
    obtain ⟨k, out, hk, rfl, hown, hol, hE, hT, hbl⟩ := hrel
    have HO := Hid.mk' hown
    have HE := Hid.mk' hE
    have HT := Hid.mk' hT
    have HB := Hid.mk' hbl
    have hsz := hbl.size
    obtain ⟨ao, cp, rfl⟩ := own_slice' hown
    clear hown hE hT hbl
    by_cases hlt : k < len
    · obtain ⟨b, off, rfl, hb, hc⟩ := HP.out.at' (by omega)
      have c0 := (HB.out.cell (p := ⟨b, off + k * 3, none⟩) hb).trans (hc k hlt).1
      have c1 := (HB.out.cell (p := ⟨b, off + k * 3 + 1, none⟩) hb).trans (hc k hlt).2.1
      have c2 := (HB.out.cell (p := ⟨b, off + k * 3 + 2, none⟩) hb).trans (hc k hlt).2.2
      have hby := HP.out.bB k hlt
      have hlb := HP.out.lB k hlt
      have hdb := HP.out.dB k hlt
      have hcons := Hid.mk' (mkL_cons M k len hlt)
      obtain ⟨m, hm⟩ : ∃ m, Hid (M k = m) := ⟨_, Hid.mk' rfl⟩
      rw [hm.out] at c0 c1 c2 hby hlb hdb hcons
      clear hc
      obtain ⟨x, y, z⟩ := m
      simp only at c0 c1 c2 hby hlb hdb
      obtain ⟨hl1, hl2⟩ := hlb
      obtain ⟨hd1, hd2⟩ := hdb
      have hbc := box_cells wr (.int .i64 x) (.int .i64 y) (.int .u8 (z : Int)) 66
      obtain ⟨W1, hW1⟩ : ∃ W1, Hid (wr.alloc (.cells #[.int .i64 x, .int .i64 y, .int .u8 (z : Int)] 66) = W1) := ⟨_, Hid.mk' rfl⟩
      rw [hW1.out] at hbc
      have HB1 : Hid (Below w.heap.size w W1) := by rw [← hW1.out]; exact HB.out.alloc hsz _
      have HO1 : Hid (W1.ownsRow w.heap.size 5 1 (.slice ao out.length cp) out.length (cellsB out)) := by rw [← hW1.out]; exact HO.out.alloc _
      have hs1 : W1.heap.size = wr.heap.size + 1 := by rw [← hW1.out]; simp
      obtain ⟨b0, b1, b2⟩ := hbc
      go_wp2_with fail
      rw [hW1.out]
      go_wp2_with fail
      refine (check_any x y z _).mono ?_
      rintro e w2 ⟨rfl, hb2⟩
      have d0 := (hb2.cell (p := ⟨wr.heap.size, 0, none⟩) (by show wr.heap.size < _; omega)).trans b0
      have d1 := (hb2.cell (p := ⟨wr.heap.size, 1, none⟩) (by show wr.heap.size < _; omega)).trans b1
      have d2 := (hb2.cell (p := ⟨wr.heap.size, 2, none⟩) (by show wr.heap.size < _; omega)).trans b2
      have HB2 := Hid.mk' (HB1.out.trans (hb2.mono (by have := HB1.out.size; omega)))
      have HO2 := Hid.mk' (own_below HO1.out hb2)
      have hs2 := hb2.size
      clear b0 b1 b2 hb2 c0 c1 c2
      cases hok : okM ⟨x, y, z⟩ with
      | false =>
        have hc4 : chkM ⟨x, y, z⟩ = 4 := by unfold chkM; rw [hok]; rfl
        have hfe : Hid (exE (mkL M 0 len) [] = 4) := by show _ = _; rw [HE.out, hcons.out]; exact exE_form _ _ _ hok
        have hfa := Hid.mk' (exA_bad _ _ hfe.out (by decide))
        rw [hc4]
        clear hok hc4
        go_wp2_with fail
        go_ret2
        refine ⟨?_, HB2.out⟩
        rw [hfe.out, hfa.out]
        rfl
      | true =>
        have hc0 : chkM ⟨x, y, z⟩ = 0 := by unfold chkM; rw [hok]; rfl
        have HK := Hid.mk' hok
        rw [hc0]
        clear hok hc0
        by_cases hd : (out.length : Int) < y
        · have hfe : Hid (exE (mkL M 0 len) [] = 8) := by show _ = _; rw [HE.out, hcons.out]; exact exE_dist _ _ _ HK.out hd
          have hfa := Hid.mk' (exA_bad _ _ hfe.out (by decide))
          go_wp2_with fail
          go_ret2
          refine ⟨?_, HB2.out⟩
          rw [hfe.out, hfa.out]
          rfl
        · have hyl : y ≤ out.length := by omega
          clear hd
          go_wp2_with fail
          refine (size_any x y z _ HK.out).mono ?_
          rintro e w3 ⟨rfl, hb3⟩
          have f0 := (hb3.cell (p := ⟨wr.heap.size, 0, none⟩) (by show wr.heap.size < _; omega)).trans d0
          have f1 := (hb3.cell (p := ⟨wr.heap.size, 1, none⟩) (by show wr.heap.size < _; omega)).trans d1
          have f2 := (hb3.cell (p := ⟨wr.heap.size, 2, none⟩) (by show wr.heap.size < _; omega)).trans d2
          have HB3 := Hid.mk' (HB2.out.trans (hb3.mono (by have := HB2.out.size; omega)))
          have HO3 := Hid.mk' (own_below HO2.out hb3)
          have hs3 := hb3.size
          clear d0 d1 d2 hb3
          obtain ⟨n, hn⟩ : ∃ n, Hid (szM ⟨x, y, z⟩ = n) := ⟨_, Hid.mk' rfl⟩
          have hn66 : n ≤ 66 := by
            rw [← hn.out]
            have := okM_of HK.out
            unfold szM
            simp only at this ⊢
            split <;> omega
          rw [hn.out]
          by_cases hlg : 512 < out.length + n
          · have tl : decide (512 < out.length + n) = true := decide_eq_true hlg
            have hfe : Hid (exE (mkL M 0 len) [] = 2) := by show _ = _; rw [HE.out, hcons.out]; exact exE_large _ _ _ HK.out (Int.not_lt.2 hyl) (by rw [hn.out]; exact hlg)
            have hfa := Hid.mk' (exA_bad _ _ hfe.out (by decide))
            go_wp2_with fail
            go_ret2
            refine ⟨?_, HB3.out⟩
            rw [hfe.out, hfa.out]
            rfl
          · have tl : decide (512 < out.length + n) = false := decide_eq_false hlg
            have HE6 : Hid (exE (mkL M 0 len) [] = exE (mkL M (k + 1) len) (addM out ⟨x, y, z⟩)) := by show _ = _; rw [HE.out, hcons.out]; exact exE_step _ _ _ HK.out (Int.not_lt.2 hyl) (by rw [hn.out]; exact hlg)
            have HT6 : Hid (exT (mkL M 0 len) [] = exT (mkL M (k + 1) len) (addM out ⟨x, y, z⟩)) := by show _ = _; rw [HT.out, hcons.out, exT]
            have HL6 : Hid ((addM out ⟨x, y, z⟩).length ≤ 512) := by show _ ≤ _; rw [addM_len, hn.out]; omega
            go_wp2_with fail
            refine (add_any w.heap.size w _ out x y z _ HO3.out HB3.out (by omega) HK.out hyl (by rw [hn.out]; omega) hby).mono ?_
            rintro e w4 ⟨⟨v4, rfl, hown4⟩, hb4⟩
            have HO4 := Hid.mk' hown4
            have HB4 := Hid.mk' hb4
            clear hown4 hb4
            go_wp2_with fail
            go_roundw
            case rel => exact ⟨k + 1, addM out ⟨x, y, z⟩, by omega, by go_num, HO4.out, HL6.out, HE6.out, HT6.out, HB4.out⟩
            case measure => simp [intOf]; omega
    · have hkl : k = len := by omega
      have hfe : Hid (exE (mkL M 0 len) [] = 0) := by show _ = _; rw [HE.out, hkl, mkL_end]; rfl
      have hfa : Hid (exA (mkL M 0 len) = out) := by show _ = _; rw [exA_ok _ hfe.out, HT.out, hkl, mkL_end]; rfl
      have hcs := own_string HO.out
      clear hkl
      go_wp2_with fail
      go_ret2
      refine ⟨?_, HB.out⟩
      rw [hfe.out, hfa.out]
      rfl
end Go.Proofs.YtcalbicfnhoklaaDoor
