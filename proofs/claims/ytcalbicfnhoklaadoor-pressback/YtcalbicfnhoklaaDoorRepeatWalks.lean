import Derived.Test.YtcalbicfnhoklaaDoorMsai
import Derived.Test.YtcalbicfnhoklaaDoorMsaj
import Derived.Laws.IdiomCopy
import Derived.Laws.Bits64b
import Derived.Deep.RegionHeld3

/- What slices.Repeat answers of a slice of one int. -/
namespace Go.Proofs.YtcalbicfnhoklaaDoor
open Go.RowKit

theorem and_mask (n : Nat) (h : n ≤ 16) : bits .and .u64 (n : Int) 4294967295 = (n : Int) := by
  have h1 := bits_and_u64_nat n 4294967295 (by omega) (by omega)
  have e : n &&& 4294967295 = n % 4294967296 := Nat.and_two_pow_sub_one_eq_mod n 32
  rw [e, Nat.mod_eq_of_lt (by omega)] at h1
  exact h1
set_option maxHeartbeats 400000 in
theorem mul64_one (n : Nat) (hn : n ≤ 16) (w : World) :
    Calls Tryd.prog 97 #[.int .u64 1, .int .u64 (n : Int)] w fun e w' => e = .returned (.tuple #[.int .u64 0, .int .u64 (n : Int)]) ∧ w' = w := by
  have h0 := and_mask n hn
  have h1 : (n : Int) / 4294967296 = 0 := by omega
  have h2 : bits .and .u64 1 4294967295 = 1 := and_mask 1 (by omega)
  have h3 : bits .and .u64 0 4294967295 = 0 := and_mask 0 (by omega)
  go_enter Tryd.func97, Tryd.ntmps97
  go_wp2_with fail
  go_ret2
  exact ⟨rfl, rfl⟩
set_option maxHeartbeats 400000 in
theorem mul_one (n : Nat) (hn : n ≤ 16) (w : World) :
    Calls Tryd.prog 88 #[.int .u64 1, .int .u64 (n : Int)] w fun e w' => e = .returned (.tuple #[.int .u64 0, .int .u64 (n : Int)]) ∧ w' = w := by
  go_enter Tryd.func88, Tryd.ntmps88
  go_wp2_with fail
  refine (mul64_one n hn _).mono ?_
  rintro e w' ⟨rfl, rfl⟩
  go_wp2_with fail
  go_ret2
  exact ⟨rfl, rfl⟩
/-- copy as a step of a region, by its run -/
theorem step_copy_run {P : Program} {ops : Array Oper} {o : Oper} {a : Act} {w : World} {K : Act → World → Prop} {Q : Exit → Act → World → Prop} {E : Prop}
    (hg : o.guard = none) (d s : Operand) (t : TypeId) (hop : o.op = Op.call { callee := Callee.builtin Builtin.copy, args := #[d, s], argTypes := #[t, t] })
    (v u : Value) (hd : a.eval d = v) (hs : a.eval s = u) {v' : Value} {w' : World} (hr : (Builtin.copy_ #[t, t] o.type #[v, u]).run P w = .ok v' w')
    (hK : K (a.put o.dst v') w') :
    if Region.wanted o (yielded ops a.tmps) = true then Oper.wp P o a w K Q else E := by
  have hw : Region.wanted o (yielded ops a.tmps) = true := by simp [Region.wanted, hg]
  rw [if_pos hw]
  unfold Oper.wp
  simp [execOp, hop, resolve, invoke, builtin, hd, hs, hr, Result.andThen]
  exact hK
theorem infoSz : (Tryd.prog.info? 3).map (·.size) = some 1 := by kernel_rfl
theorem Row64.copy {w : World} {g n : Nat} {f : Nat → Int} (h : Row64 w g n f) (k : Nat) (c : Nat → Int) (m : Nat) (hk : k + m ≤ n) :
    Row64 (w.setCells g k (cellsC c m)) g n (fun i => if k ≤ i ∧ i < k + m then c (i - k) else f i) := by
  refine ⟨fun i hi => ?_, fun i hi => ?_, ?_⟩
  · by_cases hin : k ≤ i ∧ i < k + m
    · rw [if_pos hin]
      have hj : i - k < (cellsC c m).length := by rw [cellsC_length]; omega
      have := World.cell?_setCells_in g (cellsC c m) k w (fun j hj => by rw [cellsC_length] at hj; rw [h.cell (k + j) (by omega)]; rfl) (i - k) hj
      rw [show k + (i - k) = i by omega] at this
      rw [this]
      simp [cellsC]
    · rw [if_neg hin, World.cell?_setCells_out g (cellsC c m) k w _ (fun _ _ => by rw [cellsC_length]; show i < k ∨ k + m ≤ i; omega)]
      exact h.cell i hi
  · rw [World.frozen?_setCells]; exact h.open' i hi
  · have : ∀ (vs : List Value) (o : Nat) (w : World), (w.setCells g o vs).heap.size = w.heap.size := by
      intro vs
      induction vs with
      | nil => intro o w; rfl
      | cons v r ih => intro o w; rw [World.setCells, ih]; simp [World.setCell]
    rw [this]; exact h.lt
theorem Row64.drewD {w : World} {g n : Nat} {f : Nat → Int} (h : Row64 w g n f) : Row64 w.drew g n f := ⟨h.cell, h.open', h.lt⟩
theorem below_cells {B g : Nat} {w0 : World} : ∀ (vs : List Value) (o : Nat) (w : World), Below B w0 w → B ≤ g → Below B w0 (w.setCells g o vs) := by
  intro vs
  induction vs with
  | nil => intro o w h _; exact h
  | cons v r ih => intro o w h hg; rw [World.setCells]; exact ih _ _ (h.setCell hg _) hg
theorem copy_row {w : World} {g n : Nat} {f : Nat → Int} (h : Row64 w g n f) (k : Nat) (c : Nat → Int) (m : Nat) (hm : k + m ≤ n) (dLen dCap sLen sCap : Nat) (a : Addr) (hn : m = Nat.min sLen dLen) (hsrc : ∀ j, j < m → w.cell? (a.add j) = some (.int .i64 (c j))) (ty : TypeId) :
    (Builtin.copy_ #[50, 50] ty #[.slice (some ⟨g, k, none⟩) dLen dCap, .slice (some a) sLen sCap]).run Tryd.prog w = .ok (.int .i64 (m : Int)) (w.setCells g k (cellsC c m)) := by
  have := run_copy_cells (P := Tryd.prog) w 50 50 ty 3 g k dLen dCap a sLen sCap (cellsC c m) Tryd.underlying50 infoSz (by rw [cellsC_length]; exact hn)
    (fun j v hj => by
      have hlt : j < m := by have h1 := (List.getElem?_eq_some_iff.1 hj).1; rwa [cellsC_length] at h1
      rw [cellsC_at _ _ _ hlt] at hj
      rw [hsrc j hlt]; exact hj)
    (fun j hj => by rw [cellsC_length] at hj; rw [h.cell (k + j) (by omega)]; rfl) (fun j hj => by rw [cellsC_length] at hj; exact h.open' _ (by omega)) (cellsC_one _ _)
  rw [this, cellsC_length]; rfl
theorem make_ints (n : Nat) (hn : n ≤ 17592186044416) (w : World) :
    (Instr.makeSlice 50 (.int .i64 (n : Int)) (.int .i64 (n : Int))).run Tryd.prog w = .ok (.slice (some ⟨w.heap.size, 0, none⟩) n n) (w.alloc (.cells (madeCells #[.int .i64 0] n) 3)) := by
  obtain ⟨i, hi, hzz⟩ := Option.map_eq_some_iff.1 infoI64
  simp only [Prod.mk.injEq] at hzz
  obtain ⟨hz, hs, hb⟩ := hzz
  have hr := run_make (P := Tryd.prog) w 50 3 i _ Tryd.underlying50 hi hz .i64 .i64 n n (by omega) (Int.le_refl _) (by rw [hb]; omega) (by omega)
  rw [Int.toNat_natCast, hs, Nat.mul_one] at hr
  exact hr

set_option maxRecDepth 20000 in
set_option maxHeartbeats 1000000 in
theorem repeat_one (b off : Nat) (x : Int) (n : Nat) (w : World) (h1 : 1 ≤ n) (hn : n ≤ 16) (hc : w.cell? ⟨b, off, none⟩ = some (.int .i64 x)) (hb : b < w.heap.size) :
    Calls Tryd.prog 79 #[.slice (some ⟨b, off, none⟩) 1 1, .int .i64 (n : Int)] w fun e w' => (∃ g cap, e = .returned (.slice (some ⟨g, 0, none⟩) n cap) ∧ w.heap.size ≤ g ∧ Row64 w' g n (fun _ => x)) ∧ Below w.heap.size w w' := by
  have hmk := make_ints n (by omega)
  go_enter Tryd.func79, Tryd.ntmps79
  go_wp2_with fail
  refine (mul_one n hn _).mono ?_
  rintro e w ⟨rfl, rfl⟩
  have hrow := row64_made w n 3
  obtain ⟨W1, hW1⟩ : ∃ W1, Hid (w.alloc (.cells (madeCells #[.int .i64 0] n) 3) = W1) := ⟨_, Hid.mk' rfl⟩
  have HB1 : Hid (Below w.heap.size w W1) := by rw [← hW1.out]; exact (Below.refl _ _).alloc (Nat.le_refl _) _
  rw [hW1.out] at hrow
  have hcp := copy_row hrow 0 (fun _ => x) 1 (by omega) n n 1 1 ⟨b, off, none⟩ (by show 1 = min 1 n; omega) (fun j hj => by
    obtain rfl : j = 0 := by omega
    rw [add_plainC, Nat.add_zero]
    exact (HB1.out.cell (p := ⟨b, off, none⟩) hb).trans hc) 3
  have HR1 := Hid.mk' (hrow.copy 0 (fun _ => x) 1 (by omega))
  have HB2 := Hid.mk' (below_cells (g := w.heap.size) (cellsC (fun _ => x) 1) 0 W1 HB1.out (Nat.le_refl _))
  clear hrow
  have hmk' := hmk w
  rw [hW1.out] at hmk'
  clear hmk
  go_wp2_with (at_builtin; refine Lib.wpList_copy_run _ rfl (.tmp 31) (.tmp 32) 50 50 rfl _ _ rfl rfl hcp ?_)
  clear hcp hmk'
  go_loopw [8] (fun kv wr => ∃ (k : Nat) (f : Nat → Int), 1 ≤ k ∧ k ≤ n ∧ kv = .int .i64 (k : Int) ∧ Row64 wr w.heap.size n f ∧ (∀ i, i < k → f i = x) ∧ Below w.heap.size w wr) (fun kv _ => n - (intOf kv).toNat)
  case atStart => exact ⟨1, _, Nat.le_refl _, h1, rfl, HR1.out, fun i hi => by rw [if_pos (by omega)], HB2.out⟩
  case round =>
    obtain ⟨k, f, hk1, hkn, rfl, hrow, hf, hbl⟩ := hrel
    have HR := Hid.mk' hrow
    have HF := Hid.mk' hf
    have HB := Hid.mk' hbl
    clear hrow hf hbl
    by_cases hlt : k < n
    · obtain ⟨m, hm⟩ : ∃ m, Nat.min k (n - k) = m := ⟨_, rfl⟩
      have hm0 : 1 ≤ m := by have h9 : min k (n - k) = m := hm; omega
      have hmk : k + m ≤ n := by have h9 : min k (n - k) = m := hm; omega
      have HD := Hid.mk' HR.out.drewD
      have hcp := copy_row HD.out k f m hmk (n - k) (n - k) k n ⟨w.heap.size, 0, none⟩ hm.symm (fun j hj => by
        rw [add_plainC, Nat.zero_add]
        exact HD.out.cell j (by have h9 : min k (n - k) = m := hm; omega)) 3
      have HR2 := Hid.mk' (HD.out.copy k f m hmk)
      have HB2' := Hid.mk' (below_cells (g := w.heap.size) (cellsC f m) k wr.drew HB.out.drew (Nat.le_refl _))
      have HF2 : Hid (∀ i, i < k + m → (if k ≤ i ∧ i < k + m then f (i - k) else f i) = x) := fun i hi => by
        have h9 : min k (n - k) = m := hm
        by_cases hik : k ≤ i
        · rw [if_pos ⟨hik, hi⟩]; exact HF.out _ (by omega)
        · rw [if_neg (by omega)]; exact HF.out _ (by omega)
      have hne : ¬ n = k := by omega
      clear hm
      have hwr : IntKind.i64.wrap ((k : Int) + (m : Int)) = ((k + m : Nat) : Int) := by rw [IntKind.wrap_i64]; omega
      go_wp2_with fail
      go_region_held3 (fun _ => True) (trivial) (refine step_copy_run rfl (.tmp 41) (.tmp 44) 50 rfl _ _ rfl rfl hcp ?_)
      go_wp2_with fail
      go_roundw
      case rel => exact ⟨k + m, _, by omega, by omega, by go_num, HR2.out, HF2.out, HB2'.out⟩
      case measure => simp [intOf]; omega
    · have hkn' : k = n := by omega
      have HR3 := Hid.mk' (HR.out.congr (f' := fun _ => x) fun i hi => HF.out i (by omega))
      go_wp2_with fail
      go_ret
      exact ⟨⟨w.heap.size, n, rfl, Nat.le_refl _, HR3.out⟩, HB.out⟩
end Go.Proofs.YtcalbicfnhoklaaDoor
