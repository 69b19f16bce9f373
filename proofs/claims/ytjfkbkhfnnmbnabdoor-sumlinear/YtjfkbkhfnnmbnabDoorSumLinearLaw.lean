/- The law SumLinear, walked. -/
import Derived.Test.YtjfkbkhfnnmbnabDoorSumWalks
import Derived.Test.YtjfkbkhfnnmbnabDoorGrow
import Derived.Test.YtjfkbkhfnnmbnabDoorFeedMath
import Derived.Deep.QuietTactic
import Derived.BigQuiet
import Derived.Laws.IdiomStrings
import Derived.Laws.BytesArg
import Derived.Lib.Strings
import Derived.SizedLaws
namespace Go.Proofs.YtjfkbkhfnnmbnabDoor
open Go.RowKit
set_option linter.unusedVariables false

theorem infoByte : (Tryd.prog.info? 5).map (fun i => (i.zero, i.size, i.bytes)) = some (some (.int .u8 0), 1, 1) := by kernel_rfl

/-- three texts bit by bit, up to place k -/
def xorL (a b c : ByteArray) : Nat → List UInt8
  | 0 => []
  | k + 1 => xorL a b c k ++ [a.data.toList.getD k 0 ^^^ b.data.toList.getD k 0 ^^^ c.data.toList.getD k 0]

theorem xorL_length (a b c : ByteArray) (k : Nat) : (xorL a b c k).length = k := by
  induction k with
  | zero => rfl
  | succ k ih => simp [xorL, ih]
def cellsOfB (l : List UInt8) : List Value := l.map fun x => .int .u8 (x.toNat : Int)
theorem cellsOfB_length (l : List UInt8) : (cellsOfB l).length = l.length := by simp [cellsOfB]
theorem cellsOfB_snoc (l : List UInt8) (x : UInt8) : cellsOfB (l ++ [x]) = cellsOfB l ++ [.int .u8 (x.toNat : Int)] := by simp [cellsOfB]
theorem xor8' (x y : UInt8) : bits .xor .u8 (x.toNat : Int) (y.toNat : Int) = ((x ^^^ y).toNat : Int) := by
  rw [u8_xor_nat _ _ x.toNat_lt y.toNat_lt, ← UInt8.toNat_xor]

theorem byte1_three (p q r : BitVec 32) (x y z : UInt8) : byte1 (p ^^^ q ^^^ r) (x ^^^ y ^^^ z) = byte1 p x ^^^ byte1 q y ^^^ byte1 r z := by
  unfold byte1
  rw [← stps_xor, ← stps_xor, UInt8.toNat_xor, UInt8.toNat_xor, ← ofNat_xor, ← ofNat_xor]
  congr 1
  ac_rfl
theorem take_next (l : List UInt8) (k : Nat) (h : k < l.length) : l.take (k + 1) = l.take k ++ [l.getD k 0] := by
  rw [List.take_succ_eq_append_getElem h, List.getD_eq_getElem?_getD, List.getElem?_eq_getElem h]; rfl
theorem feed_three (o : BitVec 32) (a b c : ByteArray) (k : Nat) (ka : k ≤ a.size) (kb : k ≤ b.size) (kc : k ≤ c.size) :
    feed (o ^^^ o ^^^ o) (xorL a b c k) = feed o (a.data.toList.take k) ^^^ feed o (b.data.toList.take k) ^^^ feed o (c.data.toList.take k) := by
  induction k with
  | zero => rfl
  | succ k ih =>
    rw [xorL, feed_snoc, ih (by omega) (by omega) (by omega), byte1_three, take_next _ k (by simp; omega), take_next _ k (by simp; omega), take_next _ k (by simp; omega), feed_snoc, feed_snoc, feed_snoc]
theorem sum_three (a b c : ByteArray) (k : Nat) (ka : k ≤ a.size) (kb : k ≤ b.size) (kc : k ≤ c.size) :
    sumC (a.data.toList.take k) ^^^ sumC (b.data.toList.take k) ^^^ sumC (c.data.toList.take k) = sumC (xorL a b c k) := by
  have h := feed_three (BitVec.allOnes 32) a b c k ka kb kc
  rw [BitVec.xor_self, BitVec.zero_xor] at h
  simp only [more_zero]
  rw [h]
  generalize feed (BitVec.allOnes 32) _ = x
  generalize feed (BitVec.allOnes 32) _ = y
  generalize feed (BitVec.allOnes 32) _ = z
  simp only [not_eq_xor]
  have e : x ^^^ BitVec.allOnes 32 ^^^ (y ^^^ BitVec.allOnes 32) ^^^ (z ^^^ BitVec.allOnes 32) = x ^^^ y ^^^ z ^^^ BitVec.allOnes 32 ^^^ (BitVec.allOnes 32 ^^^ BitVec.allOnes 32) := by ac_rfl
  rw [e, BitVec.xor_self, BitVec.xor_zero]
theorem sum_ab : (B (sumC [97]) != B (sumC [98])) = true := by decide +kernel

/-- the sum of a text, behind a name that the walk does not open -/
def sumOf (s : ByteArray) : BitVec 32 := sumC s.data.toList
theorem sum_of (s : ByteArray) (w : World) (hs : s.size ≤ 140737488355328) (hT : Tab w) :
    Calls Tryd.prog 6 #[.string s] w fun e w' => e = .returned (.int .u32 (B (sumOf s))) ∧ w' = w :=
  sum_any s w (by unfold maxLen; omega) hT
theorem tab_drewN {w : World} (h : Tab w) (q : Nat) : Tab (w.drewN q) := h
theorem own_string {w : World} {N cap' : Nat} {v : Value} {l : List UInt8} (h : w.ownsRow N 5 1 v cap' (cellsOfB l)) (q : Nat) :
    (convert 27 9 v).run Tryd.prog (w.drewN q) = .ok (.string ⟨l.toArray⟩) (w.drewN q) := by
  have hl := h.1
  rw [cellsOfB_length, Nat.mul_one] at hl
  rcases h.2 with ⟨rfl, hn⟩ | ⟨g, cap, cur, rfl, _, hg, _, _, _, hx⟩
  · obtain rfl : l = [] := List.eq_nil_of_length_eq_zero (by omega)
    exact run_convert_bytes_nil (P := Tryd.prog) _ 27 5 Tryd.underlying27 Tryd.underlying5 0 0 9 Tryd.underlying9
  · subst hl
    refine run_convert_bytes_back (P := Tryd.prog) (w.drewN q) 27 9 5 ⟨g, 0, none⟩ cap l Tryd.underlying27 Tryd.underlying5 Tryd.underlying9 fun j hj => ?_
    have hc : w.cell? ⟨g, j, none⟩ = (cellsOfB l)[j]? := h.cellAt j (by omega)
    rw [show (⟨g, 0, none⟩ : Addr).add j = ⟨g, j, none⟩ by unfold Addr.add; split <;> simp_all]
    refine hc.trans ?_
    simp [cellsOfB, hj]

theorem below_next {w wr w1 : World} {N k : Nat} {e : TypeId} {v : Value} {xs : List Value} {o : Obj} (hown : wr.ownsRow N e 1 v k xs) (hbl : Below N w wr) (hN : N ≤ wr.heap.size) (hg : (wr.alloc o).drew.grownBy w1 v.ownBlock) : Below N w w1 :=
  (hbl.alloc hN o).drew.grown hg (by show N ≤ (wr.alloc o).heap.size; simp; omega) fun j hj => (hown.lt j hj).1
theorem xorL_next (a b c : ByteArray) (k : Nat) (ka : k < a.size) (kb : k < b.size) (kc : k < c.size) : xorL a b c (k + 1) = xorL a b c k ++ [a[k] ^^^ b[k] ^^^ c[k]] := by
  have h : ∀ (s : ByteArray) (hs : k < s.size), s.data.toList.getD k 0 = s[k] := by
    intro s hs
    have : k < s.data.toList.length := by simpa using hs
    rw [List.getD_eq_getElem?_getD, List.getElem?_eq_getElem this]; rfl
  rw [xorL, h a ka, h b kb, h c kc]

theorem tab_below {w w' : World} (h : Tab w) (hb : Below w.heap.size w w') : Tab w' := fun i hi => by
  rw [hb.cell (p := ⟨0, i, none⟩) (block_lt_of_cell (h i hi))]; exact h i hi

set_option maxHeartbeats 1000000 in
theorem sumLinear_1 (a b c : ByteArray) (n : Nat) (w : World) (ha : a.size ≤ 140737488355328) (hb : b.size ≤ 140737488355328) (hc : c.size ≤ 140737488355328)
    (na : n ≤ a.size) (nb : n ≤ b.size) (nc : n ≤ c.size) (m1 : b.size < a.size) (m2 : c.size < b.size) (hn' : (c.size : Int) = n) (hT : Tab w) :
    Calls Tryd.prog 4 #[.string a, .string b, .string c] w fun e w' => e = .returned (.bool true) ∧ Below w.heap.size w w' := by
  obtain ⟨i0, hi, hz0, hz1, hz2⟩ := info_parts infoByte
  have HI := Hid.mk' hi
  have HZ0 := Hid.mk' hz0
  have HZ1 := Hid.mk' hz1
  have HZ2 := Hid.mk' hz2
  clear hi hz0 hz1 hz2
  go_enter Tryd.func4, Tryd.ntmps4
  go_wp2_with fail
  go_loopw [8, 18] (fun v i wr => ∃ k : Nat, k ≤ n ∧ i = .int .i64 k ∧ wr.ownsRow w.heap.size 5 1 v k (cellsOfB (xorL a b c k)) ∧ Below w.heap.size w wr) (fun _ i _ => n - (intOf i).toNat)
  case atStart => exact ⟨0, Nat.zero_le _, rfl, World.ownsRow_nil _ _ _ _, Below.refl _ _⟩
  case round =>
    obtain ⟨k, hk, rfl, hown, hbl⟩ := hrel
    have hown' := Hid.mk' hown
    have hbl' := Hid.mk' hbl
    have hsz := hbl.size
    clear hown hbl
    by_cases hlt : k < n
    · have ka : k < a.size := by omega
      have kb : k < b.size := by omega
      have kc : k < c.size := by omega
      obtain ⟨x1, e1⟩ : ∃ x : UInt8, Hid (a[k] ^^^ b[k] = x) := ⟨_, Hid.mk' rfl⟩
      obtain ⟨x2, e2⟩ : ∃ x : UInt8, Hid (x1 ^^^ c[k] = x) := ⟨_, Hid.mk' rfl⟩
      have f1 : bits .xor .u8 (a[k].toNat : Int) (b[k].toNat : Int) = (x1.toNat : Int) := by rw [← e1.out]; exact xor8' _ _
      have f2 : bits .xor .u8 (x1.toNat : Int) (c[k].toNat : Int) = (x2.toNat : Int) := by rw [← e2.out]; exact xor8' _ _
      go_wp2_with fail
      go_region_law (refine step_append_own rfl (.tmp 21) (.tmp 33) 27 rfl w.heap.size 5 i0 (.int .u8 0) 1 1 Tryd.underlying27 HI.out HZ0.out HZ1.out HZ2.out rfl (by decide) u8 _ _ rfl (by exact hown'.out.alloc _) ⟨wr.heap.size, 0, none⟩ 1 1 [.int .u8 (x2.toNat : Int)] rfl rfl (cell_one_new _ _ _) (one_int _ _) (by unfold maxLen; omega) (by omega) (by simp; omega) ?_; intro v' w1 hown1 hgrow1)
      all_goals
        have hb1 := Hid.mk' (below_next hown'.out hbl'.out hsz hgrow1)
        have ho1 : Hid (w1.ownsRow w.heap.size 5 1 v' (k + 1) (cellsOfB (xorL a b c (k + 1)))) := by
          rw [xorL_next a b c k ka kb kc, e1.out, e2.out, cellsOfB_snoc]; exact hown1
        clear hown1 hgrow1
        go_wp2_with fail
        go_roundw
        case rel => exact ⟨k + 1, by omega, by go_num, ho1.out, hb1.out⟩
        case measure => simp [intOf]; omega
    · have hkn := Hid.mk' (show k = n by omega)
      have hT' := Hid.mk' (tab_below hT hbl'.out)
      obtain ⟨t, et⟩ : ∃ t : ByteArray, Hid (t = ⟨(xorL a b c k).toArray⟩) := ⟨_, Hid.mk' rfl⟩
      have hts : t.size ≤ 140737488355328 := by rw [et.out]; have := xorL_length a b c k; simp [ByteArray.size, this]; omega
      have hcv : ∀ q, (convert 27 9 u8).run Tryd.prog (wr.drewN q) = .ok (.string t) (wr.drewN q) := fun q => by rw [et.out]; exact own_string hown'.out q
      obtain ⟨y1, ey1⟩ : ∃ y, Hid (sumOf (a.extract 0 n) ^^^ sumOf (b.extract 0 n) = y) := ⟨_, Hid.mk' rfl⟩
      have hx1 : bits .xor .u32 (B (sumOf (a.extract 0 n))) (B (sumOf (b.extract 0 n))) = B y1 := by rw [← ey1.out]; exact xorB _ _
      have hx2 : bits .xor .u32 (B y1) (B (sumOf (c.extract 0 n))) = B (sumOf t) := by
        rw [xorB, ← ey1.out, et.out]
        refine congrArg B ?_
        unfold sumOf
        rw [hkn.out]
        simp only [Lib.extract_data, List.drop_zero]
        exact sum_three a b c n na nb nc
      have hN : (B (sumOf ⟨#[97]⟩) != B (sumOf ⟨#[98]⟩)) = true := sum_ab
      go_wp2_with fail
      go_quiet ((go_at_call 6; exact Calls.quiet_of_same (sum_of _ _ (by first | assumption | (simp; omega) | decide) (tab_drewN hT'.out _))))
      go_wp2_with fail
      go_ret
      exact ⟨rfl, below_drewN hbl'.out _⟩

set_option maxHeartbeats 1000000 in
theorem sumLinear_2 (a b c : ByteArray) (n : Nat) (w : World) (ha : a.size ≤ 140737488355328) (hb : b.size ≤ 140737488355328) (hc : c.size ≤ 140737488355328)
    (na : n ≤ a.size) (nb : n ≤ b.size) (nc : n ≤ c.size) (m1 : b.size < a.size) (m2 : b.size ≤ c.size) (hn' : (b.size : Int) = n) (hT : Tab w) :
    Calls Tryd.prog 4 #[.string a, .string b, .string c] w fun e w' => e = .returned (.bool true) ∧ Below w.heap.size w w' := by
  obtain ⟨i0, hi, hz0, hz1, hz2⟩ := info_parts infoByte
  have HI := Hid.mk' hi
  have HZ0 := Hid.mk' hz0
  have HZ1 := Hid.mk' hz1
  have HZ2 := Hid.mk' hz2
  clear hi hz0 hz1 hz2
  go_enter Tryd.func4, Tryd.ntmps4
  go_wp2_with fail
  go_loopw [8, 18] (fun v i wr => ∃ k : Nat, k ≤ n ∧ i = .int .i64 k ∧ wr.ownsRow w.heap.size 5 1 v k (cellsOfB (xorL a b c k)) ∧ Below w.heap.size w wr) (fun _ i _ => n - (intOf i).toNat)
  case atStart => exact ⟨0, Nat.zero_le _, rfl, World.ownsRow_nil _ _ _ _, Below.refl _ _⟩
  case round =>
    obtain ⟨k, hk, rfl, hown, hbl⟩ := hrel
    have hown' := Hid.mk' hown
    have hbl' := Hid.mk' hbl
    have hsz := hbl.size
    clear hown hbl
    by_cases hlt : k < n
    · have ka : k < a.size := by omega
      have kb : k < b.size := by omega
      have kc : k < c.size := by omega
      obtain ⟨x1, e1⟩ : ∃ x : UInt8, Hid (a[k] ^^^ b[k] = x) := ⟨_, Hid.mk' rfl⟩
      obtain ⟨x2, e2⟩ : ∃ x : UInt8, Hid (x1 ^^^ c[k] = x) := ⟨_, Hid.mk' rfl⟩
      have f1 : bits .xor .u8 (a[k].toNat : Int) (b[k].toNat : Int) = (x1.toNat : Int) := by rw [← e1.out]; exact xor8' _ _
      have f2 : bits .xor .u8 (x1.toNat : Int) (c[k].toNat : Int) = (x2.toNat : Int) := by rw [← e2.out]; exact xor8' _ _
      go_wp2_with fail
      go_region_law (refine step_append_own rfl (.tmp 21) (.tmp 33) 27 rfl w.heap.size 5 i0 (.int .u8 0) 1 1 Tryd.underlying27 HI.out HZ0.out HZ1.out HZ2.out rfl (by decide) u8 _ _ rfl (by exact hown'.out.alloc _) ⟨wr.heap.size, 0, none⟩ 1 1 [.int .u8 (x2.toNat : Int)] rfl rfl (cell_one_new _ _ _) (one_int _ _) (by unfold maxLen; omega) (by omega) (by simp; omega) ?_; intro v' w1 hown1 hgrow1)
      all_goals
        have hb1 := Hid.mk' (below_next hown'.out hbl'.out hsz hgrow1)
        have ho1 : Hid (w1.ownsRow w.heap.size 5 1 v' (k + 1) (cellsOfB (xorL a b c (k + 1)))) := by
          rw [xorL_next a b c k ka kb kc, e1.out, e2.out, cellsOfB_snoc]; exact hown1
        clear hown1 hgrow1
        go_wp2_with fail
        go_roundw
        case rel => exact ⟨k + 1, by omega, by go_num, ho1.out, hb1.out⟩
        case measure => simp [intOf]; omega
    · have hkn := Hid.mk' (show k = n by omega)
      have hT' := Hid.mk' (tab_below hT hbl'.out)
      obtain ⟨t, et⟩ : ∃ t : ByteArray, Hid (t = ⟨(xorL a b c k).toArray⟩) := ⟨_, Hid.mk' rfl⟩
      have hts : t.size ≤ 140737488355328 := by rw [et.out]; have := xorL_length a b c k; simp [ByteArray.size, this]; omega
      have hcv : ∀ q, (convert 27 9 u8).run Tryd.prog (wr.drewN q) = .ok (.string t) (wr.drewN q) := fun q => by rw [et.out]; exact own_string hown'.out q
      obtain ⟨y1, ey1⟩ : ∃ y, Hid (sumOf (a.extract 0 n) ^^^ sumOf (b.extract 0 n) = y) := ⟨_, Hid.mk' rfl⟩
      have hx1 : bits .xor .u32 (B (sumOf (a.extract 0 n))) (B (sumOf (b.extract 0 n))) = B y1 := by rw [← ey1.out]; exact xorB _ _
      have hx2 : bits .xor .u32 (B y1) (B (sumOf (c.extract 0 n))) = B (sumOf t) := by
        rw [xorB, ← ey1.out, et.out]
        refine congrArg B ?_
        unfold sumOf
        rw [hkn.out]
        simp only [Lib.extract_data, List.drop_zero]
        exact sum_three a b c n na nb nc
      have hN : (B (sumOf ⟨#[97]⟩) != B (sumOf ⟨#[98]⟩)) = true := sum_ab
      go_wp2_with fail
      go_quiet ((go_at_call 6; exact Calls.quiet_of_same (sum_of _ _ (by first | assumption | (simp; omega) | decide) (tab_drewN hT'.out _))))
      go_wp2_with fail
      go_ret
      exact ⟨rfl, below_drewN hbl'.out _⟩

set_option maxHeartbeats 1000000 in
theorem sumLinear_3 (a b c : ByteArray) (n : Nat) (w : World) (ha : a.size ≤ 140737488355328) (hb : b.size ≤ 140737488355328) (hc : c.size ≤ 140737488355328)
    (na : n ≤ a.size) (nb : n ≤ b.size) (nc : n ≤ c.size) (m1 : a.size ≤ b.size) (m2 : c.size < a.size) (hn' : (c.size : Int) = n) (hT : Tab w) :
    Calls Tryd.prog 4 #[.string a, .string b, .string c] w fun e w' => e = .returned (.bool true) ∧ Below w.heap.size w w' := by
  obtain ⟨i0, hi, hz0, hz1, hz2⟩ := info_parts infoByte
  have HI := Hid.mk' hi
  have HZ0 := Hid.mk' hz0
  have HZ1 := Hid.mk' hz1
  have HZ2 := Hid.mk' hz2
  clear hi hz0 hz1 hz2
  go_enter Tryd.func4, Tryd.ntmps4
  go_wp2_with fail
  go_loopw [8, 18] (fun v i wr => ∃ k : Nat, k ≤ n ∧ i = .int .i64 k ∧ wr.ownsRow w.heap.size 5 1 v k (cellsOfB (xorL a b c k)) ∧ Below w.heap.size w wr) (fun _ i _ => n - (intOf i).toNat)
  case atStart => exact ⟨0, Nat.zero_le _, rfl, World.ownsRow_nil _ _ _ _, Below.refl _ _⟩
  case round =>
    obtain ⟨k, hk, rfl, hown, hbl⟩ := hrel
    have hown' := Hid.mk' hown
    have hbl' := Hid.mk' hbl
    have hsz := hbl.size
    clear hown hbl
    by_cases hlt : k < n
    · have ka : k < a.size := by omega
      have kb : k < b.size := by omega
      have kc : k < c.size := by omega
      obtain ⟨x1, e1⟩ : ∃ x : UInt8, Hid (a[k] ^^^ b[k] = x) := ⟨_, Hid.mk' rfl⟩
      obtain ⟨x2, e2⟩ : ∃ x : UInt8, Hid (x1 ^^^ c[k] = x) := ⟨_, Hid.mk' rfl⟩
      have f1 : bits .xor .u8 (a[k].toNat : Int) (b[k].toNat : Int) = (x1.toNat : Int) := by rw [← e1.out]; exact xor8' _ _
      have f2 : bits .xor .u8 (x1.toNat : Int) (c[k].toNat : Int) = (x2.toNat : Int) := by rw [← e2.out]; exact xor8' _ _
      go_wp2_with fail
      go_region_law (refine step_append_own rfl (.tmp 21) (.tmp 33) 27 rfl w.heap.size 5 i0 (.int .u8 0) 1 1 Tryd.underlying27 HI.out HZ0.out HZ1.out HZ2.out rfl (by decide) u8 _ _ rfl (by exact hown'.out.alloc _) ⟨wr.heap.size, 0, none⟩ 1 1 [.int .u8 (x2.toNat : Int)] rfl rfl (cell_one_new _ _ _) (one_int _ _) (by unfold maxLen; omega) (by omega) (by simp; omega) ?_; intro v' w1 hown1 hgrow1)
      all_goals
        have hb1 := Hid.mk' (below_next hown'.out hbl'.out hsz hgrow1)
        have ho1 : Hid (w1.ownsRow w.heap.size 5 1 v' (k + 1) (cellsOfB (xorL a b c (k + 1)))) := by
          rw [xorL_next a b c k ka kb kc, e1.out, e2.out, cellsOfB_snoc]; exact hown1
        clear hown1 hgrow1
        go_wp2_with fail
        go_roundw
        case rel => exact ⟨k + 1, by omega, by go_num, ho1.out, hb1.out⟩
        case measure => simp [intOf]; omega
    · have hkn := Hid.mk' (show k = n by omega)
      have hT' := Hid.mk' (tab_below hT hbl'.out)
      obtain ⟨t, et⟩ : ∃ t : ByteArray, Hid (t = ⟨(xorL a b c k).toArray⟩) := ⟨_, Hid.mk' rfl⟩
      have hts : t.size ≤ 140737488355328 := by rw [et.out]; have := xorL_length a b c k; simp [ByteArray.size, this]; omega
      have hcv : ∀ q, (convert 27 9 u8).run Tryd.prog (wr.drewN q) = .ok (.string t) (wr.drewN q) := fun q => by rw [et.out]; exact own_string hown'.out q
      obtain ⟨y1, ey1⟩ : ∃ y, Hid (sumOf (a.extract 0 n) ^^^ sumOf (b.extract 0 n) = y) := ⟨_, Hid.mk' rfl⟩
      have hx1 : bits .xor .u32 (B (sumOf (a.extract 0 n))) (B (sumOf (b.extract 0 n))) = B y1 := by rw [← ey1.out]; exact xorB _ _
      have hx2 : bits .xor .u32 (B y1) (B (sumOf (c.extract 0 n))) = B (sumOf t) := by
        rw [xorB, ← ey1.out, et.out]
        refine congrArg B ?_
        unfold sumOf
        rw [hkn.out]
        simp only [Lib.extract_data, List.drop_zero]
        exact sum_three a b c n na nb nc
      have hN : (B (sumOf ⟨#[97]⟩) != B (sumOf ⟨#[98]⟩)) = true := sum_ab
      go_wp2_with fail
      go_quiet ((go_at_call 6; exact Calls.quiet_of_same (sum_of _ _ (by first | assumption | (simp; omega) | decide) (tab_drewN hT'.out _))))
      go_wp2_with fail
      go_ret
      exact ⟨rfl, below_drewN hbl'.out _⟩

set_option maxHeartbeats 1000000 in
theorem sumLinear_4 (a b c : ByteArray) (n : Nat) (w : World) (ha : a.size ≤ 140737488355328) (hb : b.size ≤ 140737488355328) (hc : c.size ≤ 140737488355328)
    (na : n ≤ a.size) (nb : n ≤ b.size) (nc : n ≤ c.size) (m1 : a.size ≤ b.size) (m2 : a.size ≤ c.size) (hn' : (a.size : Int) = n) (hT : Tab w) :
    Calls Tryd.prog 4 #[.string a, .string b, .string c] w fun e w' => e = .returned (.bool true) ∧ Below w.heap.size w w' := by
  obtain ⟨i0, hi, hz0, hz1, hz2⟩ := info_parts infoByte
  have HI := Hid.mk' hi
  have HZ0 := Hid.mk' hz0
  have HZ1 := Hid.mk' hz1
  have HZ2 := Hid.mk' hz2
  clear hi hz0 hz1 hz2
  go_enter Tryd.func4, Tryd.ntmps4
  go_wp2_with fail
  go_loopw [8, 18] (fun v i wr => ∃ k : Nat, k ≤ n ∧ i = .int .i64 k ∧ wr.ownsRow w.heap.size 5 1 v k (cellsOfB (xorL a b c k)) ∧ Below w.heap.size w wr) (fun _ i _ => n - (intOf i).toNat)
  case atStart => exact ⟨0, Nat.zero_le _, rfl, World.ownsRow_nil _ _ _ _, Below.refl _ _⟩
  case round =>
    obtain ⟨k, hk, rfl, hown, hbl⟩ := hrel
    have hown' := Hid.mk' hown
    have hbl' := Hid.mk' hbl
    have hsz := hbl.size
    clear hown hbl
    by_cases hlt : k < n
    · have ka : k < a.size := by omega
      have kb : k < b.size := by omega
      have kc : k < c.size := by omega
      obtain ⟨x1, e1⟩ : ∃ x : UInt8, Hid (a[k] ^^^ b[k] = x) := ⟨_, Hid.mk' rfl⟩
      obtain ⟨x2, e2⟩ : ∃ x : UInt8, Hid (x1 ^^^ c[k] = x) := ⟨_, Hid.mk' rfl⟩
      have f1 : bits .xor .u8 (a[k].toNat : Int) (b[k].toNat : Int) = (x1.toNat : Int) := by rw [← e1.out]; exact xor8' _ _
      have f2 : bits .xor .u8 (x1.toNat : Int) (c[k].toNat : Int) = (x2.toNat : Int) := by rw [← e2.out]; exact xor8' _ _
      go_wp2_with fail
      go_region_law (refine step_append_own rfl (.tmp 21) (.tmp 33) 27 rfl w.heap.size 5 i0 (.int .u8 0) 1 1 Tryd.underlying27 HI.out HZ0.out HZ1.out HZ2.out rfl (by decide) u8 _ _ rfl (by exact hown'.out.alloc _) ⟨wr.heap.size, 0, none⟩ 1 1 [.int .u8 (x2.toNat : Int)] rfl rfl (cell_one_new _ _ _) (one_int _ _) (by unfold maxLen; omega) (by omega) (by simp; omega) ?_; intro v' w1 hown1 hgrow1)
      all_goals
        have hb1 := Hid.mk' (below_next hown'.out hbl'.out hsz hgrow1)
        have ho1 : Hid (w1.ownsRow w.heap.size 5 1 v' (k + 1) (cellsOfB (xorL a b c (k + 1)))) := by
          rw [xorL_next a b c k ka kb kc, e1.out, e2.out, cellsOfB_snoc]; exact hown1
        clear hown1 hgrow1
        go_wp2_with fail
        go_roundw
        case rel => exact ⟨k + 1, by omega, by go_num, ho1.out, hb1.out⟩
        case measure => simp [intOf]; omega
    · have hkn := Hid.mk' (show k = n by omega)
      have hT' := Hid.mk' (tab_below hT hbl'.out)
      obtain ⟨t, et⟩ : ∃ t : ByteArray, Hid (t = ⟨(xorL a b c k).toArray⟩) := ⟨_, Hid.mk' rfl⟩
      have hts : t.size ≤ 140737488355328 := by rw [et.out]; have := xorL_length a b c k; simp [ByteArray.size, this]; omega
      have hcv : ∀ q, (convert 27 9 u8).run Tryd.prog (wr.drewN q) = .ok (.string t) (wr.drewN q) := fun q => by rw [et.out]; exact own_string hown'.out q
      obtain ⟨y1, ey1⟩ : ∃ y, Hid (sumOf (a.extract 0 n) ^^^ sumOf (b.extract 0 n) = y) := ⟨_, Hid.mk' rfl⟩
      have hx1 : bits .xor .u32 (B (sumOf (a.extract 0 n))) (B (sumOf (b.extract 0 n))) = B y1 := by rw [← ey1.out]; exact xorB _ _
      have hx2 : bits .xor .u32 (B y1) (B (sumOf (c.extract 0 n))) = B (sumOf t) := by
        rw [xorB, ← ey1.out, et.out]
        refine congrArg B ?_
        unfold sumOf
        rw [hkn.out]
        simp only [Lib.extract_data, List.drop_zero]
        exact sum_three a b c n na nb nc
      have hN : (B (sumOf ⟨#[97]⟩) != B (sumOf ⟨#[98]⟩)) = true := sum_ab
      go_wp2_with fail
      go_quiet ((go_at_call 6; exact Calls.quiet_of_same (sum_of _ _ (by first | assumption | (simp; omega) | decide) (tab_drewN hT'.out _))))
      go_wp2_with fail
      go_ret
      exact ⟨rfl, below_drewN hbl'.out _⟩

theorem of_reach' {a : ByteArray} (z : a.data.toList.length ≤ reachBytes) : a.size ≤ 140737488355328 := by
  have := reachBytes_lt
  have h : a.data.toList.length = a.size := by simp
  omega
theorem sumLinear_walk (a0 : ByteArray) (a1 : ByteArray) (a2 : ByteArray) (_w0 : a0.size ≤ maxLen) (_w1 : a1.size ≤ maxLen) (_w2 : a2.size ≤ maxLen)
    (z0 : a0.data.toList.length ≤ reachBytes) (z1 : a1.data.toList.length ≤ reachBytes) (z2 : a2.data.toList.length ≤ reachBytes) (w : World) (hT : Tab w) :
    Calls Tryd.prog 4 #[.string a0, .string a1, .string a2] w fun e w' => e = .returned (.bool true) ∧ Below w.heap.size w w' := by
  have ha := of_reach' z0
  have hb := of_reach' z1
  have hc := of_reach' z2
  by_cases m1 : a1.size < a0.size
  · by_cases m2 : a2.size < a1.size
    · exact sumLinear_1 a0 a1 a2 a2.size w ha hb hc (by omega) (by omega) (by omega) m1 m2 rfl hT
    · exact sumLinear_2 a0 a1 a2 a1.size w ha hb hc (by omega) (by omega) (by omega) m1 (by omega) rfl hT
  · by_cases m2 : a2.size < a0.size
    · exact sumLinear_3 a0 a1 a2 a2.size w ha hb hc (by omega) (by omega) (by omega) (by omega) m2 rfl hT
    · exact sumLinear_4 a0 a1 a2 a0.size w ha hb hc (by omega) (by omega) (by omega) (by omega) (by omega) rfl hT
end Go.Proofs.YtjfkbkhfnnmbnabDoor
