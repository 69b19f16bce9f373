/- What seal.Seal answers. -/
import Derived.Test.YtbakgobgjfhhhaaDoorSealMath
import Derived.Test.YtbakgobgjfhhhaaDoorSumWalks
import Derived.Test.YtbakgobgjfhhhaaDoorFixWalks
import Derived.Laws.IdiomStrings
import Derived.Laws.BytesArg
namespace Go.Proofs.YtbakgobgjfhhhaaDoor
open Go.RowKit

theorem tab_belowS {w w' : World} (h : Tab w) (hb : Below w.heap.size w w') : Tab w' := fun i hi => by
  rw [hb.cell (p := ⟨0, i, none⟩) (block_lt_of_cell (h i hi))]; exact h i hi
theorem below_boxS {w : World} (v : Array Value) (t : TypeId) : Below w.heap.size w (w.alloc (.cells v t)) := (Below.refl _ w).alloc (Nat.le_refl _) _
/-- a list of bytes as a text -/
def txS (l : List UInt8) : ByteArray := ⟨l.toArray⟩
theorem txS_size (l : List UInt8) : (txS l).size = l.length := rfl
theorem txS_list (l : List UInt8) : (txS l).data.toList = l := rfl
theorem txS_app (a b : List UInt8) : txS a ++ txS b = txS (a ++ b) := by
  apply bytes_ext
  simp only [ByteArray.data_append, Array.toList_append]
  rfl
theorem txS_of (s : ByteArray) : txS s.data.toList = s := bytes_ext rfl
set_option maxRecDepth 20000 in
set_option maxHeartbeats 800000 in
theorem may_any (k n : Int) (w : World) : Calls Tryd.prog 51 #[.int .i64 k, .int .i64 n] w fun e w' => e = .returned (.bool (mayS k n)) ∧ w' = w := by
  by_cases h1 : k = 1
  · subst h1
    by_cases h2 : 0 ≤ n
    · have t2 : decide ((0 : Int) ≤ n) = true := decide_eq_true h2
      by_cases h3 : n ≤ 2147483647
      · have t3 : decide (n ≤ (2147483647 : Int)) = true := decide_eq_true h3
        have hq : Hid (mayS 1 n = true) := (mayS_iff 1 n).2 ⟨.inl rfl, h2, h3⟩
        clear h2 h3
        go_enter Tryd.func51, Tryd.ntmps51
        go_wp2_with fail
        go_ret
        exact ⟨by rw [hq.out]; rfl, rfl⟩
      · have t3 : decide (n ≤ (2147483647 : Int)) = false := decide_eq_false h3
        have hq : Hid (mayS 1 n = false) := decide_eq_false (fun h => h3 h.2.2)
        clear h2 h3
        go_enter Tryd.func51, Tryd.ntmps51
        go_wp2_with fail
        go_ret
        exact ⟨by rw [hq.out]; rfl, rfl⟩
    · have t2 : decide ((0 : Int) ≤ n) = false := decide_eq_false h2
      have hq : Hid (mayS 1 n = false) := decide_eq_false (fun h => h2 h.2.1)
      clear h2
      go_enter Tryd.func51, Tryd.ntmps51
      go_wp2_with fail
      go_ret
      exact ⟨by rw [hq.out]; rfl, rfl⟩
  · have t1 : (k == 1) = false := by rw [beq_eq_false_iff_ne]; exact h1
    by_cases h1' : k = 2
    · subst h1'
      by_cases h2 : 0 ≤ n
      · have t2 : decide ((0 : Int) ≤ n) = true := decide_eq_true h2
        by_cases h3 : n ≤ 2147483647
        · have t3 : decide (n ≤ (2147483647 : Int)) = true := decide_eq_true h3
          have hq : Hid (mayS 2 n = true) := (mayS_iff 2 n).2 ⟨.inr rfl, h2, h3⟩
          clear h1 h2 h3
          go_enter Tryd.func51, Tryd.ntmps51
          go_wp2_with fail
          go_ret
          exact ⟨by rw [hq.out]; rfl, rfl⟩
        · have t3 : decide (n ≤ (2147483647 : Int)) = false := decide_eq_false h3
          have hq : Hid (mayS 2 n = false) := decide_eq_false (fun h => h3 h.2.2)
          clear h1 h2 h3
          go_enter Tryd.func51, Tryd.ntmps51
          go_wp2_with fail
          go_ret
          exact ⟨by rw [hq.out]; rfl, rfl⟩
      · have t2 : decide ((0 : Int) ≤ n) = false := decide_eq_false h2
        have hq : Hid (mayS 2 n = false) := decide_eq_false (fun h => h2 h.2.1)
        clear h1 h2
        go_enter Tryd.func51, Tryd.ntmps51
        go_wp2_with fail
        go_ret
        exact ⟨by rw [hq.out]; rfl, rfl⟩
    · have t2 : (k == 2) = false := by rw [beq_eq_false_iff_ne]; exact h1'
      have hq : Hid (mayS k n = false) := decide_eq_false (fun h => by rcases h.1 with h | h; exact h1 h; exact h1' h)
      clear h1 h1'
      go_enter Tryd.func51, Tryd.ntmps51
      go_wp2_with fail
      go_ret
      exact ⟨by rw [hq.out]; rfl, rfl⟩
theorem four_string_at (a b c d : Int) (w : World) (g : Nat) (h0 : w.cell? ⟨g, 0, none⟩ = some (.int .u8 a)) (h1 : w.cell? ⟨g, 1, none⟩ = some (.int .u8 b)) (h2 : w.cell? ⟨g, 2, none⟩ = some (.int .u8 c)) (h3 : w.cell? ⟨g, 3, none⟩ = some (.int .u8 d)) :
    (convert 88 9 (.slice (some ⟨g, 0, none⟩) 4 4)).run Tryd.prog w = .ok (.string (strOfNums [a, b, c, d])) w :=
  run_convert_bytes_arg (P := Tryd.prog) w 88 5 Tryd.underlying88 Tryd.underlying5 g 0 4 4 [a, b, c, d] rfl
    (fun i hi => by
      rcases (by omega : i = 0 ∨ i = 1 ∨ i = 2 ∨ i = 3) with rfl | rfl | rfl | rfl
      · simpa using h0
      · simpa using h1
      · simpa using h2
      · simpa using h3) 9 Tryd.underlying9
set_option maxRecDepth 20000 in
set_option maxHeartbeats 800000 in
theorem sumof_any (s : ByteArray) (w : World) (hs : s.size ≤ 1048576) (hT : Tab w) :
    Calls Tryd.prog 52 #[.string s] w fun e w' => e = .returned (.string (txS (leC s.data.toList))) ∧ Below w.heap.size w w' := by
  obtain ⟨c, hc⟩ : ∃ c, Hid (sumC s.data.toList = c) := ⟨_, Hid.mk' rfl⟩
  have hle : Hid (leC s.data.toList = [byteAt c 0, byteAt c 1, byteAt c 2, byteAt c 3]) := by show _ = _; unfold leC; rw [hc.out]
  have hb : Hid (strOfNums [B c % 256, B c / 256 % 256, B c / 65536 % 256, B c / 16777216] = txS [byteAt c 0, byteAt c 1, byteAt c 2, byteAt c 3]) := by
    have h := bytes_of c
    have h0 := B_nonneg c
    have h1 := B_lt c
    rw [show B c / 16777216 % 256 = B c / 16777216 by omega] at h
    exact h
  have hcv := four_string_at (B c % 256) (B c / 256 % 256) (B c / 65536 % 256) (B c / 16777216)
  have h0 := B_nonneg c
  have h1 := B_lt c
  have hsum := Hid.mk' (fun w (h : Tab w) => sum_any s w (by unfold maxLen; omega) h)
  rw [hle.out]
  rw [hc.out] at hsum
  go_enter Tryd.func52, Tryd.ntmps52
  go_wp2_with fail
  refine (hsum.out w hT).mono ?_
  rintro e w1 ⟨rfl, rfl⟩
  go_wp2_with fail
  go_ret
  exact ⟨by rw [← hb.out]; rfl, below_boxS _ _⟩
theorem fixS1 (n : Nat) (w : World) : Calls Tryd.prog 24 #[.int .u64 n, .int .i64 1] w fun e w' => e = .returned (.string (txS (fixB n 1))) ∧ Below w.heap.size w w' := fix_in n 1 w (by omega) (by omega)
theorem fixS2 (n : Nat) (w : World) : Calls Tryd.prog 24 #[.int .u64 n, .int .i64 2] w fun e w' => e = .returned (.string (txS (fixB n 2))) ∧ Below w.heap.size w w' := fix_in n 2 w (by omega) (by omega)
theorem fixS4 (n : Nat) (w : World) : Calls Tryd.prog 24 #[.int .u64 n, .int .i64 4] w fun e w' => e = .returned (.string (txS (fixB n 4))) ∧ Below w.heap.size w w' := fix_in n 4 w (by omega) (by omega)
theorem bod_text (k n : Nat) (b : ByteArray) : txS (fixB k 1) ++ txS (fixB n 4) ++ txS (fixB b.size 2) ++ b = txS (bodS k n b.data.toList) := by
  apply bytes_ext
  simp only [ByteArray.data_append, Array.toList_append]
  unfold bodS
  rw [show b.data.toList.length = b.size by rw [Array.length_toList]; rfl]
  rfl
/-- what Seal answers -/
def SlAns (k n : Int) (b : ByteArray) (e : Ending) : Prop :=
  (selE k n b.size = 0 ∧ e = .returned (.tuple #[.string (txS (selS k.toNat n.toNat b.data.toList)), .int .i64 0])) ∨ (∃ q, q ≠ 0 ∧ Hid (selE k n b.size = q) ∧ e = .returned (.tuple #[.string ⟨#[]⟩, .int .i64 q]))
set_option maxRecDepth 20000 in
set_option maxHeartbeats 1600000 in
theorem seal_any (k n : Int) (b : ByteArray) (w : World) (hT : Tab w) (_hb : b.size ≤ 140737488355328) :
    Calls Tryd.prog 23 #[.int .i64 k, .int .i64 n, .string b] w fun e w' => SlAns k n b e ∧ Below w.heap.size w w' := by
  by_cases hm : mayS k n = true
  · have hd : Hid (selE k n b.size = if 1000 < b.size then 2 else 0) := by show _ = _; unfold selE; rw [if_pos hm]
    obtain ⟨hk, hn0, hn1⟩ := (mayS_iff k n).1 hm
    have hmay := Hid.mk' (fun w => may_any k n w)
    rw [hm] at hmay
    clear hm
    by_cases hz : 1000 < b.size
    · have hq : Hid (selE k n b.size = 2) := by show _ = _; rw [hd.out, if_pos hz]
      go_enter Tryd.func23, Tryd.ntmps23
      go_wp2_with fail
      refine (hmay.out _).mono ?_
      rintro e w1 ⟨rfl, rfl⟩
      go_wp2_with fail
      go_ret2
      exact ⟨.inr ⟨2, by decide, hq.out, rfl⟩, Below.refl _ _⟩
    · have hq : Hid (selE k n b.size = 0) := by show _ = _; rw [hd.out, if_neg hz]
      have hz' : b.size ≤ 1000 := by omega
      obtain ⟨k', rfl⟩ := Int.eq_ofNat_of_zero_le (show 0 ≤ k by omega)
      obtain ⟨n', rfl⟩ := Int.eq_ofNat_of_zero_le hn0
      have e1 : IntKind.u64.wrap (k' : Int) = k' := by rw [IntKind.wrap_u64]; omega
      have e2 : IntKind.u64.wrap (n' : Int) = n' := by rw [IntKind.wrap_u64]; omega
      have e3 : IntKind.u64.wrap (b.size : Int) = (b.size : Int) := by rw [IntKind.wrap_u64]; omega
      have hbt := Hid.mk' (bod_text k' n' b)
      have hsl : Hid (txS (bodS k' n' b.data.toList) ++ txS (leC (bodS k' n' b.data.toList)) = txS (selS k' n' b.data.toList)) := txS_app _ _
      have HT := Hid.mk' hT
      have s1 : (txS (fixB k' 1)).size = 1 := by rw [txS_size, fixB_length]
      have s2 : (txS (fixB n' 4)).size = 4 := by rw [txS_size, fixB_length]
      have s3 : (txS (fixB b.size 2)).size = 2 := by rw [txS_size, fixB_length]
      have s4 : (txS (bodS k' n' b.data.toList)).size = 7 + b.size := by rw [txS_size, bodS_len, Array.length_toList]; rfl
      have s5 : (txS (leC (bodS k' n' b.data.toList))).size = 4 := rfl
      have c1 := Hid.mk' (fun w => fixS1 k' w)
      have c2 := Hid.mk' (fun w => fixS4 n' w)
      have c3 := Hid.mk' (fun w => fixS2 b.size w)
      have c4 := Hid.mk' (fun w => sumof_any (txS (bodS k' n' b.data.toList)) w (by rw [s4]; omega))
      rw [txS_list] at c4
      obtain ⟨x1, hx1⟩ : ∃ x, Hid (txS (fixB k' 1) = x) := ⟨_, Hid.mk' rfl⟩
      obtain ⟨x2, hx2⟩ : ∃ x, Hid (txS (fixB n' 4) = x) := ⟨_, Hid.mk' rfl⟩
      obtain ⟨x3, hx3⟩ : ∃ x, Hid (txS (fixB b.size 2) = x) := ⟨_, Hid.mk' rfl⟩
      obtain ⟨x4, hx4⟩ : ∃ x, Hid (txS (bodS k' n' b.data.toList) = x) := ⟨_, Hid.mk' rfl⟩
      obtain ⟨x5, hx5⟩ : ∃ x, Hid (txS (leC (bodS k' n' b.data.toList)) = x) := ⟨_, Hid.mk' rfl⟩
      rw [hx1.out] at s1 hbt c1
      rw [hx2.out] at s2 hbt c2
      rw [hx3.out] at s3 hbt c3
      rw [hx4.out] at s4 hbt hsl c4
      rw [hx5.out] at s5 hsl c4
      have hbt' := hbt.out
      have hsl' := hsl.out
      clear hk hn0 hn1 hz hd hx1 hx2 hx3 hx4 hx5
      go_enter Tryd.func23, Tryd.ntmps23
      go_wp2_with fail
      refine (hmay.out _).mono ?_
      rintro e w1 ⟨rfl, rfl⟩
      go_wp2_with fail
      refine (c1.out _).mono ?_
      rintro e w2 ⟨rfl, hb2⟩
      have HB2 := Hid.mk' hb2
      clear hb2
      go_wp2_with fail
      refine (c2.out _).mono ?_
      rintro e w3 ⟨rfl, hb3⟩
      have HB3 := Hid.mk' (HB2.out.trans (hb3.mono HB2.out.size))
      clear hb3
      go_wp2_with fail
      refine (c3.out _).mono ?_
      rintro e w4 ⟨rfl, hb4⟩
      have HB4 := Hid.mk' (HB3.out.trans (hb4.mono HB3.out.size))
      clear hb4
      go_wp2_with fail
      refine (c4.out w4 (tab_belowS HT.out HB4.out)).mono ?_
      rintro e w5 ⟨rfl, hb5⟩
      have HB5 := Hid.mk' (HB4.out.trans (hb5.mono HB4.out.size))
      clear hb5
      go_wp2_with fail
      go_ret2
      exact ⟨.inl ⟨hq.out, rfl⟩, HB5.out⟩
  · have hmf : mayS k n = false := by cases h : mayS k n with | true => exact absurd h hm | false => rfl
    have hq : Hid (selE k n b.size = 1) := by show _ = _; unfold selE; rw [if_neg hm]
    have hmay := Hid.mk' (fun w => may_any k n w)
    rw [hmf] at hmay
    clear hm hmf
    go_enter Tryd.func23, Tryd.ntmps23
    go_wp2_with fail
    refine (hmay.out _).mono ?_
    rintro e w1 ⟨rfl, rfl⟩
    go_wp2_with fail
    go_ret2
    exact ⟨.inr ⟨1, by decide, hq.out, rfl⟩, Below.refl _ _⟩
/-- what Seal answers, as one value -/
def slT (k n : Int) (b : ByteArray) : ByteArray := if selE k n b.size = 0 then txS (selS k.toNat n.toNat b.data.toList) else ⟨#[]⟩
theorem sl_ans {k n : Int} {b : ByteArray} {e : Ending} (h : SlAns k n b e) : e = .returned (.tuple #[.string (slT k n b), .int .i64 (selE k n b.size)]) := by
  rcases h with ⟨h, rfl⟩ | ⟨q, hq, h, rfl⟩
  · unfold slT; rw [h, if_pos rfl]
  · unfold slT; rw [h.out, if_neg hq]
end Go.Proofs.YtbakgobgjfhhhaaDoor
