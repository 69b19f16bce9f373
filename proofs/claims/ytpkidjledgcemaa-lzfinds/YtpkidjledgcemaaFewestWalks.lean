/- What linenref.Fewest answers. -/
import Derived.Test.YtpkidjledgcemaaAheadWalks
import Derived.Test.YtpkidjledgcemaaFwMath
import Derived.Test.YtpkidjledgcemaaI64s
import Derived.Test.YtpkidjledgcemaaSizesWalks
import Derived.BigRegion
namespace Go.Proofs.Ytpkidjledgcemaa
open Go.RowKit

def b30 (k i : Nat) : Nat := if i = 0 then 0 else if i < k then 1073741824 else 0

set_option maxRecDepth 20000 in
set_option maxHeartbeats 2000000 in
theorem fewest_any (s : ByteArray) (w : World) (hs : s.size ≤ 512) :
    Calls Try.prog 24 #[.string s] w fun e w' => (∃ v : Nat, e = .returned (.int .i64 (v : Int)) ∧ FewIs s.data.toList v) ∧ Below w.heap.size w w' := by
  have HSl := Hid.mk' (sz_listA s)
  obtain ⟨N1, hN1⟩ : ∃ N1, s.size + 1 = N1 := ⟨_, rfl⟩
  have xN : (s.size : Int) + 1 = (N1 : Int) := by omega
  have hmk := make_intsZ N1 (by omega) w
  have hrow := row64_made w N1 3
  obtain ⟨w1, hw1⟩ : ∃ w1, Hid (w.alloc (.cells (madeCells #[.int .i64 0] N1) 3) = w1) := ⟨_, Hid.mk' rfl⟩
  have HB1 : Hid (Below w.heap.size w w1) := by rw [← hw1.out]; exact (Below.refl _ _).alloc (Nat.le_refl _) _
  rw [hw1.out] at hmk hrow
  have HR1 : Hid (Row64 w1 w.heap.size N1 (fun i => (b30 1 i : Nat))) := hrow.congr fun i _ => by unfold b30; split <;> (try split) <;> first | rfl | omega
  clear hrow
  go_enter Try.func24, Try.ntmps24
  go_wp2_with fail
  clear hmk xN
  go_loopw [4] (fun kv wr => ∃ k : Nat, 1 ≤ k ∧ k ≤ N1 ∧ kv = .int .i64 (k : Int) ∧ Row64 wr w.heap.size N1 (fun i => (b30 k i : Nat)) ∧ Below w.heap.size w wr) (fun kv _ => N1 - (intOf kv).toNat)
  case atStart => exact ⟨1, Nat.le_refl _, by omega, rfl, HR1.out, HB1.out⟩
  case round =>
    obtain ⟨k, hk1, hkN, rfl, hrow, hbl⟩ := hrel
    have HR := Hid.mk' hrow
    have HB := Hid.mk' hbl
    clear hrow hbl
    by_cases hlt : k < N1
    · have c0 := HR.out.cell k hlt
      have f0 := HR.out.open' k hlt
      have HR2 : Hid (Row64 (wr.setCell ⟨w.heap.size, k, none⟩ (.int .i64 1073741824)) w.heap.size N1 (fun i => (b30 (k + 1) i : Nat))) := (HR.out.set k hlt 1073741824).congr fun i _ => by
        unfold b30
        by_cases e : i = k
        · subst e; rw [if_pos rfl, if_neg (by omega), if_pos (by omega)]; rfl
        · rw [if_neg e]
          by_cases h0 : i = 0
          · rw [if_pos h0, if_pos h0]
          · rw [if_neg h0, if_neg h0]
            by_cases h1 : i < k
            · rw [if_pos h1, if_pos (by omega)]
            · rw [if_neg h1, if_neg (by omega)]
      go_wp2_with fail
      go_roundw
      case rel => exact ⟨k + 1, by omega, by omega, by go_num, HR2.out, HB.out.setCell (Nat.le_refl _) _⟩
      case measure => simp [intOf]; omega
    · have hk : k = N1 := by omega
      have HR2 : Hid (Row64 wr w.heap.size N1 (fun i => ((if i = 0 then 0 else 1073741824 : Nat) : Int))) := HR.out.congr fun i hi => by
        unfold b30
        by_cases h0 : i = 0
        · rw [if_pos h0, if_pos h0]
        · rw [if_neg h0, if_neg h0, if_pos (by omega)]
      have tk : decide (k ≤ s.size) = false := decide_eq_false (by omega)
      clear hk
      go_wp2_with fail
      clear tk
      go_loopw [22] (fun iv ws => ∃ (i : Nat) (B : Nat → Nat), i ≤ s.size ∧ iv = .int .i64 (i : Int) ∧ Row64 ws w.heap.size N1 (fun j => (B j : Nat)) ∧ FwSt s.data.toList B i 0 ∧ Below w.heap.size w ws) (fun iv _ => s.size - (intOf iv).toNat)
      case atStart => exact ⟨0, _, Nat.zero_le _, rfl, HR2.out, fw_start _, HB.out⟩
      case round =>
        obtain ⟨i, B, hi, rfl, hrow, hfw, hbl⟩ := hrel
        have HRi := Hid.mk' hrow
        have HF := Hid.mk' hfw
        have HBi := Hid.mk' hbl
        have hBb := hfw.b
        clear hrow hfw hbl
        by_cases hil : i < s.size
        · obtain ⟨i1, hi1⟩ : ∃ i1, i + 1 = i1 := ⟨_, rfl⟩
          have x1 : (i : Int) + 1 = (i1 : Int) := by omega
          have w1' : IntKind.i64.wrap (i1 : Int) = (i1 : Int) := by rw [IntKind.wrap_i64]; omega
          have c0 := HRi.out.cell i (by omega)
          have c1 := HRi.out.cell i1 (by omega)
          have f1 := HRi.out.open' i1 (by omega)
          have hi1N : i1 < N1 := by omega
          have hiN : i < N1 := by omega
          have b0 := hBb i
          have b1 := hBb i1
          have HX := Hid.mk' (HF.out.relax (m := 1) (.inl rfl) (by rw [HSl.out]; omega) (fun m' h1 h2 _ => by have := edge_pos h2; omega))
          rw [hi1] at HX
          obtain ⟨p, hp⟩ : ∃ p, B i = p := ⟨_, rfl⟩
          obtain ⟨q, hq⟩ : ∃ q, B i1 = q := ⟨_, rfl⟩
          rw [hp] at c0 b0 HX
          rw [hq] at c1 b1 HX
          obtain ⟨r, hr⟩ : ∃ r, min q (p + 1) = r := ⟨_, rfl⟩
          have x2 : (if (p : Int) + 1 < (q : Int) then (p : Int) + 1 else (q : Int)) = (r : Int) := by rw [← hr]; split <;> omega
          have w2' : IntKind.i64.wrap ((p : Int) + 1) = (p : Int) + 1 := by rw [IntKind.wrap_i64]; omega
          have hrb : r ≤ 1073741824 := by omega
          rw [hr] at HX
          clear hi1 hp hq hr hBb
          go_wp2_with fail
          go_region
          have HR3 : Hid (Row64 (wr.setCell ⟨w.heap.size, i1, none⟩ (.int .i64 (r : Int))).drew w.heap.size N1 (fun j => ((if j = i1 then r else B j : Nat) : Int))) := by
            have h := (HRi.out.set i1 (by omega) (r : Int)).congr (f' := fun j => ((if j = i1 then r else B j : Nat) : Int)) fun j _ => by by_cases e : j = i1 <;> simp [e]
            exact ⟨h.cell, h.open', h.lt⟩
          have HB3 : Hid (Below w.heap.size w (wr.setCell ⟨w.heap.size, i1, none⟩ (.int .i64 (r : Int))).drew) := (HBi.out.setCell (Nat.le_refl _) _).drew
          have HX3 := Hid.mk' HX.out.three
          clear c0 c1 f1 x1 x2 w1' w2' HX
          go_wp2_with fail
          go_loopw [6] (fun nv ws => ∃ (n : Nat) (B : Nat → Nat), 3 ≤ n ∧ n ≤ 67 ∧ nv = .int .i64 (n : Int) ∧ Row64 ws w.heap.size N1 (fun j => (B j : Nat)) ∧ FwSt s.data.toList B i n ∧ Below w.heap.size w ws) (fun nv _ => 67 - (intOf nv).toNat)
          case atStart => exact ⟨3, _, by omega, by omega, rfl, HR3.out, HX3.out, HB3.out⟩
          case round =>
            obtain ⟨n, C, hn3, hn67, rfl, hrow, hfw, hbl⟩ := hrel
            have HRn := Hid.mk' hrow
            have HFn := Hid.mk' hfw
            have HBn := Hid.mk' hbl
            have hCb := hfw.b
            clear hrow hfw hbl
            obtain ⟨e, he⟩ : ∃ e, i + n = e := ⟨_, rfl⟩
            have xe : (i : Int) + (n : Int) = (e : Int) := by omega
            by_cases h66 : n ≤ 66
            · have t1 : decide (n ≤ 66) = true := decide_eq_true h66
              have t1' : (n : Int) ≤ 66 := by omega
              by_cases hel : e ≤ s.size
              · have t2 : decide (e ≤ s.size) = true := decide_eq_true hel
                have heN : e < N1 := by omega
                have c0 := HRn.out.cell i (by omega)
                have c1 := HRn.out.cell e heN
                have f1 := HRn.out.open' e heN
                have b0 := hCb i
                have b1 := hCb e
                have HHe := Hid.mk' he
                go_wp2_with fail
                refine (ahead_any s i n _ hs (by omega)).mono ?_
                rintro er wx ⟨⟨b, rfl, hb⟩, q0, rfl⟩
                cases b with
                | false =>
                  have HD := Hid.mk' (HFn.out.next (few_done hn3 (.inr (.inr fun h => by have := hb.2 h; cases this))))
                  clear hb he hCb
                  go_wp2_with fail
                  go_roundw
                  case rel => exact ⟨i + 1, C, by omega, by go_num, HRn.out.dN _, HD.out, below_dZ HBn.out _⟩
                  case measure => simp [intOf]; omega
                | true =>
                  have hex := hb.1 rfl
                  have HX := Hid.mk' (HFn.out.relax (m := n) (.inr ⟨hn3, h66, hex⟩) (by rw [HSl.out]; omega) (fun m' h1 _ _ => h1))
                  rw [he] at HX
                  have c0q : (wr.drewN q0).cell? ⟨w.heap.size, i, none⟩ = some (.int .i64 (C i : Int)) := c0
                  have c1q : (wr.drewN q0).cell? ⟨w.heap.size, e, none⟩ = some (.int .i64 (C e : Int)) := c1
                  have f1q : (wr.drewN q0).frozen? ⟨w.heap.size, e, none⟩ = false := f1
                  have HRq := Hid.mk' (HRn.out.dN q0)
                  have HBq := Hid.mk' (below_dZ HBn.out q0)
                  obtain ⟨Wq, hWq⟩ : ∃ Wq, Hid (wr.drewN q0 = Wq) := ⟨_, Hid.mk' rfl⟩
                  rw [hWq.out] at c0q c1q f1q HRq HBq
                  rw [hWq.out]
                  obtain ⟨p1, hp1⟩ : ∃ p1, C i = p1 := ⟨_, rfl⟩
                  obtain ⟨q1, hq1⟩ : ∃ q1, C e = q1 := ⟨_, rfl⟩
                  rw [hp1] at c0q b0 HX
                  rw [hq1] at c1q b1 HX
                  obtain ⟨r1, hr1⟩ : ∃ r1, min q1 (p1 + 1) = r1 := ⟨_, rfl⟩
                  have y2 : (if (p1 : Int) + 1 < (q1 : Int) then (p1 : Int) + 1 else (q1 : Int)) = (r1 : Int) := by rw [← hr1]; split <;> omega
                  have wy2 : IntKind.i64.wrap ((p1 : Int) + 1) = (p1 : Int) + 1 := by rw [IntKind.wrap_i64]; omega
                  have wye : IntKind.i64.wrap (e : Int) = (e : Int) := by rw [IntKind.wrap_i64]; omega
                  have hrb1 : r1 ≤ 1073741824 := by omega
                  rw [hr1] at HX
                  clear hb hex he hCb hp1 hq1 hr1 c0 c1 f1
                  go_wp2_with fail
                  go_region
                  have HR5 : Hid (Row64 (Wq.setCell ⟨w.heap.size, e, none⟩ (.int .i64 (r1 : Int))).drew w.heap.size N1 (fun j => ((if j = e then r1 else C j : Nat) : Int))) := by
                    have h := (HRq.out.set e heN (r1 : Int)).congr (f' := fun j => ((if j = e then r1 else C j : Nat) : Int)) fun j _ => by by_cases e' : j = e <;> simp [e']
                    exact ⟨h.cell, h.open', h.lt⟩
                  have HB5 : Hid (Below w.heap.size w (Wq.setCell ⟨w.heap.size, e, none⟩ (.int .i64 (r1 : Int))).drew) := (HBq.out.setCell (Nat.le_refl _) _).drew
                  clear c0q c1q f1q y2 wy2 wye
                  go_wp2_with fail
                  go_roundw
                  case rel => exact ⟨n + 1, _, by omega, by omega, by go_num, HR5.out, HX.out, HB5.out⟩
                  case measure => simp [intOf]; omega
              · have t2 : decide (e ≤ s.size) = false := decide_eq_false hel
                have HD := Hid.mk' (HFn.out.next (few_done hn3 (.inr (.inl (by rw [HSl.out]; omega)))))
                clear he hCb
                go_wp2_with fail
                go_roundw
                case rel => exact ⟨i + 1, C, by omega, by go_num, HRn.out, HD.out, HBn.out⟩
                case measure => simp [intOf]; omega
            · have t1 : decide (n ≤ 66) = false := decide_eq_false h66
              have t1' : ¬ (n : Int) ≤ 66 := by omega
              have HD := Hid.mk' (HFn.out.next (few_done hn3 (.inl (by omega))))
              clear he hCb
              go_wp2_with fail
              go_roundw
              case rel => exact ⟨i + 1, C, by omega, by go_num, HRn.out, HD.out, HBn.out⟩
              case measure => simp [intOf]; omega
        · have hie : i = s.size := by omega
          have hfin : Hid (FewIs s.data.toList (B s.size)) := by
            have := fw_end (s := s.data.toList) (B := B) (by rw [HSl.out, ← hie]; exact HF.out) (by rw [HSl.out]; exact hs)
            rw [HSl.out] at this
            exact this
          have c0 := HRi.out.cell s.size (by omega)
          have hsN : s.size < N1 := by omega
          go_wp2_with fail
          go_ret
          exact ⟨⟨B s.size, rfl, hfin.out⟩, HBi.out⟩
end Go.Proofs.Ytpkidjledgcemaa
