import Derived.Test.YtcalbicfnhoklaaDoorMsad
import Derived.Test.YtcalbicfnhoklaaDoorMsac
import Derived.Test.YtcalbicfnhoklaaDoorMsai
import Derived.Deep.QuietTactic
import Derived.BigQuiet

/- What lz.bestSizes answers. -/
namespace Go.Proofs.YtcalbicfnhoklaaDoor
open Go.RowKit

theorem Row64.other {w : World} {g len : Nat} {f : Nat → Int} (h : Row64 w g len f) (a : Addr) (ha : g ≠ a.block) (v : Value) : Row64 (w.setCell a v) g len f :=
  ⟨fun i hi => by rw [World.cell?_setCell_other _ _ _ _ (by intro e; rw [e] at ha; exact ha rfl)]; exact h.cell i hi, fun i hi => by rw [World.frozen?_setCell]; exact h.open' i hi, by simpa [World.setCell] using h.lt⟩
theorem Row64.belowR {w w' : World} {g len : Nat} {f : Nat → Int} (h : Row64 w g len f) (hb : Below w.heap.size w w') : Row64 w' g len f :=
  ⟨fun i hi => (hb.cell (p := ⟨g, i, none⟩) h.lt).trans (h.cell i hi), fun i hi => (World.frozen?_of_block (w := w) (a := ⟨g, i, none⟩) (hb.block g h.lt)).trans (h.open' i hi), Nat.lt_of_lt_of_le h.lt hb.size⟩
theorem Row64.dN {w : World} {g len : Nat} {f : Nat → Int} (h : Row64 w g len f) (q : Nat) : Row64 (w.drewN q) g len f := ⟨h.cell, h.open', h.lt⟩
theorem below_dZ {B : Nat} {a w : World} (h : Below B a w) (q : Nat) : Below B a (w.drewN q) := ⟨h.os, h.tape, h.output, h.size, h.block⟩
theorem make_intsZ (n : Nat) (hn : n ≤ 1024) (w : World) :
    (Instr.makeSlice 50 (.int .i64 (n : Int)) (.int .i64 (n : Int))).run Tryd.prog w = .ok (.slice (some ⟨w.heap.size, 0, none⟩) n n) (w.alloc (.cells (madeCells #[.int .i64 0] n) 3)) := by
  obtain ⟨i, hi, hzz⟩ := Option.map_eq_some_iff.1 infoI64
  simp only [Prod.mk.injEq] at hzz
  obtain ⟨hz, hs, hb⟩ := hzz
  have hr := run_make (P := Tryd.prog) w 50 3 i _ Tryd.underlying50 hi hz .i64 .i64 n n (by omega) (Int.le_refl _) (by rw [hb]; omega) (by omega)
  rw [Int.toNat_natCast, hs, Nat.mul_one] at hr
  exact hr

set_option maxRecDepth 20000 in
set_option maxHeartbeats 2000000 in
theorem sizes_any (a0 : Option Addr) (N cap : Nat) (M : Nat → Mk) (L : Nat → Nat) (w : World) (hP : Mks w a0 N M) (hN : N ≤ 512) (hL : ∀ i, i < N → (M i).ln = (L i : Int) ∧ i + L i ≤ N) :
    Calls Tryd.prog 34 #[.slice a0 N cap] w fun e w' => (∃ g Z K, e = .returned (.slice (some ⟨g, 0, none⟩) N N) ∧ w.heap.size ≤ g ∧ Row64 w' g N (fun i => (Z i : Nat)) ∧ SzSt L N 0 Z K) ∧ Below w.heap.size w w' := by
  have HP := Hid.mk' hP
  have HL := Hid.mk' hL
  clear hP hL
  have hmk1 := make_intsZ N (by omega) w
  have hr1 := row64_made w N 3
  obtain ⟨w1, hw1⟩ : ∃ w1, Hid (w.alloc (.cells (madeCells #[.int .i64 0] N) 3) = w1) := ⟨_, Hid.mk' rfl⟩
  have HB1 : Hid (Below w.heap.size w w1) := by rw [← hw1.out]; exact (Below.refl _ _).alloc (Nat.le_refl _) _
  have hs1 : w1.heap.size = w.heap.size + 1 := by rw [← hw1.out]; simp
  rw [hw1.out] at hmk1 hr1
  have hmk2 := make_intsZ (N + 1) (by omega) w1
  have hr2 := row64_made w1 (N + 1) 3
  obtain ⟨w2, hw2⟩ : ∃ w2, Hid (w1.alloc (.cells (madeCells #[.int .i64 0] (N + 1)) 3) = w2) := ⟨_, Hid.mk' rfl⟩
  have HB12 : Hid (Below w1.heap.size w1 w2) := by rw [← hw2.out]; exact (Below.refl _ _).alloc (Nat.le_refl _) _
  have hs2 : w2.heap.size = w.heap.size + 2 := by rw [← hw2.out]; simp; omega
  rw [hw2.out] at hmk2 hr2
  have HR1 := Hid.mk' (hr1.belowR HB12.out)
  have HR2 := Hid.mk' hr2
  have HB2 := Hid.mk' (HB1.out.trans (HB12.out.mono (by omega)))
  rw [hs1] at HR2 hmk2
  clear hr1 hr2
  obtain ⟨N1, hN1⟩ : ∃ N1, N + 1 = N1 := ⟨_, rfl⟩
  have xN : (N : Int) + 1 = (N1 : Int) := by omega
  rw [hN1] at hmk2 HR2
  go_enter Tryd.func34, Tryd.ntmps34
  go_wp2_with fail
  clear hmk1 hmk2 xN
  go_loopw [5] (fun av wr => ∃ (p : Nat) (Z K : Nat → Nat), p ≤ N ∧ av = .int .i64 ((p : Int) - 1) ∧ Row64 wr w.heap.size N (fun i => (Z i : Nat)) ∧ Row64 wr (w.heap.size + 1) N1 (fun i => (K i : Nat)) ∧ SzSt L N p Z K ∧ Below w.heap.size w wr ∧ w.heap.size + 2 ≤ wr.heap.size) (fun av _ => ((intOf av) + 1).toNat)
  case atStart => exact ⟨N, fun _ => 0, fun _ => 0, Nat.le_refl _, by first | rfl | go_num, HR1.out, HR2.out, szst_start L N _, HB2.out, by omega⟩
  case round =>
    obtain ⟨p, Z, K, hp, rfl, hz, hk, hst, hbl, hsz⟩ := hrel
    have HZ := Hid.mk' hz
    have HK := Hid.mk' hk
    have HS := Hid.mk' hst
    have HB := Hid.mk' hbl
    clear hz hk hst hbl
    by_cases hp0 : p = 0
    · subst hp0
      go_wp2_with fail
      go_ret
      exact ⟨⟨w.heap.size, Z, K, rfl, Nat.le_refl _, HZ.out, HS.out⟩, HB.out⟩
    · obtain ⟨a, ha⟩ : ∃ a, p = a + 1 := ⟨p - 1, by omega⟩
      subst ha
      have xa : ((a + 1 : Nat) : Int) - 1 = (a : Int) := by omega
      have haN : a < N := by omega
      obtain ⟨hl1, hl2⟩ := HL.out a haN
      obtain ⟨b, off, rfl, hb, hc⟩ := HP.out.at' (by omega)
      have HC : Hid (∀ ws : World, Below w.heap.size w ws → ws.cell? ⟨b, off + a * 3, none⟩ = some (.int .i64 (L a : Int))) := fun ws hbs => (hbs.cell (p := ⟨b, off + a * 3, none⟩) hb).trans (by rw [← hl1]; exact (hc a haN).1)
      obtain ⟨l, hl⟩ : ∃ l, L a = l := ⟨_, rfl⟩
      rw [hl] at hl2 HC
      have HLa := Hid.mk' hl
      clear hc hl1 hl
      have f1 := HZ.out.open' a haN
      have c1 := HZ.out.cell a haN
      rw [xa]
      go_wp2_with fail
      obtain ⟨W, hW⟩ : ∃ W, Hid (wr.setCell ⟨w.heap.size, a, none⟩ (.int .i64 1) = W) := ⟨_, Hid.mk' rfl⟩
      have HZ2 : Hid (Row64 W w.heap.size N (fun i => ((if i = a then 1 else Z i : Nat) : Int))) := by
        rw [← hW.out]
        exact (HZ.out.set a haN 1).congr fun i _ => by split <;> rfl
      have HK2 : Hid (Row64 W (w.heap.size + 1) N1 (fun i => (K i : Nat))) := by rw [← hW.out]; exact HK.out.other ⟨w.heap.size, a, none⟩ (by simp) _
      have HB3 : Hid (Below w.heap.size w W) := by rw [← hW.out]; exact HB.out.setCell (Nat.le_refl _) _
      have hs3 : w.heap.size + 2 ≤ W.heap.size := by rw [← hW.out]; simpa [World.setCell] using hsz
      rw [hW.out]
      clear f1 c1
      go_loopw [6] (fun nv ws => ∃ (n z : Nat), n ≤ max (l + 1) 3 ∧ nv = .int .i64 (n : Int) ∧ Row64 ws w.heap.size N (fun i => ((if i = a then z else Z i : Nat) : Int)) ∧ Row64 ws (w.heap.size + 1) N1 (fun i => (K i : Nat)) ∧ SzIn L N a n z K ∧ Below w.heap.size w ws ∧ w.heap.size + 2 ≤ ws.heap.size) (fun nv _ => max (l + 1) 3 - (intOf nv).toNat)
      case atStart => exact ⟨3, 1, by omega, rfl, HZ2.out, HK2.out, szin_start L N a K, HB3.out, hs3⟩
      case round =>
        obtain ⟨n, z, hn, rfl, hz, hk, hin, hbl, hss⟩ := hrel
        have HZi := Hid.mk' hz
        have HKi := Hid.mk' hk
        have HI := Hid.mk' hin
        have HBi := Hid.mk' hbl
        have cl := HC.out _ hbl
        have hn3 := hin.n3
        have hzok := hin.ok
        rw [HLa.out] at hzok
        have hzN : a + z ≤ N := by rcases hzok with h | h <;> omega
        have hz66 : z ≤ N := by omega
        clear hz hk hin hbl
        have cz := HZi.out.cell a haN
        rw [if_pos rfl] at cz
        have fz := HZi.out.open' a haN
        have ckz := HKi.out.cell (a + z) (by omega)
        have hKb := HS.out.le
        have hkz := hKb (a + z)
        obtain ⟨kz, hkze⟩ : ∃ kz, K (a + z) = kz := ⟨_, rfl⟩
        rw [hkze] at ckz hkz
        have HKz := Hid.mk' hkze
        have xaz : (a : Int) + (z : Int) = ((a + z : Nat) : Int) := by omega
        obtain ⟨az, haz⟩ : ∃ az, a + z = az := ⟨_, rfl⟩
        rw [haz] at ckz xaz
        have hazN : az < N1 := by omega
        by_cases hnl : n ≤ l
        · have ckn := HKi.out.cell (a + n) (by omega)
          have hkn := hKb (a + n)
          obtain ⟨kn, hkne⟩ : ∃ kn, K (a + n) = kn := ⟨_, rfl⟩
          rw [hkne] at ckn hkn
          have HKn := Hid.mk' hkne
          have xan : (a : Int) + (n : Int) = ((a + n : Nat) : Int) := by omega
          obtain ⟨an, han⟩ : ∃ an, a + n = an := ⟨_, rfl⟩
          rw [han] at ckn xan
          have hanN : an < N1 := by omega
          have wan : IntKind.i64.wrap (an : Int) = (an : Int) := by rw [IntKind.wrap_i64]; omega
          have waz : IntKind.i64.wrap (az : Int) = (az : Int) := by rw [IntKind.wrap_i64]; omega
          clear hkze haz hkne han hKb
          by_cases hle : kn ≤ kz
          · have tl : decide (kn ≤ kz) = true := decide_eq_true hle
            have HI2 := Hid.mk' (HI.out.take hn3 (by rw [HLa.out]; exact hnl) (by rw [HKn.out, HKz.out]; exact hle))
            go_wp2_with fail
            go_quiet (fail)
            go_wp2_with fail
            go_roundw
            case rel => exact ⟨n + 1, n, by omega, by go_num, ((HZi.out.dN _).set a haN (n : Int)).congr (fun i _ => by by_cases e : i = a <;> simp [e]), (HKi.out.dN _).other ⟨w.heap.size, a, none⟩ (by simp) _, HI2.out, (below_dZ HBi.out _).setCell (Nat.le_refl _) _, by simpa [World.setCell] using hss⟩
            case measure => simp [intOf]; omega
          · have tl : decide (kn ≤ kz) = false := decide_eq_false hle
            have HI2 := Hid.mk' (HI.out.keep (by rw [HKn.out, HKz.out]; exact hle))
            go_wp2_with fail
            go_quiet (fail)
            go_wp2_with fail
            go_roundw
            case rel => exact ⟨n + 1, z, by omega, by go_num, HZi.out.dN _, HKi.out.dN _, HI2.out, below_dZ HBi.out _, hss⟩
            case measure => simp [intOf]; omega
        · have hst2 := szst_step HS.out haN (fun i hi => (HL.out i hi).2) (.inr ⟨n, by rw [HLa.out]; omega, HI.out⟩)
          rw [HKz.out] at hst2
          have HS2 := Hid.mk' hst2.1
          have cka := HKi.out.cell a (by omega)
          have fka := HKi.out.open' a (by omega)
          have haN1 : a < N1 := by omega
          clear hkze haz hst2 hKb
          go_wp2_with fail
          go_roundw
          case rel => exact ⟨a, _, _, by omega, by go_num, HZi.out.other ⟨w.heap.size + 1, a, none⟩ (by simp) _, (HKi.out.set a (by omega) ((kz + 1 : Nat) : Int)).congr (fun i _ => by by_cases e : i = a <;> simp [e]), HS2.out, HBi.out.setCell (by show w.heap.size ≤ w.heap.size + 1; omega) _, by simpa [World.setCell] using hss⟩
          case measure => simp [intOf]
end Go.Proofs.YtcalbicfnhoklaaDoor
