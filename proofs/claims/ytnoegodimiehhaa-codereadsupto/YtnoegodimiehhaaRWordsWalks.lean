/- What linenref.words answers. -/
import Derived.Test.YtnoegodimiehhaaRCodewordWalks
import Derived.Test.YtnoegodimiehhaaRCanonWalks
import Derived.Test.YtnoegodimiehhaaWriteMath
import Derived.Test.YtnoegodimiehhaaGrowAt
import Derived.Test.YtnoegodimiehhaaRBeginsWalks
namespace Go.Proofs.Ytnoegodimiehhaa
open Go.RowKit

theorem infoInts : (Try.prog.info? 22).map (fun i => (i.zero, i.size, i.bytes)) = some (some (.slice none 0 0), 1, 24) := by kernel_rfl
/-- a word: bits in a block behind g -/
structure Word (w : World) (g : Nat) (v : Value) (X n : Nat) : Prop where
  is : ∃ ao cap, v = .slice ao n cap ∧ n ≤ cap ∧ (0 < n → ∃ b off, ao = some ⟨b, off, none⟩ ∧ g < b ∧ b < w.heap.size ∧ ∀ i, i < n → w.cell? ⟨b, off + i, none⟩ = some (.int .i64 ((X / 2 ^ i % 2 : Nat) : Int)))
theorem Word.below {w w' : World} {g : Nat} {v : Value} {X n : Nat} (h : Word w g v X n) (hb : Below w.heap.size w w') : Word w' g v X n := by
  obtain ⟨ao, cap, h1, h2, h3⟩ := h.is
  refine ⟨ao, cap, h1, h2, fun hp => ?_⟩
  obtain ⟨b, off, k1, k2, k3, k4⟩ := h3 hp
  exact ⟨b, off, k1, k2, Nat.lt_of_lt_of_le k3 hb.size, fun i hi => (hb.cell (p := ⟨b, off + i, none⟩) k3).trans (k4 i hi)⟩
theorem Word.set {w : World} {g : Nat} {v : Value} {X n : Nat} (h : Word w g v X n) (p : Nat) (x : Value) : Word (w.setCell ⟨g, p, none⟩ x) g v X n := by
  obtain ⟨ao, cap, h1, h2, h3⟩ := h.is
  refine ⟨ao, cap, h1, h2, fun hp => ?_⟩
  obtain ⟨b, off, k1, k2, k3, k4⟩ := h3 hp
  refine ⟨b, off, k1, k2, by simpa [World.setCell] using k3, fun i hi => ?_⟩
  rw [World.cell?_setCell_other _ _ _ _ (by intro e; simp only [Addr.mk.injEq] at e; omega)]
  exact k4 i hi
theorem word_own {w : World} {N g n X : Nat} {v : Value} (h : w.ownsRow N 3 1 v n (bitsC X n)) (hg : g < N) : Word w g v X n := by
  rcases h.2 with ⟨rfl, rfl⟩ | ⟨b, cap, cur, rfl, hb, hgg, hc, _, _, _⟩
  · exact ⟨none, 0, rfl, Nat.le_refl _, fun hp => by omega⟩
  · refine ⟨some ⟨b, 0, none⟩, cap, rfl, hc, fun _ => ⟨b, 0, rfl, by omega, (Array.getElem?_eq_some_iff.1 hgg).1, fun i hi => ?_⟩⟩
    rw [Nat.zero_add, h.cellAt i (by omega)]
    simp [bitsC, hi]
theorem word_nil (w : World) (g X : Nat) : Word w g (.slice none 0 0) X 0 := ⟨none, 0, rfl, Nat.le_refl _, fun hp => by omega⟩
/-- the words of the first k signs -/
structure Words (w : World) (g : Nat) (L : Nat → Int) (len k : Nat) (R : Nat → Value) : Prop where
  lt : g < w.heap.size
  c : ∀ i, i < len → w.cell? ⟨g, i, none⟩ = some (R i)
  fz : ∀ i, i < len → w.frozen? ⟨g, i, none⟩ = false
  done : ∀ i, i < k → Word w g (R i) (rv (codeN L len i) (L i).toNat) (L i).toNat
theorem Words.below {w w' : World} {g : Nat} {L : Nat → Int} {len k : Nat} {R : Nat → Value} (h : Words w g L len k R) (hb : Below w.heap.size w w') : Words w' g L len k R :=
  ⟨Nat.lt_of_lt_of_le h.lt hb.size, fun i hi => (hb.cell (p := ⟨g, i, none⟩) h.lt).trans (h.c i hi), fun i hi => (World.frozen?_of_block (w := w) (a := ⟨g, i, none⟩) (hb.block g h.lt)).trans (h.fz i hi), fun i hi => (h.done i hi).below hb⟩

set_option maxRecDepth 20000 in
set_option maxHeartbeats 1000000 in
theorem rwords_any (a0 : Option Addr) (len cap : Nat) (L : Nat → Int) (w : World) (hP : Wds w a0 len L) (hE : canE L len = 0) :
    Calls Try.prog 19 #[.slice a0 len cap] w fun e w' => (∃ g R, e = .returned (.slice (some ⟨g, 0, none⟩) len len) ∧ Words w' g L len len R) ∧ Below w.heap.size w w' := by
  obtain ⟨h320, hg, hF, hcl⟩ := canE_ok hE
  have HP := Hid.mk' hP
  have HG := Hid.mk' hg
  have HC := Hid.mk' hcl
  have HE := Hid.mk' hE
  have hmk := fun w => run_make_row' (P := Try.prog) 49 22 (.slice none 0 0) 24 Try.underlying49 infoInts rfl .i64 .i64 len (by omega) (by omega) w
  clear hP hg hcl hE
  go_enter Try.func19, Try.ntmps19
  go_wp2_with fail
  refine (rcanon_any a0 len cap L _ HP.out).mono ?_
  rintro e w1 ⟨⟨v, rfl, hI⟩, hb⟩
  rw [HC.out] at hI
  rw [HE.out]
  obtain ⟨ac, cc, rfl, hcod⟩ := hI.is
  have HK := Hid.mk' hcod
  have HB1 := Hid.mk' hb
  have hs1 := hb.size
  clear hI hcod hb
  go_wp2_with fail
  clear hmk
  go_loopw [18] (fun i wr => ∃ (k : Nat) (R : Nat → Value), k ≤ len ∧ i = .int .i64 k ∧ (∀ i, k ≤ i → R i = .slice none 0 0) ∧ Words wr w1.heap.size L len k R ∧ Below w1.heap.size w1 wr) (fun i _ => len - (intOf i).toNat)
  case atStart =>
    refine ⟨0, fun _ => .slice none 0 0, Nat.zero_le _, rfl, fun i _ => rfl, ⟨by simp, fun i hi => ?_, fun i hi => ?_, fun i hi => by omega⟩, (Below.refl _ _).alloc (Nat.le_refl _) _⟩
    · rw [World.cell?_alloc_new]
      simp [madeCells, hi, Nat.mod_one]
    · unfold World.frozen?
      rw [heap_alloc_new]
      rfl
  case round =>
    obtain ⟨k, R, hk, rfl, hnil, hwd, hbl⟩ := hrel
    have HN := Hid.mk' hnil
    have HW := Hid.mk' hwd
    have HB := Hid.mk' hbl
    have HBw := Hid.mk' (HB1.out.trans (hbl.mono hs1))
    have hgl := hwd.lt
    have hs2 := hbl.size
    clear hnil hwd hbl
    by_cases hlt : k < len
    · obtain ⟨b0, off0, rfl, hb0, hc0⟩ := HP.out.at' (by omega)
      have c0 := (HBw.out.cell (p := ⟨b0, off0 + k, none⟩) hb0).trans (hc0 k hlt)
      clear hc0
      have hlb := len_of (HG.out k hlt)
      obtain ⟨y, hy⟩ : ∃ y : Nat, L k = (y : Int) := ⟨(L k).toNat, by omega⟩
      have hy15 : y ≤ 15 := by omega
      have HY := Hid.mk' hy
      rw [hy] at c0
      clear hy hlb
      by_cases hy0 : 0 < y
      · obtain ⟨gc, oc, rfl, hgc, hcc⟩ := HK.out (by omega)
        have cc0 := (HB.out.cell (p := ⟨gc, oc + k, none⟩) hgc).trans (hcc k hlt)
        clear hcc
        have hcb := code_le L len k (HG.out k hlt) hlt hF
        obtain ⟨q, hq⟩ : ∃ q, Hid (codeN L len k = q) := ⟨_, Hid.mk' rfl⟩
        rw [hq.out] at hcb cc0
        go_wp2_with fail
        refine (rcodeword_any q y _ (by omega) hy15).mono ?_
        rintro e w2 ⟨⟨v, rfl, ho⟩, hb⟩
        obtain ⟨ao, cp, rfl⟩ := (own_slice' ho)
        have hs3 := hb.size
        have r1 := (HW.out.below hb).c k hlt
        have r2 := (HW.out.below hb).fz k hlt
        have HWD := Hid.mk' (word_own (g := w1.heap.size) ho (by omega))
        have HW2 : Hid (Words (w2.setCell ⟨w1.heap.size, k, none⟩ (.slice ao y cp)) w1.heap.size L len (k + 1) (fun i => if i = k then .slice ao y cp else R i)) := by
          have h := HW.out.below hb
          refine ⟨by simpa [World.setCell] using h.lt, fun i hi => ?_, fun i hi => ?_, fun i hi => ?_⟩
          · by_cases e : i = k
            · subst e
              rw [if_pos rfl]
              exact World.cell?_setCell_same _ _ _ (h.c i hi)
            · rw [if_neg e, World.cell?_setCell_other _ _ _ _ (by intro e'; simp only [Addr.mk.injEq] at e'; omega)]
              exact h.c i hi
          · rw [World.frozen?_setCell]; exact h.fz i hi
          · by_cases e : i = k
            · subst e
              rw [if_pos rfl, HY.out, Int.toNat_natCast, hq.out]
              exact HWD.out.set _ _
            · rw [if_neg e]; exact (h.done i (by omega)).set _ _
        have HB2 : Hid (Below w1.heap.size w1 (w2.setCell ⟨w1.heap.size, k, none⟩ (.slice ao y cp))) := (HB.out.trans (hb.mono hs2)).setCell (Nat.le_refl _) _
        clear ho hb
        go_wp2_with fail
        go_roundw
        case rel => exact ⟨k + 1, _, by omega, by go_num, fun i hi => by rw [if_neg (by omega)]; exact HN.out i (by omega), HW2.out, HB2.out⟩
        case measure => simp [intOf]; omega
      · have hy00 : y = 0 := by omega
        subst hy00
        have HW2 : Hid (Words wr w1.heap.size L len (k + 1) R) := by
          refine ⟨HW.out.lt, HW.out.c, HW.out.fz, fun i hi => ?_⟩
          by_cases e : i = k
          · subst e
            rw [HN.out i (Nat.le_refl _), HY.out]
            exact word_nil _ _ _
          · exact HW.out.done i (by omega)
        go_wp2_with fail
        go_roundw
        case rel => exact ⟨k + 1, R, by omega, by go_num, fun i hi => HN.out i (by omega), HW2.out, HB.out⟩
        case measure => simp [intOf]; omega
    · have hkl := Hid.mk' (show k = len by omega)
      go_wp2_with fail
      go_ret
      exact ⟨⟨w1.heap.size, R, rfl, by rw [← hkl.out]; have := HW.out; rw [hkl.out] at this ⊢; exact this⟩, HBw.out⟩
end Go.Proofs.Ytnoegodimiehhaa
