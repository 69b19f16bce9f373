/- What huff.spend does. -/
import Derived.Test.YtcalbicfnhoklaaDoorLevelsWalks
namespace Go.Proofs.YtcalbicfnhoklaaDoor
open Go.RowKit

/-- how many of the first k coins are singles -/
def sF (l : List (Nat × Bool)) (k : Nat) : Nat := nF ((l.take k).map Prod.snd)
theorem sF_zero (l : List (Nat × Bool)) : sF l 0 = 0 := by simp [sF, nF]
theorem sF_succ (l : List (Nat × Bool)) (k : Nat) (h : k < l.length) : sF l (k + 1) = sF l k + (if l[k].2 then 0 else 1) := by
  unfold sF
  rw [List.take_succ_eq_append_getElem h, List.map_append, nF, List.countP_append]
  simp only [List.map_cons, List.map_nil, nF]
  cases l[k].2 <;> simp
theorem sF_le (l : List (Nat × Bool)) (k : Nat) : sF l k ≤ k := by
  unfold sF
  have := nF_nT ((l.take k).map Prod.snd)
  rw [List.length_map, List.length_take] at this
  omega
theorem sF_mono (l : List (Nat × Bool)) (k b : Nat) (h : k ≤ b) (hb : b ≤ l.length) : sF l k ≤ sF l b := by
  induction b with
  | zero => rw [show k = 0 by omega]; exact Nat.le_refl _
  | succ b ih =>
    by_cases hk : k = b + 1
    · subst hk; exact Nat.le_refl _
    · have := ih (by omega) (by omega)
      rw [sF_succ l b (by omega)]; omega
/-- how often sign x is among the first k -/
def cntI (ids : List Nat) (k x : Nat) : Nat := (ids.take k).count x
theorem cntI_zero (ids : List Nat) (x : Nat) : cntI ids 0 x = 0 := by simp [cntI]
theorem cntI_succ (ids : List Nat) (k x : Nat) (h : k < ids.length) : cntI ids (k + 1) x = cntI ids k x + (if x = ids[k] then 1 else 0) := by
  unfold cntI
  rw [List.take_succ_eq_append_getElem h, List.count_append, List.count_singleton]
  congr 1
  by_cases e : x = ids[k]
  · simp [e]
  · rw [if_neg e, if_neg (by simpa using fun h => e h.symm)]
theorem cntI_le (ids : List Nat) (k x : Nat) : cntI ids k x ≤ ids.length := by
  unfold cntI
  exact Nat.le_trans List.count_le_length (by rw [List.length_take]; omega)

theorem spC_next (L : Nat → List (Nat × Bool)) (ids : List Nat) (d b x : Nat) : spC L ids (d + 1) b x = cntI ids (sF (L (d + 1)) b) x + spC L ids d (2 * (b - sF (L (d + 1)) b)) x := rfl
theorem lv_len {S : List Nat} {L : Nat → List (Nat × Bool)} {m n : Nat} (h0 : L 0 = []) (h : ∀ d, d < m → LvC S (L d) (L (d + 1))) (hS : S.length = n) : ∀ d, d ≤ m → (L d).length ≤ 2 * n
  | 0, _ => by rw [h0]; simp
  | d + 1, hd => by
    have h1 := lv_len h0 h hS d (by omega)
    have h2 := (h d (by omega)).per.length_eq
    rw [List.length_append, List.length_map, List.length_map, prs_length, List.length_map, hS] at h2
    omega
/-- a row of numbers that is written, with all else as it was -/
structure RowG (w wr : World) (gl len : Nat) (f : Nat → Nat) : Prop where
  row : Row64 wr gl len (fun i => (f i : Int))
  gr : w.grownBy wr (some gl)
theorem RowG.alloc {w wr : World} {gl len : Nat} {f : Nat → Nat} (h : RowG w wr gl len f) (o : Obj) : RowG w (wr.alloc o) gl len f := by
  have hb : Below wr.heap.size wr (wr.alloc o) := (Below.refl _ _).alloc (Nat.le_refl _) o
  refine ⟨⟨fun i hi => (hb.cell (p := ⟨gl, i, none⟩) h.row.lt).trans (h.row.cell i hi), fun i hi => (hb.frozen (p := ⟨gl, i, none⟩) h.row.lt).trans (h.row.open' i hi), Nat.lt_of_lt_of_le h.row.lt hb.size⟩, grown_trans h.gr ⟨hb.os, hb.tape, hb.output, hb.size, fun k hk _ => hb.block k hk⟩⟩
theorem RowG.set {w wr : World} {gl len : Nat} {f f' : Nat → Nat} (h : RowG w wr gl len f) (k : Nat) (hk : k < len) (x : Nat) (hf : ∀ i, i < len → f' i = if i = k then x else f i) : RowG w (wr.setCell ⟨gl, k, none⟩ (.int .i64 (x : Int))) gl len f' :=
  ⟨(h.row.set k hk (x : Int)).congr fun i hi => by rw [hf i hi]; by_cases e : i = k <;> simp [e], by
    refine ⟨h.gr.os, h.gr.tape, h.gr.output, by simp only [World.setCell, Array.size_modify]; exact h.gr.size, fun j hj hne => ?_⟩
    exact (heap_setCell_other _ ⟨gl, k, none⟩ j _ (by intro e; exact hne (by rw [e]))).trans (h.gr.block j hj hne)⟩
theorem RowG.cell {w wr : World} {gl len : Nat} {f : Nat → Nat} (h : RowG w wr gl len f) {p : Addr} (hp : p.block < w.heap.size) (hne : p.block ≠ gl) : wr.cell? p = w.cell? p :=
  World.cell?_of_block (h.gr.block p.block hp (by simpa using hne))

set_option maxRecDepth 20000 in
set_option maxHeartbeats 2000000 in
theorem spend_any (gl len capl b1 off1 n cap1 : Nat) (s : Nat → Nat) (ga m base : Nat) (wt : Nat → Nat) (L : Nat → List (Nat × Bool)) (V : Nat → Value) (w : World) (hm0 : 1 ≤ m) (hm : m ≤ 15) (hn2 : 2 ≤ n) (hn : n ≤ 320) 
    (hR : Row64 w gl len (fun _ => 0)) (hb1 : b1 < w.heap.size) (hb1g : b1 ≠ gl) (hQ : ∀ j, j < n → w.cell? ⟨b1, off1 + j, none⟩ = some (.int .i64 (s j : Int))) (hs : ∀ j, j < n → s j < len)
    (hV : RowV w ga m V) (hga : ga ≠ gl) (hA : ∀ d, d < m → LvAt base w (V d) (L (d + 1))) (hbase : gl < base) (hL : Lvs wt n m L) (hup : ((List.range n).map wt).Pairwise (· ≤ ·)) (hroom : 2 * n - 2 ≤ (L m).length) :
    Calls Tryd.prog 54 #[.slice (some ⟨gl, 0, none⟩) len capl, .slice (some ⟨b1, off1, none⟩) n cap1, .slice (some ⟨ga, 0, none⟩) m m] w fun e w' => e = .returned (.tuple #[]) ∧ RowG w w' gl len (fun x => spC L ((List.range n).map s) m (2 * n - 2) x) := by
  obtain ⟨ids, hids⟩ : ∃ ids, Hid ((List.range n).map s = ids) := ⟨_, Hid.mk' rfl⟩
  have hidl : Hid (ids.length = n) := by show _ = _; rw [← hids.out]; simp
  have hida : Hid (∀ j (h : j < ids.length), ids[j] = s j) := by
    intro j h
    simp [← hids.out]
  rw [hids.out]
  obtain ⟨T, hT⟩ : ∃ T : Nat → Nat, Hid (∀ x, spC L ids m (2 * n - 2) x = T x) := ⟨_, fun _ => rfl⟩
  rw [show (fun x => spC L ids m (2 * n - 2) x) = T from funext hT.out]
  have HR := Hid.mk' hR
  have HQ := Hid.mk' hQ
  have HS := Hid.mk' hs
  have HV := Hid.mk' hV
  have HA := Hid.mk' hA
  have HL := Hid.mk' hL
  have HU := Hid.mk' hup
  have hgl := hR.lt
  have hgal := hV.lt
  clear hR hQ hs hV hA hL hup
  have hb0 : 2 * (n : Int) - 2 = ((2 * n - 2 : Nat) : Int) := by omega
  go_enter Tryd.func54, Tryd.ntmps54
  go_wp2_with fail
  clear hb0
  go_loopw [6, 7] (fun bv iv wr => ∃ (d b : Nat) (f : Nat → Nat), d ≤ m ∧ iv = .int .i64 ((d : Int) - 1) ∧ bv = .int .i64 (b : Int) ∧ b ≤ (L d).length ∧ RowG w wr gl len f ∧ (∀ x, f x + spC L ids d b x = T x) ∧ (∀ x, f x ≤ 320 * (m - d))) (fun _ iv _ => (intOf iv + 1).toNat)
  case atStart => exact ⟨m, 2 * n - 2, fun _ => 0, Nat.le_refl _, rfl, rfl, hroom, ⟨HR.out, grown_refl _ _⟩, fun x => by rw [hT.out x]; simp, fun x => by simp⟩
  case round =>
    obtain ⟨d, b, f, hd, rfl, rfl, hb, hrow, hsum, hfb⟩ := hrel
    obtain ⟨wo, hwo⟩ : ∃ wo : World, wo = wr := ⟨wr, rfl⟩
    subst hwo
    have HRo := Hid.mk' hrow
    have HSm := Hid.mk' hsum
    have HF := Hid.mk' hfb
    clear hrow hsum hfb
    cases d with
    | zero =>
      have HE : Hid (RowG w wo gl len T) := by
        have h := HRo.out
        rwa [show f = T from funext fun x => by have := HSm.out x; rw [spC] at this; omega] at h
      go_wp2_with fail
      go_end0
      exact ⟨rfl, HE.out⟩
    | succ i =>
      have hiz : ((i + 1 : Nat) : Int) - 1 = (i : Int) := by omega
      rw [hiz]
      have him : i < m := by omega
      have hbl := HL.out.s i him
      obtain ⟨k1, k2, k3⟩ := hbl.below HU.out (lv_up HL.out.z HL.out.s i (by omega)) hb
      have K1 : Hid (sF (L (i + 1)) b ≤ n) := by have := k1; rw [List.length_map, List.length_range] at this; exact this
      have K3 : Hid (2 * (b - sF (L (i + 1)) b) ≤ (L i).length) := k3
      obtain ⟨g, cp, hv, hc1, hc2, hg, hrc⟩ := HA.out i him
      have hgc := hrc.lt
      have hlb : Hid ((L (i + 1)).length ≤ 1000) := by
        have h := lv_len HL.out.z HL.out.s (by simp : ((List.range n).map wt).length = n) (i + 1) (by omega)
        show _ ≤ _
        omega
      clear k1 k2 k3 hbl
      generalize hl : L (i + 1) = l at *
      have HLl := Hid.mk' hl
      clear hl
      have cV : wo.cell? ⟨ga, i, none⟩ = some (.slice (some ⟨g, 0, none⟩) l.length cp) := by
        rw [World.cell?_of_block (HRo.out.gr.block ga hgal (by simpa using hga)), HV.out.cell i him, hv]
      have hlb' := hlb.out
      clear hv
      go_wp2_with fail
      go_loopw [8, 29] (fun sv jv wr => ∃ k : Nat, k ≤ b ∧ sv = .int .i64 (sF l k : Int) ∧ jv = .int .i64 (k : Int) ∧ RowG w wr gl len (fun x => f x + cntI ids (sF l k) x)) (fun _ jv _ => b - (intOf jv).toNat)
      case atStart =>
        refine ⟨0, Nat.zero_le _, by rw [sF_zero]; rfl, rfl, ?_⟩
        rw [sF_zero]
        simp only [cntI_zero, Nat.add_zero]
        exact HRo.out
      case round =>
        obtain ⟨k, hk, rfl, rfl, hrow⟩ := hrel
        have HRk := Hid.mk' hrow
        have hsk := sF_le l k
        clear hrow
        by_cases hkb : k < b
        · have hkl : k < l.length := by omega
          have hsu := Hid.mk' (sF_succ l k hkl)
          have r0 := (HRk.out.cell (p := ⟨g, k * 2, none⟩) hgc (by show g ≠ gl; omega)).trans (hrc.c0 k hkl)
          have r1 := (HRk.out.cell (p := ⟨g, k * 2 + 1, none⟩) hgc (by show g ≠ gl; omega)).trans (hrc.c1 k hkl)
          rw [rowC_at l k hkl] at r0 r1
          have hmono := sF_mono l (k + 1) b hkb hb
          have hK1 := K1.out
          obtain ⟨q, hq⟩ : ∃ q, Hid (sF l k = q) := ⟨_, Hid.mk' rfl⟩
          generalize l[k] = c at r0 r1 hsu
          obtain ⟨c, pr⟩ := c
          rw [hq.out] at hsu hsk HRk ⊢
          cases pr with
          | true =>
            have hs2 : Hid (sF l (k + 1) = q) := by show _ = _; have := hsu.out; simpa using this
            have HR2 := Hid.mk' (HRk.out.alloc (.cells #[.int .i64 (c : Int), .bool true] 126))
            go_wp2_with fail
            go_roundw
            case rel => exact ⟨k + 1, by omega, by rw [hs2.out], by go_num, by rw [hs2.out]; exact HR2.out⟩
            case measure => simp [intOf]; omega
          | false =>
            have hs2 : Hid (sF l (k + 1) = q + 1) := by show _ = _; have := hsu.out; simpa using this
            rw [hs2.out] at hmono
            have hqn : q < n := by omega
            have HR2 := Hid.mk' (HRk.out.alloc (.cells #[.int .i64 (c : Int), .bool false] 126))
            have hsq := HS.out q hqn
            have cq := (HR2.out.cell (p := ⟨b1, off1 + q, none⟩) hb1 hb1g).trans (HQ.out q hqn)
            have hcn := Hid.mk' (cntI_succ ids q)
            have hia := hida.out q (by rw [hidl.out]; exact hqn)
            have hcle := cntI_le ids q (s q)
            rw [hidl.out] at hcle
            have hfle := HF.out (s q)
            have cl := HR2.out.row.cell (s q) hsq
            have fl := HR2.out.row.open' (s q) hsq
            obtain ⟨y, hy⟩ : ∃ y, Hid (f (s q) + cntI ids q (s q) = y) := ⟨_, Hid.mk' rfl⟩
            have HR3 : Hid (RowG w (((wr.alloc (.cells #[.int .i64 (c : Int), .bool false] 126))).setCell ⟨gl, s q, none⟩ (.int .i64 ((y + 1 : Nat) : Int))) gl len (fun x => f x + cntI ids (q + 1) x)) := HR2.out.set (s q) hsq (y + 1) fun x hx => by
              rw [hcn.out x (by rw [hidl.out]; exact hqn), hia]
              by_cases e : x = s q
              · rw [if_pos e, if_pos e, e, ← hy.out]; omega
              · rw [if_neg e, if_neg e]; omega
            have hyb : y ≤ 6000 := by have := hy.out; omega
            rw [hy.out] at cl
            generalize s q = t at cq cl fl hsq HR3
            clear hia hcle hfle hy hcn
            go_wp2_with fail
            go_roundw
            case rel => exact ⟨k + 1, by omega, by rw [hs2.out]; go_num, by go_num, by rw [hs2.out]; exact HR3.out⟩
            case measure => simp [intOf]; omega
        · have hke : k = b := by omega
          subst hke
          have hK1 := K1.out
          have hq2 : Hid (∀ x, f x + cntI ids (sF l k) x + spC L ids i (2 * (k - sF l k)) x = T x) := fun x => by
            have := HSm.out x
            rw [spC_next] at this
            rw [HLl.out] at this
            omega
          have hsb : Hid (∀ x, f x + cntI ids (sF l k) x ≤ 320 * (m - i)) := fun x => by
            have h1 := HF.out x
            have h2 := cntI_le ids (sF l k) x
            rw [hidl.out] at h2
            show _ ≤ _
            omega
          have K3' := K3.out
          obtain ⟨q, hq⟩ : ∃ q, Hid (sF l k = q) := ⟨_, Hid.mk' rfl⟩
          rw [hq.out] at hq2 hsb HRk hsk K3' ⊢
          obtain ⟨r, hr⟩ : ∃ r, Hid (k - q = r) := ⟨_, Hid.mk' rfl⟩
          have hrz : (k : Int) - (q : Int) = (r : Int) := by have := hr.out; omega
          have hrb : r ≤ 1000 := by have := hr.out; omega
          rw [hr.out] at hq2 K3'
          go_wp2_with fail
          go_roundw
          case rel => exact ⟨i, 2 * r, _, by omega, by go_num, by go_num, K3', HRk.out, hq2.out, hsb.out⟩
          case measure => simp [intOf]
end Go.Proofs.YtcalbicfnhoklaaDoor
