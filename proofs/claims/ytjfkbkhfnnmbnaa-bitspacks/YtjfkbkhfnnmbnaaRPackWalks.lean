/- What linenref.Pack answers: what bits.Pack does. -/
import Derived.Test.YtjfkbkhfnnmbnaaTextWalks
import Derived.Test.YtjfkbkhfnnmbnaaPackWalks
namespace Go.Proofs.Ytjfkbkhfnnmbnaa
open Go.RowKit

theorem infoInt : (Try.prog.info? 3).map (fun i => (i.zero, i.size, i.bytes)) = some (some (.int .i64 0), 1, 8) := by kernel_rfl
def cellsI (l : List Nat) : List Value := l.map fun x : Nat => .int .i64 (x : Int)
theorem cellsI_length (l : List Nat) : (cellsI l).length = l.length := by simp [cellsI]
theorem cellsI_snoc (l : List Nat) (x : Nat) : cellsI (l ++ [x]) = cellsI l ++ [.int .i64 (x : Int)] := by simp [cellsI]

theorem one_int' (k : IntKind) (n : Int) : ∀ u ∈ [Value.int k n], u.oneCell' = true := by
  intro u hu
  rw [List.mem_singleton.1 hu]
  rfl
theorem below_grow {w wr w1 : World} {N k : Nat} {e : TypeId} {v : Value} {xs : List Value} {o : Obj} (hown : wr.ownsRow N e 1 v k xs) (hbl : Below N w wr) (hN : N ≤ wr.heap.size) (hg : (wr.alloc o).grownBy w1 v.ownBlock) : Below N w w1 :=
  (hbl.alloc hN o).grown hg (by simp; omega) fun j hj => (hown.lt j hj).1
theorem ints_of_own {w : World} {N n : Nat} {v : Value} {l : List Nat} (h : w.ownsRow N 3 1 v n (cellsI l)) (_hN : N ≤ w.heap.size) : ∃ ao cap, v = .slice ao n cap ∧ Ints w ao l := by
  have hl := h.1
  rw [cellsI_length, Nat.mul_one] at hl
  rcases h.2 with ⟨rfl, rfl⟩ | ⟨g, cap, cur, rfl, _, hg, _, _, _, hx⟩
  · exact ⟨none, 0, rfl, ⟨fun hp => by omega⟩⟩
  · refine ⟨some ⟨g, 0, none⟩, cap, rfl, ⟨fun _ => ⟨g, 0, rfl, (Array.getElem?_eq_some_iff.1 hg).1, fun i hi => ?_⟩⟩⟩
    rw [Nat.zero_add, h.cellAt i (by omega)]
    simp [cellsI, hi, List.getD_eq_getElem?_getD]
theorem text_of (a0 : Option Addr) (cap n : Nat) (l : List Nat) (w : World) (hn : l.length = n) (hl : n ≤ 17592186044416) (hb : isBits l) (hI : Ints w a0 l) :
    Calls Try.prog 21 #[.slice a0 n cap] w fun e w' => e = .returned (.string ⟨(bytesOf (numL l) ((n + 7) / 8)).toArray⟩) ∧ Below w.heap.size w w' := by
  subst hn; exact text_any a0 cap l w hl hb hI

set_option maxHeartbeats 800000 in
theorem rpack_any (a0 : Option Addr) (len cap : Nat) (V : Nat → Nat) (W : Nat → Int) (w : World) (hP : Pcs w a0 len V W) :
    Calls Try.prog 9 #[.slice a0 len cap] w fun e w' => e = .returned (.tuple #[.string ⟨(packS len V W).toArray⟩, .int .i64 (packE len V W)]) ∧ Below w.heap.size w w' := by
  have hlen := hP.lenB
  have HP := Hid.mk' hP
  clear hP
  go_enter Try.func9, Try.ntmps9
  go_wp2_with fail
  go_loopw [4, 13] (fun t i wr => ∃ k : Nat, k ≤ len ∧ i = .int .i64 k ∧ t = .int .i64 (widSum W k : Nat) ∧ (∀ i, i < k → errP (V i) (W i) = 0) ∧ Below w.heap.size w wr) (fun _ i _ => len - (intOf i).toNat)
  case atStart => exact ⟨0, Nat.zero_le _, rfl, rfl, fun i hi => by omega, Below.refl _ _⟩
  case round =>
    obtain ⟨k, hk, rfl, rfl, hok, hbl⟩ := hrel
    have hws := widSum_le V W k hok
    have HO := Hid.mk' hok
    have HBl := Hid.mk' hbl
    clear hok hbl
    by_cases hlt : k < len
    · obtain ⟨b, off, rfl, hb, hc⟩ := HP.out.at' (by omega)
      have c0 := (HBl.out.cell (p := ⟨b, off + k * 2, none⟩) hb).trans (hc k hlt).1
      have c1 := (HBl.out.cell (p := ⟨b, off + k * 2 + 1, none⟩) hb).trans (hc k hlt).2
      have hvB := HP.out.vB k hlt
      clear hc
      by_cases hwd : 0 ≤ W k ∧ W k ≤ 64
      · obtain ⟨wd, ewd⟩ := Int.eq_ofNat_of_zero_le hwd.1
        rw [ewd] at c1
        have hwdl : wd ≤ 64 := by omega
        have t1 : decide ((wd : Int) < 0) = false := decide_eq_false (by omega)
        have t2 : decide ((64 : Int) < (wd : Int)) = false := decide_eq_false (by omega)
        by_cases hz : V k / 2 ^ wd = 0
        · have he : errP (V k) (W k) = 0 := errP_ok _ _ hwd (by rw [ewd]; exact hz)
          have hn : (widSum W k : Int) + wd = (widSum W (k + 1) : Nat) := by simp only [widSum]; omega
          have HO1 : Hid (∀ i, i < k + 1 → errP (V i) (W i) = 0) := fun i hi => by
            rcases Nat.lt_succ_iff_lt_or_eq.1 hi with h1 | rfl
            · exact HO.out i h1
            · exact he
          have hzb : Hid (((V k / 2 ^ wd : Nat) == 0) = true) := by rw [hz]; exact rfl
          clear he hz hwd ewd
          go_wp2_with fail
          refine (fits_any _ _ _ hwdl hvB).mono ?_
          rintro e w1 ⟨rfl, rfl⟩
          rw [hzb.out]
          go_wp2_with fail
          go_roundw
          case rel => exact ⟨k + 1, by omega, by go_num, rfl, HO1.out, (HBl.out.alloc HBl.out.size _).alloc (by have := HBl.out.size; simp; omega) _⟩
          case measure => simp [intOf]; omega
        · have he : errP (V k) (W k) = 2 := errP_large _ _ hwd (by rw [ewd]; exact hz)
          have hpb := Hid.mk' (pack_bad len V W k hlt HO.out (by rw [he]; decide))
          have HE := Hid.mk' he
          have hzb : Hid (((V k / 2 ^ wd : Nat) == 0) = false) := by show _ = _; rw [beq_eq_false_iff_ne]; exact hz
          clear he hz hwd ewd
          go_wp2_with fail
          refine (fits_any _ _ _ hwdl hvB).mono ?_
          rintro e w1 ⟨rfl, rfl⟩
          rw [hzb.out]
          go_wp2_with fail
          go_ret2
          refine ⟨?_, (HBl.out.alloc HBl.out.size _).alloc (by have := HBl.out.size; simp; omega) _⟩
          rw [hpb.out.1, hpb.out.2, HE.out]
          rfl
      · have he : errP (V k) (W k) = 1 := errP_wid _ _ hwd
        have hpb := Hid.mk' (pack_bad len V W k hlt HO.out (by rw [he]; decide))
        have HE := Hid.mk' he
        clear he
        by_cases hneg : W k < 0
        · have t1 : decide (W k < 0) = true := decide_eq_true hneg
          clear hwd hneg
          go_wp2_with fail
          go_ret2
          refine ⟨?_, (HBl.out.alloc HBl.out.size _)⟩
          rw [hpb.out.1, hpb.out.2, HE.out]
          rfl
        · have t1 : decide (W k < 0) = false := decide_eq_false hneg
          have t2 : decide ((64 : Int) < W k) = true := decide_eq_true (by omega)
          clear hwd
          go_wp2_with fail
          go_ret2
          refine ⟨?_, (HBl.out.alloc HBl.out.size _)⟩
          rw [hpb.out.1, hpb.out.2, HE.out]
          rfl
    · have hkl : k = len := by omega
      subst hkl
      by_cases hT : 65536 < widSum W k
      · have hpm := Hid.mk' (pack_much k V W HO.out hT)
        go_wp2_with fail
        go_ret2
        refine ⟨?_, HBl.out⟩
        rw [hpm.out.1, hpm.out.2]
        rfl
      · have hpo := Hid.mk' (pack_ok k V W HO.out (by omega))
        have hTd : decide ((65536 : Int) < (widSum W k : Int)) = false := decide_eq_false (by omega)
        obtain ⟨i0, hi, hz0, hz1, hz2⟩ := info_parts infoInt
        have KI := Hid.mk' hi
        have KZ0 := Hid.mk' hz0
        have KZ1 := Hid.mk' hz1
        have KZ2 := Hid.mk' hz2
        clear hi hz0 hz1 hz2
        go_wp2_with fail
        go_loopw [7, 37] (fun bv i wq => ∃ j : Nat, j ≤ k ∧ i = .int .i64 j ∧ wq.ownsRow w.heap.size 3 1 bv (widSum W j) (cellsI (allBits V W j)) ∧ Below w.heap.size w wq) (fun _ i _ => k - (intOf i).toNat)
        case atStart => exact ⟨0, Nat.zero_le _, rfl, World.ownsRow_nil _ _ _ _, HBl.out⟩
        case round =>
          obtain ⟨j, hj, rfl, hown, hbl⟩ := hrel
          have HOw := Hid.mk' hown
          have HB2 := Hid.mk' hbl
          clear hown hbl
          by_cases hlt2 : j < k
          · obtain ⟨b, off, rfl, hb, hc⟩ := HP.out.at' (by omega)
            have c0 := (HB2.out.cell (p := ⟨b, off + j * 2, none⟩) hb).trans (hc j hlt2).1
            have c1 := (HB2.out.cell (p := ⟨b, off + j * 2 + 1, none⟩) hb).trans (hc j hlt2).2
            have hvB := HP.out.vB j hlt2
            have hokj := ok_wid _ _ (HO.out j hlt2)
            have hm := widSum_mono W (j + 1) (k - (j + 1))
            rw [show j + 1 + (k - (j + 1)) = k by omega] at hm
            have hT2 : widSum W (j + 1) ≤ 65536 := by omega
            obtain ⟨wd, hwd⟩ := Int.eq_ofNat_of_zero_le hokj.1
            rw [hwd] at c1
            have hwdl : wd ≤ 64 := by omega
            have hsum : Hid (widSum W (j + 1) = widSum W j + wd) := by show _ = _; simp only [widSum]; rw [hwd]; simp
            have hall : Hid (allBits V W (j + 1) = allBits V W j ++ bitsTo (V j) wd) := by show _ = _; simp only [allBits]; rw [hwd]; simp
            clear hc hokj hwd hm
            go_wp2_with fail
            go_loopw [7, 10, 45] (fun bv x i wp => ∃ q : Nat, q ≤ wd ∧ i = .int .i64 q ∧ x = .int .u64 (V j / 2 ^ q : Nat) ∧ wp.ownsRow w.heap.size 3 1 bv (widSum W j + q) (cellsI (allBits V W j ++ bitsTo (V j) q)) ∧ Below w.heap.size w wp) (fun _ _ i _ => wd - (intOf i).toNat)
            case atStart => exact ⟨0, Nat.zero_le _, rfl, by simp, by simp only [bitsTo, List.append_nil, Nat.add_zero]; exact HOw.out.alloc _, HB2.out.alloc HB2.out.size _⟩
            case round =>
              obtain ⟨q, hq, rfl, rfl, hown, hbl⟩ := hrel
              have HOw2 := Hid.mk' hown
              have HB3 := Hid.mk' hbl
              have hs3 := hbl.size
              clear hown hbl
              have hl := div_pow_lt (V j) q hvB
              have hD := Hid.mk' (div_next' (V j) q)
              have hT3 : Hid (widSum W j + wd ≤ 65536) := by rw [← hsum.out]; exact hT2
              by_cases hlt3 : q < wd
              · have hbt : Hid (bitsTo (V j) (q + 1) = bitsTo (V j) q ++ [V j / 2 ^ q % 2]) := rfl
                generalize V j / 2 ^ q = v at *
                go_wp2_with (at_builtin; refine wpList_append_own _ rfl (.tmp 47) (.tmp 51) 27 rfl w.heap.size 3 i0 (.int .i64 0) 1 8 Try.underlying27 KI.out KZ0.out KZ1.out KZ2.out rfl (by decide) u7 _ _ rfl (HOw2.out.alloc _) ⟨wr.heap.size, 0, none⟩ 1 1 [.int .i64 ((v : Int) % 2)] rfl rfl (cell_one_new _ _ _) (one_int' _ _) (by have := hT3.out; unfold maxLen; omega) (by have := hT3.out; omega) (by simp; omega) ?_; intro v' w1 hown1 hgrow1 _)
                have HB4 := Hid.mk' (below_grow HOw2.out HB3.out hs3 hgrow1)
                have HO4 : Hid (w1.ownsRow w.heap.size 3 1 v' (widSum W j + (q + 1)) (cellsI (allBits V W j ++ bitsTo (V j) (q + 1)))) := by
                  rw [hbt.out, ← List.append_assoc, cellsI_snoc]; exact hown1
                clear hown1 hgrow1
                go_wp2_with fail
                go_roundw
                case rel => exact ⟨q + 1, by omega, by go_num, by rw [hD.out]; go_num, HO4.out, HB4.out⟩
                case measure => simp [intOf]; omega
              · have HO5 : Hid (wr.ownsRow w.heap.size 3 1 u7 (widSum W (j + 1)) (cellsI (allBits V W (j + 1)))) := by
                  rw [hsum.out, hall.out, show wd = q by omega]; exact HOw2.out
                go_wp2_with fail
                go_roundw
                case rel => exact ⟨j + 1, by omega, by go_num, HO5.out, HB3.out⟩
                case measure => simp [intOf]; omega
          · have hjk : j = k := by omega
            subst hjk
            have hnum := Hid.mk' (allBits_num V W j HO.out)
            obtain ⟨ao, cp, hv, hI⟩ := ints_of_own HOw.out HB2.out.size
            have HI := Hid.mk' hI
            clear hI
            subst hv
            go_wp2_with fail
            refine (text_of ao cp (widSum W j) (allBits V W j) _ (allBits_length V W j) (by omega) (allBits_bits V W j) HI.out).mono ?_
            rintro e w5 ⟨rfl, hb5⟩
            have HB5 := Hid.mk' (HB2.out.trans (hb5.mono HB2.out.size))
            clear hb5
            go_wp2_with fail
            go_ret2
            refine ⟨?_, HB5.out⟩
            rw [hpo.out.1, hpo.out.2, ← hnum.out]
            rfl
end Go.Proofs.Ytjfkbkhfnnmbnaa
