/- What bits.Pack answers. -/
import Derived.Test.YtnoegodimiehhaaPutWalks
import Derived.Test.YtnoegodimiehhaaPieceWalks
import Derived.Test.YtnoegodimiehhaaPcs
import Derived.Deep.OwnRows
namespace Go.Proofs.Ytnoegodimiehhaa
open Go.RowKit

theorem infoByte8 : (Try.prog.info? 5).map (fun i => (i.zero, i.size, i.bytes)) = some (some (.int .u8 0), 1, 1) := by kernel_rfl
theorem byt_made (w : World) (n : Nat) (t : TypeId) : Byt (w.alloc (.cells (madeCells #[.int .u8 0] n) t)) w.heap.size (bytesOf 0 n) := by
  refine ⟨fun j hj => ?_, fun j hj => ?_⟩
  · rw [bytesOf_length] at hj
    rw [bytesOf_getD _ _ _ hj, World.cell?_alloc_new]
    simp [madeCells, hj, Nat.mod_one]
  · unfold World.frozen?
    rw [heap_alloc_new]
    rfl

set_option maxHeartbeats 800000 in
theorem pack_any (a0 : Option Addr) (len cap : Nat) (V : Nat → Nat) (W : Nat → Int) (w : World) (hP : Pcs w a0 len V W) :
    Calls Try.prog 11 #[.slice a0 len cap] w fun e w' => e = .returned (.tuple #[.string ⟨(packS len V W).toArray⟩, .int .i64 (packE len V W)]) ∧ Below w.heap.size w w' := by
  have hlen := hP.lenB
  have HP := Hid.mk' hP
  clear hP
  go_enter Try.func11, Try.ntmps11
  go_wp2_with fail
  go_loopw [4, 14] (fun t i wr => ∃ k : Nat, k ≤ len ∧ i = .int .i64 k ∧ t = .int .i64 (widSum W k : Nat) ∧ (∀ i, i < k → errP (V i) (W i) = 0) ∧ Below w.heap.size w wr) (fun _ i _ => len - (intOf i).toNat)
  case atStart => exact ⟨0, Nat.zero_le _, rfl, rfl, fun i hi => by omega, Below.refl _ _⟩
  case round =>
    obtain ⟨k, hk, rfl, rfl, hok, hbl⟩ := hrel
    have hws := widSum_le V W k hok
    have HO := Hid.mk' hok
    have HBl := Hid.mk' hbl
    clear hok hbl
    by_cases hlt : k < len
    · obtain ⟨b, off, rfl, hb, hc⟩ := HP.out.at' (by omega)
      have c0 := (HBl.out.cell (p := ⟨b, off + k * 2, none⟩) hb).trans (hc k hlt).1
      have c1 := (HBl.out.cell (p := ⟨b, off + k * 2 + 1, none⟩) hb).trans (hc k hlt).2
      have hvB := HP.out.vB k hlt
      clear hc
      go_wp2_with fail
      refine (checkPiece_any _ _ _ hvB).mono ?_
      rintro e w1 ⟨rfl, rfl⟩
      by_cases he : errP (V k) (W k) = 0
      · have hw := ok_wid _ _ he
        have hn : (widSum W k : Int) + W k = (widSum W (k + 1) : Nat) := by simp only [widSum]; omega
        have HO1 : Hid (∀ i, i < k + 1 → errP (V i) (W i) = 0) := fun i hi => by
          rcases Nat.lt_succ_iff_lt_or_eq.1 hi with h1 | rfl
          · exact HO.out i h1
          · exact he
        rw [he]
        clear he
        have hw0 := hw.1
        have hw1 := hw.2.1
        clear hw
        go_wp2_with fail
        go_roundw
        case rel => exact ⟨k + 1, by omega, by go_num, rfl, HO1.out, (HBl.out.alloc HBl.out.size _).alloc (by have := HBl.out.size; simp; omega) _⟩
        case measure => simp [intOf]; omega
      · have hpb := Hid.mk' (pack_bad len V W k hlt HO.out he)
        have hne : (errP (V k) (W k) != 0) = true := by rw [bne_iff_ne]; exact he
        clear he
        go_wp2_with fail
        go_ret2
        refine ⟨?_, (HBl.out.alloc HBl.out.size _).alloc (by have := HBl.out.size; simp; omega) _⟩
        rw [hpb.out.1, hpb.out.2]
        rfl
    · have hkl : k = len := by omega
      subst hkl
      by_cases hT : 65536 < widSum W k
      · have hpm := Hid.mk' (pack_much k V W HO.out hT)
        go_wp2_with fail
        go_ret2
        refine ⟨?_, HBl.out⟩
        rw [hpm.out.1, hpm.out.2]
        rfl
      · have hpo := Hid.mk' (pack_ok k V W HO.out (by omega))
        have hq : ((widSum W k : Int) + 7) / 8 = (((widSum W k + 7) / 8 : Nat) : Int) := by omega
        obtain ⟨n, en⟩ : ∃ n, Hid ((widSum W k + 7) / 8 = n) := ⟨_, Hid.mk' rfl⟩
        rw [en.out] at hq
        have hnl : n ≤ 8192 := by rw [← en.out]; omega
        have hmk := fun w => run_make_row' (P := Try.prog) 54 5 (.int .u8 0) 1 Try.underlying54 infoByte8 rfl .i64 .i64 n (by omega) (by omega) w
        have hTd : decide ((65536 : Int) < (widSum W k : Int)) = false := decide_eq_false (by omega)
        go_wp2_with fail
        generalize hG : wr.heap.size = G
        have HBG : Hid (Below w.heap.size w (wr.alloc (.cells (madeCells #[.int .u8 0] n) 5))) := HBl.out.alloc HBl.out.size _
        have HYG : Hid (Byt (wr.alloc (.cells (madeCells #[.int .u8 0] n) 5)) G (bytesOf 0 n)) := by rw [← hG]; exact byt_made wr n _
        have HGs : Hid (w.heap.size ≤ G) := by rw [← hG]; exact HBl.out.size
        have HGl : Hid (G < (wr.alloc (.cells (madeCells #[.int .u8 0] n) 5)).heap.size) := by rw [← hG]; show _ < _; simp
        clear hG hmk hq
        go_loopw [9, 36] (fun t i wq => ∃ j : Nat, j ≤ k ∧ i = .int .i64 j ∧ t = .int .i64 (widSum W j : Nat) ∧ Below w.heap.size w wq ∧ Byt wq G (bytesOf (packN V W j) n) ∧ G < wq.heap.size) (fun _ i _ => k - (intOf i).toNat)
        case atStart => exact ⟨0, Nat.zero_le _, rfl, rfl, HBG.out, HYG.out, HGl.out⟩
        case round =>
          obtain ⟨j, hj, rfl, rfl, hbl, hy, hgl⟩ := hrel
          have HB2 := Hid.mk' hbl
          have HY2 := Hid.mk' hy
          clear hbl hy
          by_cases hlt2 : j < k
          · obtain ⟨b, off, rfl, hb, hc⟩ := HP.out.at' (by omega)
            have c0 := (HB2.out.cell (p := ⟨b, off + j * 2, none⟩) hb).trans (hc j hlt2).1
            have c1 := (HB2.out.cell (p := ⟨b, off + j * 2 + 1, none⟩) hb).trans (hc j hlt2).2
            have hokj := ok_wid _ _ (HO.out j hlt2)
            have hm := widSum_mono W (j + 1) (k - (j + 1))
            rw [show j + 1 + (k - (j + 1)) = k by omega] at hm
            have hT2 : widSum W (j + 1) ≤ 65536 := by omega
            obtain ⟨wd, hwd⟩ := Int.eq_ofNat_of_zero_le hokj.1
            rw [hwd] at c1 hokj
            rw [Int.toNat_natCast] at hokj
            have hsum : widSum W (j + 1) = widSum W j + wd := by simp only [widSum]; rw [hwd]; simp
            have hn1 : (widSum W j : Int) + wd = (widSum W (j + 1) : Nat) := by rw [hsum]; simp
            have hnN : widSum W (j + 1) ≤ 8 * n := by rw [← en.out]; omega
            have HV := Hid.mk' hokj
            have HPN : Hid (packN V W (j + 1) = packN V W j ||| V j * 2 ^ widSum W j) := rfl
            have hsumH := Hid.mk' hsum
            clear hc hokj hwd hsum hm
            go_wp2_with fail
            refine (put_any G n n (widSum W j) (V j) wd (packN V W j) _ (by have := HV.out.2.1; omega) HV.out.2.2 (by rw [← hsumH.out]; exact hnN) hnl (HY2.out.alloc hgl _) (by simp; omega)).mono ?_
            rintro e w2 ⟨rfl, hgr, hy2⟩
            have c2 : w2.cell? ⟨wr.heap.size, 1, none⟩ = some (.int .i64 (wd : Int)) := by
              rw [World.cell?_of_block (a := ⟨wr.heap.size, 1, none⟩) (hgr.block wr.heap.size (by simp) (by intro h; cases h; omega))]
              simp
            have HB3 : Hid (Below w.heap.size w w2) := (HB2.out.alloc HB2.out.size _).grown hgr (by have := HB2.out.size; simp; omega) (by intro q hq; cases hq; exact HGs.out)
            have HY3 : Hid (Byt w2 G (bytesOf (packN V W (j + 1)) n)) := by rw [HPN.out]; exact hy2
            have hgl2 : G < w2.heap.size := by have := hgr.size; simp at this; omega
            clear hgr hy2
            go_wp2_with fail
            go_roundw
            case rel => exact ⟨j + 1, by omega, by go_num, rfl, HB3.out, HY3.out, hgl2⟩
            case measure => simp [intOf]; omega
          · have hjk : j = k := by omega
            have hcs := byt_string HY2.out n n (bytesOf_length _ _)
            go_wp2_with fail
            go_ret2
            refine ⟨?_, HB2.out⟩
            rw [hpo.out.1, hpo.out.2, en.out, hjk]
            rfl
end Go.Proofs.Ytnoegodimiehhaa
