import Derived.Test.YtbakgobgjfhhhaaDoorImChkWalks
import Derived.Test.YtbakgobgjfhhhaaDoorPmab
import Derived.Test.YtbakgobgjfhhhaaDoorTxPl
import Derived.Test.YtbakgobgjfhhhaaDoorPmam
import Derived.Deep.RegionHeld3

/- What imap.Write answers. -/
namespace Go.Proofs.YtbakgobgjfhhhaaDoor
open Go.RowKit

/-- what Write answers, as a text -/
def wmT (P : List Pla) (G : List Int) : ByteArray := if chkM P G = 0 then txp (imB P G) else ⟨#[]⟩
theorem wmT_ok {P : List Pla} {G : List Int} (h : chkM P G = 0) : wmT P G = txp (imB P G) := if_pos h
theorem wmT_no {P : List Pla} {G : List Int} (h : chkM P G ≠ 0) : wmT P G = ⟨#[]⟩ := if_neg h
theorem put_txp (n : Nat) (w : World) (hn : n < 18446744073709551616) : Calls Tryd.prog 49 #[.int .u64 n] w fun e w' => e = .returned (.string (txp (putB n))) ∧ Below w.heap.size w w' := put_num n w hn
set_option maxRecDepth 20000 in
set_option maxHeartbeats 6400000 in
theorem imwrite_any (a0 : Option Addr) (n c : Nat) (a1 : Option Addr) (m e : Nat) (P : List Pla) (G : List Int) (w : World) (h : Pls w a0 n c P) (h' : Its w a1 m e G) :
    Calls Tryd.prog 22 #[.agg #[.slice a0 n c, .slice a1 m e]] w fun z w' => z = .returned (.tuple #[.string (wmT P G), .int .i64 (chkM P G)]) ∧ Below w.heap.size w w' := by
  have hv := boxV_new w [.slice a0 n c, .slice a1 m e] 25
  have HB : Hid (Below w.heap.size w (w.alloc (.cells #[.slice a0 n c, .slice a1 m e] 25))) := below_boxP _ _
  obtain ⟨W0, hW0⟩ : ∃ W, Hid (w.alloc (.cells #[.slice a0 n c, .slice a1 m e] 25) = W) := ⟨_, Hid.mk' rfl⟩
  have e0 : (w.alloc (.cells [.slice a0 n c, .slice a1 m e].toArray 25)) = W0 := hW0.out
  rw [e0] at hv
  rw [hW0.out] at HB
  have HL := Hid.mk' (h.below HB.out)
  have HG := Hid.mk' (h'.below HB.out)
  have hnL := Hid.mk' h.nL
  have hmL := Hid.mk' h'.nL
  have HV := Hid.mk' hv
  have hck := Hid.mk' (fun w h h' => imcheck_any a0 n c a1 m e P G w h h')
  obtain ⟨q, hq⟩ : ∃ q, Hid (chkM P G = q) := ⟨_, Hid.mk' rfl⟩
  rw [hq.out] at hck ⊢
  clear h h' hv e0
  by_cases h0 : q = 0
  rotate_left
  · have tq : (q != 0) = true := by rw [bne_iff_ne]; exact h0
    have hT : Hid (wmT P G = ⟨#[]⟩) := wmT_no (by rw [hq.out]; exact h0)
    rw [hT.out]
    clear h0
    go_enter Tryd.func22, Tryd.ntmps22
    go_wp2_with fail
    rw [hW0.out]
    refine (hck.out W0 HL.out HG.out).mono ?_
    rintro z w1 ⟨rfl, hb⟩
    have HB1 := Hid.mk' (HB.out.trans (hb.mono HB.out.size))
    clear hb
    go_wp2_with fail
    go_ret2
    exact ⟨rfl, HB1.out⟩
  subst h0
  have hT : Hid (wmT P G = txp (imK P G 48)) := wmT_ok hq.out
  rw [hT.out]
  have hok := chkM_ok hq.out
  have hn : n = 48 := by rw [← hnL.out]; exact hok.p
  have hm : m = 48 := by rw [← hmL.out]; exact hok.g
  subst hn hm
  have HOk := Hid.mk' hok
  clear hok
  go_enter Tryd.func22, Tryd.ntmps22
  go_wp2_with fail
  rw [hW0.out]
  refine (hck.out W0 HL.out HG.out).mono ?_
  rintro z w1 ⟨rfl, hb⟩
  have hv1 := HV.out.below hb
  have c0 := hv1.c 0 _ rfl
  have HV1 := Hid.mk' hv1
  have HL1 := Hid.mk' (HL.out.below hb)
  have HG1 := Hid.mk' (HG.out.below hb)
  have HB1 := Hid.mk' (HB.out.trans (hb.mono HB.out.size))
  have hz1 : w.heap.size ≤ w1.heap.size := HB1.out.size
  clear hb hv1
  go_wp2_with fail
  clear c0
  go_loopw [5, 16] (fun t i wr => ∃ k : Nat, k ≤ 48 ∧ i = .int .i64 k ∧ t = .string (txp (imK P G k)) ∧ Below w1.heap.size w1 wr) (fun _ i _ => 48 - (intOf i).toNat)
  case atStart => exact ⟨0, by omega, rfl, rfl, Below.refl _ _⟩
  case round =>
    obtain ⟨k, hk, rfl, rfl, hbl⟩ := hrel
    have HBr := Hid.mk' hbl
    have hzr := hbl.size
    have HVr := Hid.mk' (HV1.out.below hbl)
    clear hbl
    by_cases hlt : k < 48
    · obtain ⟨b, off, rfl, hb, hx1, hx2⟩ := (HL1.out.below HBr.out).at k hlt
      obtain ⟨b1, off1, rfl, hb1, hy1⟩ := (HG1.out.below HBr.out).at k hlt
      have hor := HOk.out.r k hlt
      have hgr := HOk.out.n k hlt
      have hsz1 := imK_len HOk.out k hk
      have hsz2 := oneM_len HOk.out hlt
      have hsc := Hid.mk' (imK_succ P G k)
      generalize P.getD k noPl = o at *
      generalize G.getD k 0 = g at *
      obtain ⟨g, rfl⟩ := Int.eq_ofNat_of_zero_le hgr.1
      rw [Int.toNat_natCast] at hsz2 hsc
      have HX : Hid (txp (imK P G k) ++ (txp (putB g) ++ txp (plB o)) = txp (imK P G (k + 1))) := by show _ = _; rw [txp_app, txp_app, hsc.out]
      have hs1 : (txp (imK P G k)).size ≤ 336 := by rw [txp_size]; omega
      have hs2 : (txp (putB g)).size + (txp (plB o)).size ≤ 7 := by rw [txp_size, txp_size, ← List.length_append]; exact hsz2
      have eg : IntKind.u64.wrap (g : Int) = g := by rw [IntKind.wrap_u64]; omega
      have ik0 : (0 : Int) ≤ (k : Int) := by omega
      have ik1 : (k : Int) < ((48 : Nat) : Int) := by omega
      have ik2 : (k : Int) < 48 := by omega
      obtain ⟨B, hB⟩ : ∃ B, Hid (txp (imK P G k) = B) := ⟨_, Hid.mk' rfl⟩
      obtain ⟨A, hA⟩ : ∃ B, Hid (txp (putB g) = B) := ⟨_, Hid.mk' rfl⟩
      obtain ⟨O, hO⟩ : ∃ B, Hid (txp (plB o) = B) := ⟨_, Hid.mk' rfl⟩
      rw [hB.out, hA.out, hO.out] at HX
      rw [hB.out] at hs1 ⊢
      rw [hA.out, hO.out] at hs2
      have hbx := below_boxP (w := wr) #[.int .i64 o.cl, .int .i64 o.nh] 67
      have HBa := Hid.mk' (HBr.out.alloc hzr (.cells #[.int .i64 o.cl, .int .i64 o.nh] 67))
      have hxp := bxPl wr o 67
      have hsz : (wr.alloc (.cells #[.int .i64 o.cl, .int .i64 o.nh] 67)).heap.size = wr.heap.size + 1 := by simp
      have hva := HVr.out.below hbx
      have hyb := (hbx.cell (p := ⟨b1, off1 + k, none⟩) hb1).trans hy1
      obtain ⟨W5, hW5⟩ : ∃ W, Hid (wr.alloc (.cells #[.int .i64 o.cl, .int .i64 o.nh] 67) = W) := ⟨_, Hid.mk' rfl⟩
      rw [hW5.out] at HBa hxp hsz hva hyb
      have HXP := Hid.mk' hxp
      have HVA := Hid.mk' hva
      have hb15 : b1 < W5.heap.size := by omega
      have HO := Hid.mk' (fun X => wplace_any o X hor)
      have HP := Hid.mk' (fun X => put_txp g X (by omega))
      clear hbx hxp hva
      go_wp2_with fail
      rw [hW5.out]
      have r1 := HVA.out.c 1 _ rfl
      have x0 := HXP.out.c0
      have x1 := HXP.out.c1
      rw [hA.out] at HP
      rw [hO.out] at HO
      have hcat1 : ¬ 9223372036854775807 < A.size + O.size := by omega
      have hcat2 : ¬ 9223372036854775807 < B.size + (A.size + O.size) := by omega
      go_region_held3 (fun X => X.cell? ⟨w.heap.size, 1, none⟩ = some (.slice (some ⟨b1, off1, none⟩) 48 e) ∧ X.cell? ⟨b1, off1 + k, none⟩ = some (.int .i64 (g : Int)) ∧ X.cell? ⟨wr.heap.size, 0, none⟩ = some (.int .i64 o.cl) ∧ X.cell? ⟨wr.heap.size, 1, none⟩ = some (.int .i64 o.nh)) (first | exact ⟨p0, p1, p2, p3⟩ | exact ⟨r1, hyb, x0, x1⟩) (first
        | (go_at_call 49; refine (HP.out _).mono ?_; rintro z w6 ⟨rfl, hb6⟩; have HB6 : Hid (Below W5.heap.size W5 w6) := (by first | exact HB6.out.trans (hb6.mono HB6.out.size) | exact ((Below.refl _ W5).drew).trans hb6 | fail); clear hb6; have hv := HVA.out.below HB6.out; have hx := HXP.out.below HB6.out; have p0 := hv.c 1 _ rfl; have p1 := (HB6.out.cell (p := ⟨b1, off1 + k, none⟩) hb15).trans hyb; have p2 := hx.c0; have p3 := hx.c1; clear hv hx)
        | (go_at_call 50; refine (HO.out _).mono ?_; rintro z w6 ⟨rfl, hb6⟩; have HB6 : Hid (Below W5.heap.size W5 w6) := (by first | exact HB6.out.trans (hb6.mono HB6.out.size) | exact ((Below.refl _ W5).drew).trans hb6 | fail); clear hb6; have hv := HVA.out.below HB6.out; have hx := HXP.out.below HB6.out; have p0 := hv.c 1 _ rfl; have p1 := (HB6.out.cell (p := ⟨b1, off1 + k, none⟩) hb15).trans hyb; have p2 := hx.c0; have p3 := hx.c1; clear hv hx)
        | fail)
      all_goals
        have HB7 := Hid.mk' (HBa.out.trans (HB6.out.mono HBa.out.size))
        go_wp2_with fail
        go_roundw
        case rel => exact ⟨k + 1, by omega, by go_num, by rw [← HX.out], HB7.out⟩
        case measure => simp [intOf]; omega
    · obtain rfl : k = 48 := by omega
      go_wp2_with fail
      go_ret2
      exact ⟨rfl, HB1.out.trans (HBr.out.mono hz1)⟩
end Go.Proofs.YtbakgobgjfhhhaaDoor
