/- The law BlobBack, walked. -/
import Derived.Test.YtjfmpnphlpeikaaBlReadWalks
import Derived.Test.YtjfmpnphlpeikaaBlWriteWalks
import Derived.Test.YtjfmpnphlpeikaaEqualB
namespace Go.Proofs.Ytjfmpnphlpeikaa
open Go.RowKit

/-- what Write answers, as a text and an error -/
def wtT (l : List Blb) (last : Bool) : ByteArray := if wrB l = 0 then ⟨(txB l last).toArray⟩ else ⟨#[]⟩
theorem wt_ans {l : List Blb} {last : Bool} {e : Ending} (h : wrB l = 0 ∧ e = .returned (.tuple #[.string ⟨(txB l last).toArray⟩, .int .i64 0]) ∨ (∃ q, q ≠ 0 ∧ Hid (wrB l = q) ∧ e = .returned (.tuple #[.string ⟨#[]⟩, .int .i64 q]))) :
    e = .returned (.tuple #[.string (wtT l last), .int .i64 (wrB l)]) := by
  rcases h with ⟨h, rfl⟩ | ⟨q, hq, h, rfl⟩
  · unfold wtT; rw [h, if_pos rfl]
  · unfold wtT; rw [h.out, if_neg hq]
theorem lit_bl (w : World) (b : Blb) (hb : BlB b) : Bls (w.alloc (.cells #[.int .i64 b.kd, .int .i64 b.io, .int .i64 b.nt, .string b.tx] 24)) (some ⟨w.heap.size, 0, none⟩) 1 1 [b] := by
  have h := boxV_new w (blC [b]) 24
  exact bls_box h rfl (by omega) (fun x hx => by rw [List.mem_singleton.1 hx]; exact hb)
def litB : Blb := ⟨3, 7, 0, ⟨#[]⟩⟩
theorem lit_wr : wrB [litB] = 0 := by decide +kernel
theorem lit_tx : wtT [litB] true = ⟨#[1, 1, 3, 7, 0, 0]⟩ := by
  unfold wtT
  rw [if_pos lit_wr]
  apply bytes_ext
  show txB [litB] true = _
  decide +kernel
set_option maxRecDepth 20000 in
set_option maxHeartbeats 1600000 in
theorem blobBack_walk (a0 : Option Addr) (len0 cap0 : Nat) (l : List Blb) (last : Bool) (w : World) (h : Bls w a0 len0 cap0 l) :
    Calls Try.prog 6 #[.slice a0 len0 cap0, .bool last] w fun e w' => e = .returned (.bool true) ∧ Below w.heap.size w w' := by
  have HBk := Hid.mk' (lit_bl w litB ⟨by decide, by decide, by decide, by decide⟩)
  have HB0 := Hid.mk' (below_box (w := w) #[.int .i64 3, .int .i64 7, .int .i64 0, .string ⟨#[]⟩] 24)
  obtain ⟨W0, hW0⟩ : ∃ W, Hid (w.alloc (.cells #[.int .i64 3, .int .i64 7, .int .i64 0, .string ⟨#[]⟩] 24) = W) := ⟨_, Hid.mk' rfl⟩
  have HBk2 : Hid (Bls W0 (some ⟨w.heap.size, 0, none⟩) 1 1 [litB]) := by
    have e := hW0.out
    rw [← e]; exact HBk.out
  rw [hW0.out] at HB0
  have HL := Hid.mk' (h.below HB0.out)
  have hnB := h.nB
  have HnL := Hid.mk' h.nL
  clear h HBk
  obtain ⟨T, hT⟩ : ∃ T, Hid (wtT l last = T) := ⟨_, Hid.mk' rfl⟩
  obtain ⟨q, hq⟩ : ∃ q, Hid (wrB l = q) := ⟨_, Hid.mk' rfl⟩
  go_enter Try.func6, Try.ntmps6
  go_wp2_with fail
  rw [hW0.out]
  refine (bwrite_any (some ⟨w.heap.size, 0, none⟩) 1 1 [litB] true W0 HBk2.out).mono ?_
  rintro e w1 ⟨he, hb1⟩
  rw [wt_ans he, lit_tx, lit_wr]
  have HB1 := Hid.mk' (HB0.out.trans (hb1.mono HB0.out.size))
  have HL1 := Hid.mk' (HL.out.below hb1)
  clear hb1 he
  go_wp2_with fail
  refine (bwrite_any a0 len0 cap0 l last w1 HL1.out).mono ?_
  rintro e w2 ⟨he, hb2⟩
  rw [wt_ans he, hT.out, hq.out]
  have HB2 := Hid.mk' (HB1.out.trans (hb2.mono HB1.out.size))
  have HL2 := Hid.mk' (HL1.out.below hb2)
  clear hb2 he
  by_cases h0 : q = 0
  · subst h0
    have hTl : Hid (T.data.toList = txB l last) := by show _ = _; rw [← hT.out]; unfold wtT; rw [if_pos hq.out]
    have hTz : T.size ≤ 1000 := by
      have e : T.data.toList.length = T.size := by rw [Array.length_toList]; rfl
      have := (wrB_ok hq.out).2.2
      rw [← e, hTl.out, txB_len]; omega
    have hrb : Hid (readB T.data.toList = some (l, last)) := by show _ = _; rw [hTl.out]; exact read_back hq.out
    go_wp2_with fail
    refine (bread_any T w2 (by omega)).mono ?_
    rintro e w3 ⟨hans, hb3⟩
    have HB3 := Hid.mk' (HB2.out.trans (hb3.mono HB2.out.size))
    have HL3 := Hid.mk' (HL2.out.below hb3)
    clear hb3
    rcases hans with ⟨l', last', ao, cap, hr, rfl, hbl⟩ | ⟨hr, rfl⟩
    · have hll : l' = l ∧ last' = last := by
        have h := hr.symm.trans hrb.out
        simp only [Option.some.injEq, Prod.mk.injEq] at h
        exact h
      obtain ⟨rfl, rfl⟩ := hll
      have HM := Hid.mk' hbl
      have hl40 : l'.length ≤ 8796093022208 := by rw [HnL.out]; exact hnB
      clear hr hbl
      go_wp2_with fail
      refine (equalB_any a0 ao len0 cap0 l'.length cap l' l' w3 HL3.out.rd HM.out.rd HnL.out rfl hnB hl40).mono ?_
      rintro e w4 ⟨⟨b, rfl, hb⟩, r, rfl⟩
      rw [hb.yes rfl]
      go_wp2_with fail
      go_ret
      exact ⟨rfl, HB3.out.trans (below_dB _ _)⟩
    · exact absurd (hr.symm.trans hrb.out) (by simp)
  · have hTe : T = ⟨#[]⟩ := by rw [← hT.out]; unfold wtT; rw [hq.out, if_neg h0]
    have tq : (q != 0) = true := by rw [bne_iff_ne]; exact h0
    subst hTe
    clear h0
    go_wp2_with fail
    go_ret
    exact ⟨rfl, HB2.out⟩
end Go.Proofs.Ytjfmpnphlpeikaa
