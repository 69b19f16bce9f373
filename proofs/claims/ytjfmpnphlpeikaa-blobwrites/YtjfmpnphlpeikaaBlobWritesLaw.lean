/- The law BlobWrites, walked. -/
import Derived.Test.YtjfmpnphlpeikaaBlWriteWalks
import Derived.Test.YtjfmpnphlpeikaaRBlobsWalks
namespace Go.Proofs.Ytjfmpnphlpeikaa
open Go.RowKit

/-- what Write answers, as a text and an error -/
def wrT (l : List Blb) (last : Bool) : ByteArray := if wrB l = 0 then ⟨(txB l last).toArray⟩ else ⟨#[]⟩
def wrR (l : List Blb) (last : Bool) (e : Ending) : Prop := e = .returned (.tuple #[.string (wrT l last), .int .i64 (wrB l)])
theorem wr_ans {l : List Blb} {last : Bool} {e : Ending} (h : wrB l = 0 ∧ e = .returned (.tuple #[.string ⟨(txB l last).toArray⟩, .int .i64 0]) ∨ (∃ q, q ≠ 0 ∧ Hid (wrB l = q) ∧ e = .returned (.tuple #[.string ⟨#[]⟩, .int .i64 q]))) :
    e = .returned (.tuple #[.string (wrT l last), .int .i64 (wrB l)]) := by
  rcases h with ⟨h, rfl⟩ | ⟨q, hq, h, rfl⟩
  · unfold wrT; rw [h, if_pos rfl]
  · unfold wrT; rw [h.out, if_neg hq]
set_option maxRecDepth 20000 in
set_option maxHeartbeats 1600000 in
theorem blobWrites_walk (a0 : Option Addr) (len0 cap0 : Nat) (l : List Blb) (last : Bool) (b : Blb) (w : World) (h : Bls w a0 len0 cap0 l) (_hb : BlB b) :
    Calls Try.prog 3 #[.slice a0 len0 cap0, .bool last, .agg #[.int .i64 b.kd, .int .i64 b.io, .int .i64 b.nt, .string b.tx]] w fun e w' => e = .returned (.bool true) ∧ Below w.heap.size w w' := by
  have HX := Hid.mk' (bxB w b 24)
  have HB := Hid.mk' (below_box (w := w) #[.int .i64 b.kd, .int .i64 b.io, .int .i64 b.nt, .string b.tx] 24)
  obtain ⟨W0, hW0⟩ : ∃ W, Hid (w.alloc (.cells #[.int .i64 b.kd, .int .i64 b.io, .int .i64 b.nt, .string b.tx] 24) = W) := ⟨_, Hid.mk' rfl⟩
  rw [hW0.out] at HX HB
  have HL := Hid.mk' (h.below HB.out)
  clear h
  go_enter Try.func3, Try.ntmps3
  go_wp2_with fail
  rw [hW0.out]
  refine (bwrite_any a0 len0 cap0 l last W0 HL.out).mono ?_
  rintro e w1 ⟨he, hb1⟩
  rw [wr_ans he]
  have HB1 := Hid.mk' hb1
  have HL1 := Hid.mk' (HL.out.below hb1)
  clear hb1 he
  go_wp2_with fail
  refine (rblobs_any a0 len0 cap0 l last w1 HL1.out).mono ?_
  rintro e w2 ⟨he, hb2⟩
  rw [wr_ans he]
  have HB2 := Hid.mk' (HB1.out.trans (hb2.mono HB1.out.size))
  have HX2 := Hid.mk' (HX.out.below HB2.out)
  clear hb2 he
  have c0 := HX2.out.c0
  have c1 := HX2.out.c1
  have c2 := HX2.out.c2
  have c3 := HX2.out.c3
  obtain ⟨T, hT⟩ : ∃ T, Hid (wrT l last = T) := ⟨_, Hid.mk' rfl⟩
  obtain ⟨q, hq⟩ : ∃ q, Hid (wrB l = q) := ⟨_, Hid.mk' rfl⟩
  obtain ⟨x, hx⟩ : ∃ x, Hid (chkB b = x) := ⟨_, Hid.mk' rfl⟩
  rw [hT.out, hq.out]
  go_wp2_with fail
  go_region_held3 (fun X => X.cell? ⟨w.heap.size, 0, none⟩ = some (.int .i64 b.kd) ∧ X.cell? ⟨w.heap.size, 1, none⟩ = some (.int .i64 b.io) ∧ X.cell? ⟨w.heap.size, 2, none⟩ = some (.int .i64 b.nt) ∧ X.cell? ⟨w.heap.size, 3, none⟩ = some (.string b.tx)) (first | exact ⟨p0, p1, p2, p3⟩ | exact ⟨c0, c1, c2, c3⟩) (first
      | (go_at_call 11; refine (bchk_any b _).mono ?_; rintro e w3 ⟨rfl, hb⟩; rw [hx.out]; have HB3 : Hid (Below W0.heap.size W0 w3) := (by first | exact HB3.out.trans (hb.mono HB3.out.size) | exact HB2.out.trans (((Below.refl _ w2).drew.trans hb).mono HB2.out.size) | fail); clear hb; have hx := HX.out.below HB3.out; have p0 := hx.c0; have p1 := hx.c1; have p2 := hx.c2; have p3 := hx.c3; clear hx)
      | (go_at_call 12; refine (rblob_any b _).mono ?_; rintro e w3 ⟨rfl, hb⟩; rw [hx.out]; have HB3 : Hid (Below W0.heap.size W0 w3) := (by first | exact HB3.out.trans (hb.mono HB3.out.size) | exact HB2.out.trans (((Below.refl _ w2).drew.trans hb).mono HB2.out.size) | fail); clear hb; have hx := HX.out.below HB3.out; have p0 := hx.c0; have p1 := hx.c1; have p2 := hx.c2; have p3 := hx.c3; clear hx)
      | fail)
  all_goals
    go_wp2_with fail
    go_ret
    exact ⟨rfl, HB.out.trans (HB3.out.mono HB.out.size)⟩
end Go.Proofs.Ytjfmpnphlpeikaa
