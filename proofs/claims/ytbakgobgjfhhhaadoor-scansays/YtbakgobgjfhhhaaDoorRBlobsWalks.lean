/- What linenref.Blobs answers. -/
import Derived.Test.YtbakgobgjfhhhaaDoorROneWalks
import Derived.Test.YtbakgobgjfhhhaaDoorRBlobWalks
namespace Go.Proofs.YtbakgobgjfhhhaaDoor
open Go.RowKit

theorem bodL_le {l : List Blb} (h : ∀ b ∈ l, chkB b = 0) : (bodL l).length ≤ 605 * l.length := by
  induction l with
  | nil => exact Nat.le_refl _
  | cons b r ih =>
    have h1 := oneL_le (h b (by simp))
    have h2 := ih fun x hx => h x (by simp [hx])
    rw [bodL_cons, List.length_append, List.length_cons]; omega
/-- a list of bytes as a text -/
def txt (l : List UInt8) : ByteArray := ⟨l.toArray⟩
theorem txt_size (l : List UInt8) : (txt l).size = l.length := rfl
theorem txt_app (a b : List UInt8) : txt a ++ txt b = txt (a ++ b) := by
  apply bytes_ext
  simp only [ByteArray.data_append, Array.toList_append]
  rfl
theorem blobs_text (z : UInt8) (n : Nat) (b : List UInt8) : txt [z] ++ oneS n ++ txt b = txt (z :: UInt8.ofNat n :: b) := by
  apply bytes_ext
  simp only [ByteArray.data_append, Array.toList_append]
  rfl
set_option maxRecDepth 20000 in
set_option maxHeartbeats 1600000 in
theorem rblobs_any (a0 : Option Addr) (n c : Nat) (l : List Blb) (last : Bool) (w : World) (h : Bls w a0 n c l) :
    Calls Tryd.prog 73 #[.slice a0 n c, .bool last] w fun e w' => (wrB l = 0 ∧ e = .returned (.tuple #[.string ⟨(txB l last).toArray⟩, .int .i64 0]) ∨ (∃ q, q ≠ 0 ∧ Hid (wrB l = q) ∧ e = .returned (.tuple #[.string ⟨#[]⟩, .int .i64 q]))) ∧ Below w.heap.size w w' := by
  have HL := Hid.mk' h
  have nB := h.nB
  have hnL := Hid.mk' h.nL
  clear h
  by_cases h40 : 40 < n
  · have hq : Hid (wrB l = 2) := by show _ = _; unfold wrB; rw [hnL.out, if_pos h40]
    go_enter Tryd.func73, Tryd.ntmps73
    go_wp2_with fail
    go_ret2
    exact ⟨.inr ⟨2, by decide, hq.out, rfl⟩, Below.refl _ _⟩
  · have h40' : n ≤ 40 := by omega
    have hdef : Hid (wrB l = if chkL l = 0 then (if 998 < (bodL l).length then 2 else 0) else chkL l) := by show _ = _; unfold wrB; rw [hnL.out, if_neg h40]
    clear h40
    go_enter Tryd.func73, Tryd.ntmps73
    go_wp2_with fail
    go_loopw [6, 16] (fun t i wr => ∃ k : Nat, k ≤ n ∧ i = .int .i64 k ∧ t = .string (txt (bodL (l.take k))) ∧ chkL (l.take k) = 0 ∧ chkL (l.drop k) = chkL l ∧ Below w.heap.size w wr) (fun _ i _ => n - (intOf i).toNat)
    case atStart => exact ⟨0, Nat.zero_le _, rfl, rfl, rfl, rfl, Below.refl _ _⟩
    case round =>
      obtain ⟨k, hk, rfl, rfl, hck, hcel, hbl⟩ := hrel
      have HC := Hid.mk' hcel
      have HB := Hid.mk' hbl
      have HT := Hid.mk' hck
      have hzr := hbl.size
      have hble := bodL_le (chkL_all hck)
      have htz := txt_size (bodL (l.take k))
      have hlk : (l.take k).length = k := by rw [List.length_take, hnL.out, Nat.min_eq_left hk]
      rw [hlk] at hble
      clear hcel hbl hck hlk
      by_cases hlt : k < n
      · obtain ⟨b, off, rfl, hb, hx1, hx2, hx3, hx4⟩ := (HL.out.below HB.out).at k hlt
        have hdr := Hid.mk' (drop_at' hnL.out hlt)
        have hts : Hid (l.take (k + 1) = l.take k ++ [l.getD k noBl]) := by
          show _ = _
          rw [List.take_succ_eq_append_getElem (by rw [hnL.out]; exact hlt), List.getD_eq_getElem?_getD, List.getElem?_eq_getElem (by rw [hnL.out]; exact hlt)]; rfl
        generalize l.getD k noBl = o at *
        have HBa := Hid.mk' (HB.out.alloc hzr (.cells #[.int .i64 o.kd, .int .i64 o.io, .int .i64 o.nt, .string o.tx] 82))
        have hBx := Hid.mk' (bxB wr o 82)
        have HC1 : Hid (chkL l = if chkB o = 0 then chkL (l.drop (k + 1)) else chkB o) := by show _ = _; rw [← HC.out, hdr.out]; rfl
        obtain ⟨W1, hW1⟩ : ∃ W, Hid (wr.alloc (.cells #[.int .i64 o.kd, .int .i64 o.io, .int .i64 o.nt, .string o.tx] 82) = W) := ⟨_, Hid.mk' rfl⟩
        rw [hW1.out] at HBa hBx
        clear HC
        go_wp2_with fail
        rw [hW1.out]
        refine (rblob_any o _).mono ?_
        rintro e w2 ⟨rfl, hb2⟩
        have HB2 := Hid.mk' (HBa.out.trans (hb2.mono HBa.out.size))
        have hx := hBx.out.below hb2
        have hBx2 := Hid.mk' hx
        have p0 := hx.c0
        have p1 := hx.c1
        have p2 := hx.c2
        have p3 := hx.c3
        clear hb2 hx
        obtain ⟨q, hq⟩ : ∃ q, Hid (chkB o = q) := ⟨_, Hid.mk' rfl⟩
        rw [hq.out] at HC1 ⊢
        by_cases h0 : q = 0
        · subst h0
          have HC2 : Hid (chkL (l.drop (k + 1)) = chkL l) := by show _ = _; rw [HC1.out, if_pos rfl]
          have HT2 : Hid (chkL (l.take (k + 1)) = 0) := chkL_of fun b hb => by
            rw [hts.out, List.mem_append, List.mem_singleton] at hb
            rcases hb with hb | rfl
            · exact chkL_all HT.out b hb
            · exact hq.out
          have hone := oneL_le hq.out
          have HX : Hid (txt (bodL (l.take k)) ++ txt (oneL o) = txt (bodL (l.take (k + 1)))) := by show _ = _; rw [txt_app, ← bodL_snoc, hts.out]
          obtain ⟨B, hB⟩ : ∃ B, Hid (txt (bodL (l.take k)) = B) := ⟨_, Hid.mk' rfl⟩
          rw [hB.out] at HX htz ⊢
          have hs1 := txt_size (oneL o)
          go_wp2_with fail
          refine (rone_any o _ (chkB_ok hq.out)).mono ?_
          rintro e w3 ⟨rfl, hb3⟩
          have HB3 := Hid.mk' (HB2.out.trans (hb3.mono HB2.out.size))
          clear hb3
          have e1 : (⟨(oneL o).toArray⟩ : ByteArray) = txt (oneL o) := rfl
          rw [e1]
          obtain ⟨O, hO⟩ : ∃ B, Hid (txt (oneL o) = B) := ⟨_, Hid.mk' rfl⟩
          rw [hO.out] at HX hs1 ⊢
          have hcat : ¬ 9223372036854775807 < B.size + O.size := by omega
          clear e1
          go_wp2_with fail
          go_roundw
          case rel => exact ⟨k + 1, by omega, by go_num, by rw [HX.out], HT2.out, HC2.out, HB3.out⟩
          case measure => simp [intOf]; omega
        · have hq2 : Hid (chkL l = q) := by show _ = _; rw [HC1.out, if_neg h0]
          have HW : Hid (wrB l = q) := by show _ = _; rw [hdef.out, hq2.out, if_neg h0]
          have tq : (q != 0) = true := by rw [bne_iff_ne]; exact h0
          have H0 := Hid.mk' h0
          clear h0 HC1
          go_wp2_with fail
          go_ret2
          exact ⟨.inr ⟨q, H0.out, HW.out, rfl⟩, HB2.out⟩
      · have hkn : k = n := by omega
        subst hkn
        have hta : Hid (l.take k = l) := List.take_of_length_le (by rw [hnL.out]; exact Nat.le_refl _)
        have h0 : Hid (chkL l = 0) := by show _ = _; rw [← hta.out]; exact HT.out
        rw [hta.out] at htz hble ⊢
        obtain ⟨B, hB⟩ : ∃ B, Hid (txt (bodL l) = B) := ⟨_, Hid.mk' rfl⟩
        rw [hB.out] at htz ⊢
        by_cases h9 : 998 < (bodL l).length
        · have HW : Hid (wrB l = 2) := by show _ = _; rw [hdef.out, if_pos h0.out, if_pos h9]
          have t9 : decide ((998 : Int) < (B.size : Int)) = true := decide_eq_true (by omega)
          clear h9 hlt htz hble
          go_wp2_with fail
          go_ret2
          exact ⟨.inr ⟨2, by decide, HW.out, rfl⟩, HB.out⟩
        · have HW : Hid (wrB l = 0) := by show _ = _; rw [hdef.out, if_pos h0.out, if_neg h9]
          have t9 : decide ((998 : Int) < (B.size : Int)) = false := decide_eq_false (by omega)
          have hBs : B.size ≤ 998 := by omega
          have e1 : IntKind.u64.wrap (k : Int) = k := by rw [IntKind.wrap_u64]; omega
          have hos := oneS_size k
          clear h9 hlt htz hble
          cases last with
          | true =>
            have HX : Hid ((⟨#[1]⟩ : ByteArray) ++ oneS k ++ B = ⟨(txB l true).toArray⟩) := by show _ = _; rw [← hB.out]; unfold txB; rw [hnL.out]; exact blobs_text 1 k (bodL l)
            go_wp2_with fail
            refine (rfix1 k _ (by omega)).mono ?_
            rintro e w3 ⟨rfl, hb3⟩
            have HB3 := Hid.mk' (HB.out.trans (hb3.mono HB.out.size))
            clear hb3
            go_wp2_with fail
            go_ret2
            exact ⟨.inl ⟨HW.out, by rw [← HX.out]; rfl⟩, HB3.out⟩
          | false =>
            have HX : Hid ((⟨#[0]⟩ : ByteArray) ++ oneS k ++ B = ⟨(txB l false).toArray⟩) := by show _ = _; rw [← hB.out]; unfold txB; rw [hnL.out]; exact blobs_text 0 k (bodL l)
            go_wp2_with fail
            refine (rfix1 k _ (by omega)).mono ?_
            rintro e w3 ⟨rfl, hb3⟩
            have HB3 := Hid.mk' (HB.out.trans (hb3.mono HB.out.size))
            clear hb3
            go_wp2_with fail
            go_ret2
            exact ⟨.inl ⟨HW.out, by rw [← HX.out]; rfl⟩, HB3.out⟩
/-- what Write answers, as a text and an error -/
def wrT (l : List Blb) (last : Bool) : ByteArray := if wrB l = 0 then ⟨(txB l last).toArray⟩ else ⟨#[]⟩
theorem wr_ans {l : List Blb} {last : Bool} {e : Ending} (h : wrB l = 0 ∧ e = .returned (.tuple #[.string ⟨(txB l last).toArray⟩, .int .i64 0]) ∨ (∃ q, q ≠ 0 ∧ Hid (wrB l = q) ∧ e = .returned (.tuple #[.string ⟨#[]⟩, .int .i64 q]))) :
    e = .returned (.tuple #[.string (wrT l last), .int .i64 (wrB l)]) := by
  rcases h with ⟨h, rfl⟩ | ⟨q, hq, h, rfl⟩
  · unfold wrT; rw [h, if_pos rfl]
  · unfold wrT; rw [h.out, if_neg hq]
end Go.Proofs.YtbakgobgjfhhhaaDoor
