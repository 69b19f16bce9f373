/- The law LzBack, walked. -/
import Derived.Test.YtpkidjledgcemacFindWalks
import Derived.Test.YtpkidjledgcemacExpandWalks
import Derived.Test.YtpkidjledgcemacBackLzMath
import Derived.Test.YtpkidjledgcemacEqualMks
import Derived.SizedLaws
namespace Go.Proofs.Ytpkidjledgcemac
open Go.RowKit

theorem mks9 (w : World) (t : TypeId) : Mks (w.alloc (.cells #[.int .i64 0, .int .i64 0, .int .u8 97, .int .i64 0, .int .i64 0, .int .u8 98, .int .i64 0, .int .i64 0, .int .u8 99, .int .i64 6, .int .i64 3, .int .u8 0] t)) (some ⟨w.heap.size, 0, none⟩) 4 (rowM m9) :=
  have hm : ∀ i, i < 4 → i = 0 ∨ i = 1 ∨ i = 2 ∨ i = 3 := fun i hi => by omega
  ⟨by omega, fun _ => ⟨w.heap.size, 0, rfl, by simp, fun i hi => by
    simp only [World.cell?_alloc_new, Nat.zero_add]
    rcases hm i hi with rfl | rfl | rfl | rfl <;> exact ⟨rfl, rfl, rfl⟩⟩,
   fun i hi => by rcases hm i hi with rfl | rfl | rfl | rfl <;> decide, fun i hi => by rcases hm i hi with rfl | rfl | rfl | rfl <;> decide, fun i hi => by rcases hm i hi with rfl | rfl | rfl | rfl <;> decide⟩

set_option maxRecDepth 20000 in
set_option maxHeartbeats 1000000 in
theorem lzBack_walk (a0 : ByteArray) (w : World) (_w0 : a0.size ≤ maxLen) (z0 : a0.data.toList.length ≤ reachBytes) :
    Calls Try.prog 3 #[.string a0] w fun e w' => e = .returned (.bool true) ∧ Below w.heap.size w w' := by
  have hsz : a0.size ≤ 140737488355328 := by
    have e := sz_listC a0
    have := reachBytes_lt
    omega
  go_enter Try.func3, Try.ntmps3
  go_wp2_with fail
  refine (find_any ⟨#[97, 98, 99, 97, 98, 99, 97, 98, 99]⟩ _ (by decide)).mono ?_
  rintro e w1 ⟨⟨v1, ms1, rfl, ho1, hf1⟩, hb1⟩
  have hms : ms1 = m9 := only9 hf1.e hf1.t (hf1.few.2 4 way9) (fun m hm => (hf1.b m hm).2.2)
  obtain ⟨ao1, cp1, rfl, _, _, hmk1⟩ := mks_of_own ho1 rfl (by rw [hms]; decide) hf1.b
  rw [hms] at hmk1
  have hl4 : ms1.length = 4 := by rw [hms]; rfl
  rw [show m9.length = 4 from rfl] at hmk1
  rw [hl4]
  have HM1 := Hid.mk' hmk1
  have HB1 := Hid.mk' hb1
  clear ho1 hf1 hmk1 hb1 hl4 hms
  obtain ⟨w2, hw2⟩ : ∃ w2, Hid (w1.alloc (.cells #[.int .i64 0, .int .i64 0, .int .u8 97, .int .i64 0, .int .i64 0, .int .u8 98, .int .i64 0, .int .i64 0, .int .u8 99, .int .i64 6, .int .i64 3, .int .u8 0] 28) = w2) := ⟨_, Hid.mk' rfl⟩
  have hb12 : Hid (Below w1.heap.size w1 w2) := by rw [← hw2.out]; exact (Below.refl _ _).alloc (Nat.le_refl _) _
  have HB2 := Hid.mk' (HB1.out.trans (hb12.out.mono HB1.out.size))
  have HM2 := Hid.mk' (mks_below HM1.out hb12.out)
  have HM9 : Hid (Mks w2 (some ⟨w1.heap.size, 0, none⟩) 4 (rowM m9)) := by rw [← hw2.out]; exact mks9 w1 _
  go_wp2_with fail
  rw [hw2.out]
  refine (equalM_same ao1 (some ⟨w1.heap.size, 0, none⟩) 4 cp1 4 (rowM m9) _ (by omega) HM2.out HM9.out).mono ?_
  rintro e w3 ⟨rfl, q, rfl⟩
  go_wp2_with fail
  by_cases hbig : 512 < a0.size
  · refine (find_large a0 _ hbig hsz).mono ?_
    rintro e w4 ⟨rfl, rfl⟩
    have tl : Hid (decide ((512 : Int) < (a0.size : Int)) = true) := decide_eq_true (by omega)
    go_wp2_with fail
    go_ret
    exact ⟨by first | rfl | (rw [tl.out]; rfl), below_dM HB2.out _⟩
  · refine (find_any a0 _ (by omega)).mono ?_
    rintro e w4 ⟨⟨v4, ms4, rfl, ho4, hf4⟩, hb4⟩
    have HB4 := Hid.mk' ((below_dM HB2.out q).trans (hb4.mono (below_dM HB2.out q).size))
    have hml : ms4.length ≤ 512 := by
      have h1 := hf4.few.2 _ (way_ones a0.data.toList a0.data.toList.length 0 (by omega))
      have := sz_listC a0
      omega
    obtain ⟨ao4, cp4, rfl, _, _, hmk4⟩ := mks_of_own ho4 rfl (by omega) hf4.b
    have HM4 := Hid.mk' hmk4
    have hex : Hid (exE (mkL (rowM ms4) 0 ms4.length) [] = 0 ∧ exA (mkL (rowM ms4) 0 ms4.length) = a0.data.toList) := by
      rw [mkL_row]
      exact ⟨hf4.e, by rw [exA_ok _ hf4.e]; exact hf4.t⟩
    obtain ⟨n4, hn4⟩ : ∃ n4, ms4.length = n4 := ⟨_, rfl⟩
    rw [hn4] at HM4 hex hml
    rw [hn4]
    clear ho4 hf4 hb4 hmk4 hn4
    go_wp2_with fail
    refine (expand_any ao4 n4 cp4 _ _ HM4.out).mono ?_
    rintro e w5 ⟨rfl, hb5⟩
    have HB5 := Hid.mk' (HB4.out.trans (hb5.mono HB4.out.size))
    clear hb5
    rw [hex.out.1, hex.out.2]
    have hback : (ByteArray.mk a0.data.toList.toArray) = a0 := by
      apply bytes_ext
      simp
    rw [hback]
    go_wp2_with fail
    go_ret
    exact ⟨rfl, HB5.out⟩
end Go.Proofs.Ytpkidjledgcemac
