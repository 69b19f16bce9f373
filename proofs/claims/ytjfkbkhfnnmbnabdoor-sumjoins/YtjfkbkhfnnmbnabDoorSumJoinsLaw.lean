/- The law SumJoins, walked. -/
import Derived.Test.YtjfkbkhfnnmbnabDoorSumWalks
import Derived.Test.YtjfkbkhfnnmbnabDoorJoinTop
import Derived.Test.YtjfkbkhfnnmbnabDoorFeedMath
import Derived.SizedLaws
namespace Go.Proofs.YtjfkbkhfnnmbnabDoor
open Go.RowKit

theorem tab_below {w w' : World} (h : Tab w) (hb : Below w.heap.size w w') : Tab w' := fun i hi => by
  rw [hb.cell (p := ⟨0, i, none⟩) (block_lt_of_cell (h i hi))]; exact h i hi

theorem sum_known (w : World) (hT : Tab w) :
    Calls Tryd.prog 6 #[.string ⟨#[49, 50, 51, 52, 53, 54, 55, 56, 57]⟩] w fun e w' => e = .returned (.int .u32 3808858755) ∧ w' = w :=
  (sum_any ⟨#[49, 50, 51, 52, 53, 54, 55, 56, 57]⟩ w (by decide) hT).mono fun e w' ⟨he, hw⟩ => ⟨by rw [he]; exact ret_int (by rw [show (ByteArray.mk #[49, 50, 51, 52, 53, 54, 55, 56, 57]).data.toList = [49, 50, 51, 52, 53, 54, 55, 56, 57] from rfl, known]; decide), hw⟩

theorem app_data (a b : ByteArray) : (a ++ b).data.toList = a.data.toList ++ b.data.toList := by simp

set_option maxHeartbeats 400000 in
theorem sumJoins_at (a b c : ByteArray) (w : World) (ha : a.size ≤ 140737488355328) (hb : b.size ≤ 140737488355328) (hc : c.size ≤ 140737488355328) (hT : Tab w) :
    Calls Tryd.prog 3 #[.string a, .string b, .string c] w fun e w' => e = .returned (.bool true) ∧ Below w.heap.size w w' := by
  have ma : Hid (a.size ≤ maxLen) := by show _ ≤ _; unfold maxLen; omega
  have mb : Hid (b.size ≤ maxLen) := by show _ ≤ _; unfold maxLen; omega
  have mc : Hid (c.size ≤ maxLen) := by show _ ≤ _; unfold maxLen; omega
  have mabc : Hid ((a ++ b ++ c).size ≤ maxLen) := by show _ ≤ _; unfold maxLen; simp only [ByteArray.size_append]; omega
  obtain ⟨sa, ea⟩ : ∃ x, Hid (sumC a.data.toList = x) := ⟨_, rfl⟩
  obtain ⟨sb, eb⟩ : ∃ x, Hid (sumC b.data.toList = x) := ⟨_, rfl⟩
  obtain ⟨sc, ec⟩ : ∃ x, Hid (sumC c.data.toList = x) := ⟨_, rfl⟩
  obtain ⟨sab, eab⟩ : ∃ x, Hid (sumC (a.data.toList ++ b.data.toList) = x) := ⟨_, rfl⟩
  obtain ⟨sabc, eabc⟩ : ∃ x, Hid (sumC (a ++ b ++ c).data.toList = x) := ⟨_, rfl⟩
  have m1 : Hid (moreC sa b.data.toList = sab) := by show _ = _; rw [← ea.out, more_sum, eab.out]
  have m2 : Hid (moreC sab c.data.toList = sabc) := by show _ = _; rw [← eab.out, more_sum, ← eabc.out, app_data, app_data]
  have j1 : Hid (stps (8 * (b.size : Int).toNat) sa ^^^ sb = sab) := by
    show _ = _; rw [← ea.out, ← eb.out, ← eab.out, ← join_more, Int.toNat_natCast]; rfl
  have j2 : Hid (stps (8 * (c.size : Int).toNat) sab ^^^ sc = sabc) := by
    show _ = _; rw [← eab.out, ← ec.out, ← eabc.out, app_data, app_data, ← join_more (a.data.toList ++ b.data.toList), Int.toNat_natCast]; rfl
  go_enter Tryd.func3, Tryd.ntmps3
  go_wp2_with fail
  refine (sum_any _ _ mabc.out hT).mono ?_
  rintro e w' ⟨rfl, rfl⟩
  rw [eabc.out]
  go_wp2_with fail
  refine (sum_known _ hT).mono ?_
  rintro e w' ⟨rfl, rfl⟩
  go_wp2_with fail
  refine (sum_any _ _ ma.out hT).mono ?_
  rintro e w' ⟨rfl, rfl⟩
  rw [ea.out]
  go_wp2_with fail
  refine (more_any _ _ _ mb.out hT).mono ?_
  rintro e w' ⟨rfl, rfl⟩
  rw [m1.out]
  go_wp2_with fail
  refine (more_any _ _ _ mc.out hT).mono ?_
  rintro e w' ⟨rfl, rfl⟩
  rw [m2.out]
  go_wp2_with fail
  refine (sum_any _ _ ma.out hT).mono ?_
  rintro e w' ⟨rfl, rfl⟩
  rw [ea.out]
  go_wp2_with fail
  refine (sum_any _ _ mb.out hT).mono ?_
  rintro e w' ⟨rfl, rfl⟩
  rw [eb.out]
  go_wp2_with fail
  refine (join_any _ _ _ _ (by omega) (by omega)).mono ?_
  rintro e w1 ⟨rfl, hb1⟩
  rw [j1.out]
  have hT1 := Hid.mk' (tab_below hT hb1)
  have hb1' := Hid.mk' hb1
  clear hb1
  go_wp2_with fail
  refine (sum_any _ _ mc.out hT1.out).mono ?_
  rintro e w2 ⟨rfl, rfl⟩
  rw [ec.out]
  go_wp2_with fail
  refine (join_any _ _ _ _ (by omega) (by omega)).mono ?_
  rintro e w3 ⟨rfl, hb3⟩
  rw [j2.out]
  have hb3' := Hid.mk' (hb1'.out.trans (hb3.mono hb1'.out.size))
  clear hb3
  go_wp2_with fail
  go_ret
  exact ⟨rfl, hb3'.out⟩

theorem of_reach {a : ByteArray} (z : a.data.toList.length ≤ reachBytes) : a.size ≤ 140737488355328 := by
  have := reachBytes_lt
  have h : a.data.toList.length = a.size := by simp
  omega

theorem sumJoins_walk (a0 : ByteArray) (a1 : ByteArray) (a2 : ByteArray) (_w0 : a0.size ≤ maxLen) (_w1 : a1.size ≤ maxLen) (_w2 : a2.size ≤ maxLen)
    (z0 : a0.data.toList.length ≤ reachBytes) (z1 : a1.data.toList.length ≤ reachBytes) (z2 : a2.data.toList.length ≤ reachBytes) (w : World) (hT : Tab w) :
    Calls Tryd.prog 3 #[.string a0, .string a1, .string a2] w fun e w' => e = .returned (.bool true) ∧ Below w.heap.size w w' :=
  sumJoins_at a0 a1 a2 w (of_reach z0) (of_reach z1) (of_reach z2) hT
end Go.Proofs.YtjfkbkhfnnmbnabDoor
