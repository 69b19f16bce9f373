/- The law SumBursts, walked. -/
import Derived.Test.YtjfkbkhfnnmbnabDoorSumWalks
import Derived.Test.YtjfkbkhfnnmbnabDoorBurstWalks
import Derived.SizedLaws
import Derived.Lib.Strings
namespace Go.Proofs.YtjfkbkhfnnmbnabDoor
open Go.RowKit

theorem tab_below' {w w' : World} (h : Tab w) (hb : Below w.heap.size w w') : Tab w' := fun i hi => by
  rw [hb.cell (p := ⟨0, i, none⟩) (block_lt_of_cell (h i hi))]; exact h i hi
theorem sumC_nil : sumC [] = 0#32 := by decide
theorem sumC_a : sumC [97] = 0xc1d04330#32 := by decide +kernel
theorem sum_nil (w : World) (hT : Tab w) :
    Calls Tryd.prog 6 #[.string ⟨#[]⟩] w fun e w' => e = .returned (.int .u32 0) ∧ w' = w :=
  (sum_any ⟨#[]⟩ w (by decide) hT).mono fun e w' ⟨he, hw⟩ => ⟨by rw [he]; exact ret_int (by rw [show (ByteArray.mk #[]).data.toList = [] from rfl, sumC_nil]; decide), hw⟩
theorem sum_a (w : World) (hT : Tab w) :
    Calls Tryd.prog 6 #[.string ⟨#[97]⟩] w fun e w' => e = .returned (.int .u32 3251651376) ∧ w' = w :=
  (sum_any ⟨#[97]⟩ w (by decide) hT).mono fun e w' ⟨he, hw⟩ => ⟨by rw [he]; exact ret_int (by rw [show (ByteArray.mk #[97]).data.toList = [97] from rfl, sumC_a]; decide), hw⟩
theorem B_inj {a b : BitVec 32} (h : B a = B b) : a = b := BitVec.eq_of_toNat_eq (by unfold B at h; omega)

/-- what Burst answers: of the same length, and by the sum told from s unless it is s -/
theorem burst_any (s : ByteArray) (v : Int) (u : BitVec 32) (w : World) (h1 : -9223372036854775808 ≤ v) (h2 : v ≤ 9223372036854775807) (hs : s.size ≤ 140737488355328) :
    Calls Tryd.prog 9 #[.string s, .int .i64 v, .int .u32 (B u)] w fun e w' => (∃ t : ByteArray, e = .returned (.string t) ∧ t.size = s.size ∧ (sumC s.data.toList = sumC t.data.toList ↔ s = t)) ∧ Below w.heap.size w w' := by
  rcases Nat.lt_or_ge s.size 5 with h | h
  · exact (burst_short s v u w h).mono fun e w' ⟨he, hw⟩ => ⟨⟨s, he, rfl, by simp⟩, by rw [hw]; exact Below.refl _ _⟩
  · refine (burst_long s v u w h1 h2 h hs).mono fun e w' ⟨⟨t, m, he, hm, ht⟩, hb⟩ => ⟨⟨t, he, ?_, ?_⟩, hb⟩
    · have := congrArg List.length ht
      rw [bst_length] at this
      simpa using this
    · have hl : m / 8 + 5 ≤ s.data.toList.length := by simp; omega
      rw [ht, burst_tells _ u m hl, ← ht]
      exact ⟨bytes_ext, fun h => by rw [h]⟩

set_option maxHeartbeats 400000 in
theorem sumBursts_at (s : ByteArray) (v : Int) (u : BitVec 32) (w : World) (h1 : -9223372036854775808 ≤ v) (h2 : v ≤ 9223372036854775807) (hs : s.size ≤ 140737488355328) (hT : Tab w) :
    Calls Tryd.prog 5 #[.string s, .int .i64 v, .int .u32 (B u)] w fun e w' => e = .returned (.bool true) ∧ Below w.heap.size w w' := by
  have ms : Hid (s.size ≤ maxLen) := by show _ ≤ _; unfold maxLen; omega
  go_enter Tryd.func5, Tryd.ntmps5
  go_wp2_with fail
  refine (burst_any _ _ _ _ h1 h2 hs).mono ?_
  rintro e w1 ⟨⟨t, rfl, hsz, hiff⟩, hb⟩
  have hT1 := Hid.mk' (tab_below' hT hb)
  have hb' := Hid.mk' hb
  have mt : Hid (t.size ≤ maxLen) := by show _ ≤ _; rw [hsz]; exact ms.out
  have hi := Hid.mk' hiff
  clear hb hsz hiff
  obtain ⟨ss, es⟩ : ∃ x, Hid (sumC s.data.toList = x) := ⟨_, rfl⟩
  obtain ⟨st, et⟩ : ∃ x, Hid (sumC t.data.toList = x) := ⟨_, rfl⟩
  by_cases heq : s = t
  · have hst : ss = st := by rw [← es.out, ← et.out, heq]
    subst hst heq
    go_wp2_with fail
    refine (sum_any _ _ ms.out hT1.out).mono ?_
    rintro e w2 ⟨rfl, rfl⟩
    rw [es.out]
    go_wp2_with fail
    refine (sum_any _ _ ms.out hT1.out).mono ?_
    rintro e w2 ⟨rfl, rfl⟩
    rw [es.out]
    go_wp2_with fail
    refine (sum_nil _ hT1.out).mono ?_
    rintro e w2 ⟨rfl, rfl⟩
    go_wp2_with fail
    refine (sum_a _ hT1.out).mono ?_
    rintro e w2 ⟨rfl, rfl⟩
    go_wp2_with fail
    go_ret
    exact ⟨rfl, hb'.out⟩
  · have hne : (B ss == B st) = false := by
      rw [beq_eq_false_iff_ne]
      intro h
      exact heq (hi.out.1 (by rw [es.out, et.out]; exact B_inj h))
    have hne2 : (s.toList == t.toList) = false := by rw [beq_eq_false_iff_ne, Lib.toList_data, Lib.toList_data]; exact fun h => heq (bytes_ext h)
    clear heq
    go_wp2_with fail
    refine (sum_any _ _ ms.out hT1.out).mono ?_
    rintro e w2 ⟨rfl, rfl⟩
    rw [es.out]
    go_wp2_with fail
    refine (sum_any _ _ mt.out hT1.out).mono ?_
    rintro e w2 ⟨rfl, rfl⟩
    rw [et.out]
    go_wp2_with fail
    refine (sum_nil _ hT1.out).mono ?_
    rintro e w2 ⟨rfl, rfl⟩
    go_wp2_with fail
    refine (sum_a _ hT1.out).mono ?_
    rintro e w2 ⟨rfl, rfl⟩
    go_wp2_with fail
    go_ret
    exact ⟨rfl, hb'.out⟩

theorem sumBursts_walk (a0 : ByteArray) (a1 : Int) (a2 : Int) (_w0 : a0.size ≤ maxLen) (w1 : (Lit.int .i64 a1).wf = true) (w2 : (Lit.int .u32 a2).wf = true)
    (z0 : a0.data.toList.length ≤ reachBytes) (w : World) (hT : Tab w) :
    Calls Tryd.prog 5 #[.string a0, .int .i64 a1, .int .u32 a2] w fun e w' => e = .returned (.bool true) ∧ Below w.heap.size w w' := by
  obtain ⟨n, rfl, hn⟩ := u32_nat w2
  obtain ⟨h1, h2⟩ := bounds_i64 w1
  rw [B_of n hn]
  refine sumBursts_at a0 a1 _ w h1 h2 ?_ hT
  have := reachBytes_lt
  have h : a0.data.toList.length = a0.size := by simp
  omega
end Go.Proofs.YtjfkbkhfnnmbnabDoor
