/- The law PressRaw, walked. -/
import Derived.Test.YtganplceeapjcaaPOpenWalks
import Derived.Test.YtganplceeapjcaaNumPutWalks
import Derived.Test.YtganplceeapjcaaNumBackMath
namespace Go.Proofs.Ytganplceeapjcaa
open Go.RowKit

theorem raw_open (s more : List UInt8) (h : s.length < 18446744073709551616) : openR (1 :: (putB s.length ++ s ++ more)) = if s.length ≤ 512 ∧ more = [] then some s else none := by
  rw [openR_cons]
  obtain ⟨g1, g2, g3⟩ := get_put s.length h (s ++ more)
  rw [List.append_assoc, g1, g2, g3, List.drop_left]
  by_cases hs : s.length ≤ 512
  · rw [if_pos ⟨rfl, hs⟩]
    unfold bodyR
    rw [if_neg (by decide), if_pos rfl]
    by_cases hm : more = []
    · subst hm
      rw [if_pos (by simp), if_pos ⟨hs, rfl⟩, List.append_nil]
    · have : 0 < more.length := List.length_pos_iff.2 hm
      rw [if_neg (by rw [List.length_append]; omega), if_neg (fun hh => hm hh.2)]
  · rw [if_neg (fun hh => hs hh.2), if_neg (fun hh => hs hh.1)]

set_option maxRecDepth 20000 in
set_option maxHeartbeats 1000000 in
theorem pressRaw_walk (a0 a1 : ByteArray) (w : World) (_w0 : a0.size ≤ maxLen) (z0 : a0.data.toList.length ≤ reachBytes) (_w1 : a1.size ≤ maxLen) (z1 : a1.data.toList.length ≤ reachBytes) :
    Calls Try.prog 4 #[.string a0, .string a1] w fun e w' => e = .returned (.bool true) ∧ Below w.heap.size w w' := by
  have hl0 : a0.data.toList.length = a0.size := by simp
  have hl1 : a1.data.toList.length = a1.size := by simp
  unfold reachBytes at z0 z1
  rw [hl0] at z0
  rw [hl1] at z1
  have hpl := putB_len10 a0.size (by omega)
  obtain ⟨p, hp⟩ : ∃ p : ByteArray, Hid ((⟨(putB a0.size).toArray⟩ : ByteArray) = p) := ⟨_, Hid.mk' rfl⟩
  have hps : p.size ≤ 10 := by rw [← hp.out]; show (putB a0.size).toArray.size ≤ 10; simpa using hpl
  obtain ⟨t, ht⟩ : ∃ t : ByteArray, Hid ((⟨#[1]⟩ : ByteArray) ++ p ++ a0 = t) := ⟨_, Hid.mk' rfl⟩
  have hts : t.size = 1 + p.size + a0.size := by rw [← ht.out]; simp; rfl
  have HT : Hid (t.data.toList = 1 :: (putB a0.data.toList.length ++ a0.data.toList)) := by
    show _ = _
    rw [← ht.out, ← hp.out, hl0]; simp
  have HO1 : Hid (openR t.data.toList = if a0.size ≤ 512 then some a0.data.toList else none) := by
    have h := raw_open a0.data.toList [] (by omega)
    rw [List.append_nil] at h
    show _ = _
    rw [HT.out, h, hl0]
    by_cases h5 : a0.size ≤ 512
    · rw [if_pos ⟨h5, rfl⟩, if_pos h5]
    · rw [if_neg (fun hh => h5 hh.1), if_neg h5]
  have HO2 : Hid ((t ++ a1).data.toList = 1 :: (putB a0.data.toList.length ++ a0.data.toList ++ a1.data.toList)) := by
    show _ = _
    rw [ByteArray.data_append, Array.toList_append, HT.out]; simp
  clear hpl
  go_enter Try.func4, Try.ntmps4
  go_wp2_with fail
  refine (put_num _ _ (by omega)).mono ?_
  rintro e w1 ⟨rfl, hb1⟩
  have HB1 := Hid.mk' hb1
  clear hb1
  rw [hp.out]
  go_wp2_with fail
  rw [ht.out]
  refine (popen_any t _ (by omega)).mono ?_
  rintro e w2 ⟨⟨x, e1, rfl, hans⟩, hb2⟩
  have HB2 : Hid (Below w.heap.size w w2) := HB1.out.trans (hb2.mono HB1.out.size)
  clear hb2
  by_cases h5 : a0.size ≤ 512
  · have t5 : decide (512 < a0.size) = false := decide_eq_false (by omega)
    rcases hans with ⟨rfl, hx⟩ | ⟨rfl, rfl, hx⟩
    · rw [HO1.out, if_pos h5] at hx
      obtain rfl : a0 = x := bytes_ext (Option.some.inj hx)
      have hsm : (t ++ a1).size ≤ 140737488355328 := by rw [ByteArray.size_append]; omega
      clear hx HO1
      go_wp2_with fail
      refine (popen_any (t ++ a1) _ hsm).mono ?_
      rintro e w3 ⟨⟨y, e2, rfl, hans⟩, hb3⟩
      have HB3 : Hid (Below w.heap.size w w3) := HB2.out.trans (hb3.mono HB2.out.size)
      clear hb3
      have HR := raw_open a0.data.toList a1.data.toList (by omega)
      have HE : Hid (((e2 == 0) == a1.toList.isEmpty) = true) := by
        show _ = _
        rw [empty_isQ]
        unfold OpAns at hans
        rw [HO2.out, HR, hl0] at hans
        by_cases hm : a1.data.toList = []
        · rw [if_pos ⟨h5, hm⟩] at hans
          rcases hans with ⟨rfl, _⟩ | ⟨_, _, h⟩
          · rw [decide_eq_true hm]; rfl
          · cases h
        · rw [if_neg (fun hh => hm hh.2)] at hans
          rcases hans with ⟨_, h⟩ | ⟨rfl, _, _⟩
          · cases h
          · rw [decide_eq_false hm]; rfl
      have t6 := HE.out
      have t7 : (a0.toList == a0.toList) = true := by simp
      clear hans HR
      go_wp2_with fail
      go_ret
      exact ⟨rfl, HB3.out⟩
    · rw [HO1.out, if_pos h5] at hx; cases hx
  · have t5 : decide (512 < a0.size) = true := decide_eq_true (by omega)
    rcases hans with ⟨rfl, hx⟩ | ⟨rfl, rfl, hx⟩
    · rw [HO1.out, if_neg h5] at hx; cases hx
    · clear hx HO1
      go_wp2_with fail
      go_ret
      exact ⟨rfl, HB2.out⟩
end Go.Proofs.Ytganplceeapjcaa
