/- The law BlobOne, walked. -/
import Derived.Test.YtjfmpnphlpeikaaBlReadWalks
import Derived.Test.YtjfmpnphlpeikaaBlWriteWalks
namespace Go.Proofs.Ytjfmpnphlpeikaa
open Go.RowKit

/-- what Write answers, as a text and an error -/
def woT (l : List Blb) (last : Bool) : ByteArray := if wrB l = 0 then ⟨(txB l last).toArray⟩ else ⟨#[]⟩
theorem wo_ans {l : List Blb} {last : Bool} {e : Ending} (h : wrB l = 0 ∧ e = .returned (.tuple #[.string ⟨(txB l last).toArray⟩, .int .i64 0]) ∨ (∃ q, q ≠ 0 ∧ Hid (wrB l = q) ∧ e = .returned (.tuple #[.string ⟨#[]⟩, .int .i64 q]))) :
    e = .returned (.tuple #[.string (woT l last), .int .i64 (wrB l)]) := by
  rcases h with ⟨h, rfl⟩ | ⟨q, hq, h, rfl⟩
  · unfold woT; rw [h, if_pos rfl]
  · unfold woT; rw [h.out, if_neg hq]
theorem read_00 : readB (⟨#[0, 0]⟩ : ByteArray).data.toList = some ([], false) := read_back (l := []) (last := false) (by decide +kernel)
theorem app_list (a b : ByteArray) : (a ++ b).data.toList = a.data.toList ++ b.data.toList := by
  simp only [ByteArray.data_append, Array.toList_append]
set_option maxRecDepth 20000 in
set_option maxHeartbeats 1600000 in
theorem blobOne_at (s m : ByteArray) (w : World) (hs : s.size ≤ 140737488355328) (hm : m.size ≤ 140737488355328) :
    Calls Try.prog 7 #[.string s, .string m] w fun e w' => e = .returned (.bool true) ∧ Below w.heap.size w w' := by
  go_enter Try.func7, Try.ntmps7
  go_wp2_with fail
  refine (bread_any ⟨#[0, 0]⟩ w (by decide)).mono ?_
  rintro e w1 ⟨hans, hb1⟩
  have HB1 := Hid.mk' hb1
  clear hb1
  rcases hans with ⟨l', last', ao, cap, hr, rfl, hbl⟩ | ⟨hr, rfl⟩
  rotate_left
  · exact absurd (hr.symm.trans read_00) (by simp)
  have hll : l' = [] ∧ last' = false := by
    have h := hr.symm.trans read_00
    simp only [Option.some.injEq, Prod.mk.injEq] at h
    exact h
  obtain ⟨rfl, rfl⟩ := hll
  clear hr hbl
  go_wp2_with fail
  refine (bread_any s w1 (by omega)).mono ?_
  rintro e w2 ⟨hans, hb2⟩
  have HB2 := Hid.mk' (HB1.out.trans (hb2.mono HB1.out.size))
  clear hb2
  rcases hans with ⟨l, last, a2, c2, hr, rfl, hbl⟩ | ⟨hr, rfl⟩
  · have HR := Hid.mk' hr
    have HL := Hid.mk' hbl
    obtain ⟨hw, hst⟩ := read_inv hr
    have Hw := Hid.mk' hw
    have hT : Hid (woT l last = s) := by
      show _ = _
      unfold woT
      rw [if_pos hw]
      exact bytes_ext hst.symm
    have hlen : Hid (l.length ≤ 40) := (wrB_ok hw).1
    clear hr hbl hw hst
    go_wp2_with fail
    refine (bwrite_any a2 l.length c2 l last w2 HL.out).mono ?_
    rintro e w3 ⟨he, hb3⟩
    rw [wo_ans he, hT.out, Hw.out]
    have HB3 := Hid.mk' (HB2.out.trans (hb3.mono HB2.out.size))
    clear hb3 he
    have hcat : ¬ 9223372036854775807 < s.size + m.size := by omega
    have hsz : (s ++ m).size ≤ 281474976710656 := by rw [ByteArray.size_append]; omega
    have hsml := Hid.mk' (app_list s m)
    obtain ⟨S, hS⟩ : ∃ S, Hid (s ++ m = S) := ⟨_, Hid.mk' rfl⟩
    have hS' := hS.out
    rw [hS'] at hsz hsml
    go_wp2_with fail
    refine (bread_any S w3 hsz).mono ?_
    rintro e w4 ⟨hans, hb4⟩
    have HB4 := Hid.mk' (HB3.out.trans (hb4.mono HB3.out.size))
    clear hb4
    by_cases hme : m.data.toList = []
    · have te : m.toList.isEmpty = true := by rw [text_empty]; exact decide_eq_true hme
      have hrS : readB S.data.toList = some (l, last) := by rw [hsml.out, hme, List.append_nil]; exact HR.out
      clear hme
      rcases hans with ⟨l3, last3, a3, c3, hr3, rfl, hbl3⟩ | ⟨hr3, rfl⟩
      · clear hr3 hbl3 hrS
        go_wp2_with fail
        go_ret
        exact ⟨rfl, HB4.out⟩
      · exact absurd (hr3.symm.trans hrS) (by simp)
    · have te : m.toList.isEmpty = false := by rw [text_empty]; exact decide_eq_false hme
      have hrS : readB S.data.toList = none := by rw [hsml.out]; exact read_more HR.out hme
      clear hme
      rcases hans with ⟨l3, last3, a3, c3, hr3, rfl, hbl3⟩ | ⟨hr3, rfl⟩
      · exact absurd (hr3.symm.trans hrS) (by simp)
      · clear hr3 hrS
        go_wp2_with fail
        go_ret
        exact ⟨rfl, HB4.out⟩
  · clear hr
    go_wp2_with fail
    go_ret
    exact ⟨rfl, HB2.out⟩
theorem blobOne_walk (a0 a1 : ByteArray) (w : World) (_w0 : a0.size ≤ maxLen) (z0 : a0.data.toList.length ≤ reachBytes) (_w1 : a1.size ≤ maxLen) (z1 : a1.data.toList.length ≤ reachBytes) :
    Calls Try.prog 7 #[.string a0, .string a1] w fun e w' => e = .returned (.bool true) ∧ Below w.heap.size w w' := by
  have hr := reachBytes_lt
  have e0 : a0.data.toList.length = a0.size := by rw [Array.length_toList]; rfl
  have e1 : a1.data.toList.length = a1.size := by rw [Array.length_toList]; rfl
  exact blobOne_at a0 a1 w (by omega) (by omega)
end Go.Proofs.Ytjfmpnphlpeikaa
