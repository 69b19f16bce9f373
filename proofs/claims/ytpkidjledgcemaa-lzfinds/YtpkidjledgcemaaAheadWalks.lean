/- What linenref.ahead answers. -/
import Derived.Test.YtpkidjledgcemaaBase
import Derived.Test.YtpkidjledgcemaaFewMath
import Derived.Deep.QuietTactic
import Derived.BigQuiet
namespace Go.Proofs.Ytpkidjledgcemaa
open Go.RowKit

theorem ext_listA (s : ByteArray) (a b : Nat) : (s.extract a b).data.toList = (s.data.toList.take b).drop a := by
  rw [ByteArray.data_extract, List.drop_take]; simp
theorem drewN_addA (w : World) (q r : Nat) : (w.drewN q).drewN r = w.drewN (q + r) := by simp [World.drewN, Nat.add_assoc]
theorem sz_listA (s : ByteArray) : s.data.toList.length = s.size := by rw [Array.length_toList]; rfl
theorem part_get (l : List UInt8) (a b j : Nat) (h : a + j < b) : ((l.take b).drop a).getD j 0 = l.getD (a + j) 0 := by
  rw [List.getD_eq_getElem?_getD, List.getElem?_drop, List.getElem?_take, if_pos h, List.getD_eq_getElem?_getD]
theorem ext_same (s : ByteArray) (k i n : Nat) (hk : k + n ≤ s.size) (hi : i + n ≤ s.size) : s.extract k (k + n) = s.extract i (i + n) ↔ sameAt s.data.toList k i n := by
  constructor
  · intro h j hj
    have := congrArg (fun t : ByteArray => t.data.toList.getD j 0) h
    simp only [ext_listA] at this
    rw [part_get _ _ _ _ (by omega), part_get _ _ _ _ (by omega)] at this
    exact this
  · intro h
    apply bytes_ext
    rw [ext_listA, ext_listA]
    have hl := sz_listA s
    apply List.ext_getElem
    · simp only [List.length_drop, List.length_take]; omega
    · intro j h1 h2
      have e : ∀ (l : List UInt8) (hl : j < l.length), l[j] = l.getD j 0 := fun l hl => by rw [List.getD_eq_getElem?_getD, List.getElem?_eq_getElem hl]; rfl
      simp only [List.length_drop, List.length_take] at h1
      rw [e _ (by simp only [List.length_drop, List.length_take]; omega), e _ h2, part_get _ _ _ _ (by omega), part_get _ _ _ _ (by omega)]
      exact h j (by omega)

set_option maxRecDepth 20000 in
set_option maxHeartbeats 1000000 in
theorem ahead_any (s : ByteArray) (i n : Nat) (w : World) (hs : s.size ≤ 512) (hi : i + n ≤ s.size) :
    Calls Try.prog 42 #[.string s, .int .i64 (i : Int), .int .i64 (n : Int)] w fun e w' => (∃ b : Bool, e = .returned (.bool b) ∧ (b = true ↔ ∃ k, k < i ∧ sameAt s.data.toList k i n)) ∧ ∃ q, w' = w.drewN q := by
  obtain ⟨ie, hie⟩ : ∃ ie, i + n = ie := ⟨_, rfl⟩
  have xi : (i : Int) + (n : Int) = (ie : Int) := by omega
  have wi : IntKind.i64.wrap (ie : Int) = (ie : Int) := by rw [IntKind.wrap_i64]; omega
  have hies : ie ≤ s.size := by omega
  have hiie : i ≤ ie := by omega
  go_enter Try.func42, Try.ntmps42
  go_wp2_with fail
  go_loopw [9] (fun kv wr => ∃ k q : Nat, k ≤ i ∧ kv = .int .i64 (k : Int) ∧ (∀ p, p < k → ¬ sameAt s.data.toList p i n) ∧ wr = w.drewN q) (fun kv _ => i - (intOf kv).toNat)
  case atStart => exact ⟨0, 0, Nat.zero_le _, rfl, fun p hp => by omega, rfl⟩
  case round =>
    obtain ⟨k, q, hk, rfl, hno, rfl⟩ := hrel
    have HN := Hid.mk' hno
    clear hno
    by_cases hlt : k < i
    · obtain ⟨ke, hke⟩ : ∃ ke, k + n = ke := ⟨_, rfl⟩
      have xk : (k : Int) + (n : Int) = (ke : Int) := by omega
      have wk : IntKind.i64.wrap (ke : Int) = (ke : Int) := by rw [IntKind.wrap_i64]; omega
      have hkes : ke ≤ s.size := by omega
      have hkke : k ≤ ke := by omega
      have hsame := ext_same s k i n (by omega) hi
      rw [hke, hie] at hsame
      have HS := Hid.mk' hsame
      clear hsame
      by_cases he : s.extract k ke = s.extract i ie
      · have HY : Hid (∃ p, p < i ∧ sameAt s.data.toList p i n) := ⟨k, hlt, HS.out.1 he⟩
        clear hie hke
        go_wp2_with fail
        go_quiet (fail)
        go_wp2_with fail
        go_ret
        exact ⟨⟨true, rfl, fun _ => HY.out, fun _ => rfl⟩, _, drewN_addA _ _ _⟩
      · have te : ((s.extract k ke).toList == (s.extract i ie).toList) = false := by
          rw [beq_eq_false_iff_ne, ByteArray.toList_eq, ByteArray.toList_eq]
          exact fun h => he (bytes_ext h)
        have HN2 : Hid (∀ p, p < k + 1 → ¬ sameAt s.data.toList p i n) := fun p hp hsm => by
          by_cases e : p = k
          · subst e; exact he (HS.out.2 hsm)
          · exact HN.out p (by omega) hsm
        clear hie hke
        go_wp2_with fail
        go_quiet (fail)
        go_wp2_with fail
        go_roundw
        case rel => exact ⟨k + 1, _, by omega, by go_num, HN2.out, rfl⟩
        case measure => simp [intOf]; omega
    · have hki : k = i := by omega
      go_wp2_with fail
      go_ret
      exact ⟨⟨false, rfl, ⟨fun h => (by cases h), fun ⟨p, hp, hsm⟩ => absurd hsm (HN.out p (by omega))⟩⟩, _, rfl⟩
end Go.Proofs.Ytpkidjledgcemaa
