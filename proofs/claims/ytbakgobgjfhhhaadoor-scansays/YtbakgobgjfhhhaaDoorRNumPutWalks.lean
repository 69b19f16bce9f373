import Derived.Test.YtbakgobgjfhhhaaDoorPsaj
import Derived.Test.YtbakgobgjfhhhaaDoorPsaa
import Derived.RegionTactic

/- What linenref.Put answers: what num.Put does. -/
namespace Go.Proofs.YtbakgobgjfhhhaaDoor
open Go.RowKit

theorem bcellC {W w1 : World} (hb : Below W.heap.size W w1) : ∀ b o, b < W.heap.size → w1.cell? ⟨b, o, none⟩ = W.cell? ⟨b, o, none⟩ := fun b o h => hb.cell (p := ⟨b, o, none⟩) h
theorem one_is (q : Nat) (h : q < 256) : strOfNums [(q : Int)] = ⟨[UInt8.ofNat q].toArray⟩ := by
  have := one_cat q []
  rw [show (q : Int) % 256 = q by omega] at this
  rw [← this]
  apply bytes_ext
  rw [ByteArray.data_append, Array.toList_append]
  simp

set_option maxRecDepth 20000 in
set_option maxHeartbeats 800000 in
theorem rput_num (n : Nat) : ∀ (w : World) (_ : n < 18446744073709551616),
    Calls Tryd.prog 54 #[.int .u64 n] w fun e w' => e = .returned (.string ⟨(putB n).toArray⟩) ∧ Below w.heap.size w w' := by
  induction n using Nat.strongRecOn with
  | _ n ih =>
    intro w hn
    by_cases h : n < 128
    · have hcv := one_string w (n : Int)
      have hoi := Hid.mk' (one_is n (by omega))
      have hp := Hid.mk' (putB_lo n h)
      clear ih
      go_enter Tryd.func54, Tryd.ntmps54
      go_wp2_with fail
      go_ret
      refine ⟨?_, (Below.refl _ _).alloc (Nat.le_refl _) _⟩
      rw [hp.out, ← hoi.out]
      rfl
    · obtain ⟨r, er⟩ : ∃ r, Hid (n % 128 = r) := ⟨_, Hid.mk' rfl⟩
      obtain ⟨q, eq⟩ : ∃ q, Hid (n / 128 = q) := ⟨_, Hid.mk' rfl⟩
      have hr : r < 128 := by rw [← er.out]; omega
      have hq : q < 18446744073709551616 := by rw [← eq.out]; omega
      have IH := Hid.mk' (fun w => ih q (by rw [← eq.out]; omega) w hq)
      have x1 : (n : Int).tmod 128 = (r : Int) := by rw [← er.out, Int.tmod_eq_emod_of_nonneg (by omega)]; omega
      have x2 : IntKind.u64.wrap (128 + (r : Int)) = ((128 + r : Nat) : Int) := by rw [wrap_u64_of _ (by omega) (by omega)]; omega
      have x3 : IntKind.u8.wrap ((128 + r : Nat) : Int) = ((128 + r : Nat) : Int) := by rw [IntKind.wrap_u8]; omega
      have x4 : IntKind.u64.wrap ((n : Int) / 128) = (q : Int) := by rw [wrap_u64_of _ (by omega) (by omega), ← eq.out]; omega
      obtain ⟨x, ex⟩ : ∃ x, Hid (128 + r = x) := ⟨_, Hid.mk' rfl⟩
      rw [ex.out] at x2 x3
      have hp : Hid (putB n = UInt8.ofNat x :: putB q) := by
        show _ = _
        rw [putB_hi n (by omega), er.out, eq.out, ← ex.out, Nat.add_comm]
      have hx256 : x < 256 := by rw [← ex.out]; omega
      have hL := putB_len10 q hq
      clear ih
      have hcv := one_string_at (x : Int)
      have hos := one_size (x : Int)
      have hoc := Hid.mk' (one_cat x (putB q))
      rw [show (x : Int) % 256 = x by omega] at hoc
      generalize strOfNums [(x : Int)] = t at *
      go_enter Tryd.func54, Tryd.ntmps54
      go_wp2_with fail
      go_region_with (go_at_call 54; refine (IH.out _).mono ?_; rintro e w1 ⟨rfl, hb⟩; have hcc := bcellC hb; have HB := Hid.mk' hb; clear hb)
      all_goals
        go_wp2_with fail
        go_ret
        refine ⟨?_, ?_⟩
        · rw [hp.out, ← hoc.out]; rfl
        · first
            | exact (((Below.refl _ _).alloc (Nat.le_refl _) _).drew).trans (HB.out.mono (by simp))
            | exact ((Below.refl _ _).drew.trans HB.out).alloc HB.out.size _
end Go.Proofs.YtbakgobgjfhhhaaDoor
