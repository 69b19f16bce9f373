/- The law CodeReads, walked. -/
import Derived.Test.YtnoegodimiehhaaRdWalks
import Derived.Test.YtnoegodimiehhaaRCodeReadWalks
import Derived.Test.YtnoegodimiehhaaEqualInts
import Derived.SizedLaws
namespace Go.Proofs.Ytnoegodimiehhaa
open Go.RowKit

theorem eqI_refl (n : Nat) (f : Nat → Int) : eqI n n f f = true := by
  unfold eqI
  rw [sameI_of _ _ _ (fun _ _ => rfl)]; simp
theorem readL_small (L : Nat → Int) (len : Nat) (s : ByteArray) (a n : Int) : readL L len s a n ≤ 17592186044416 := by
  unfold readL
  split
  · rename_i h
    have := readE_zero h
    omega
  · omega
set_option maxHeartbeats 400000 in
theorem codeReads_walk (a0 : Option Addr) (len cap : Nat) (X : Nat → Int) (s : ByteArray) (a2 a3 : Int) (w : World) (w0 : Wds w a0 len X) (_b0 : len ≤ 1048576) (_w1 : s.size ≤ maxLen) (_z1 : s.data.toList.length ≤ reachBytes) (hs : s.size ≤ 1048576) (w2 : (Lit.int .i64 a2).wf = true) (w3 : (Lit.int .i64 a3).wf = true) :
    Calls Try.prog 3 #[.slice a0 len cap, .string s, .int .i64 a2, .int .i64 a3] w fun e w' => e = .returned (.bool true) ∧ Below w.heap.size w w' := by
  have b2 := bounds_i64 w2
  have b3 := bounds_i64 w3
  have HP := Hid.mk' w0
  clear w0 _w1 _z1 w2 w3 _b0
  obtain ⟨E, hE⟩ : ∃ t, Hid (readE X len s a2 a3 = t) := ⟨_, Hid.mk' rfl⟩
  obtain ⟨K, hK⟩ : ∃ t, Hid (readK X len s a2 a3 = t) := ⟨_, Hid.mk' rfl⟩
  obtain ⟨l, hl⟩ : ∃ t, Hid (readL X len s a2 a3 = t) := ⟨_, Hid.mk' rfl⟩
  have hlb : l ≤ 17592186044416 := by rw [← hl.out]; exact readL_small _ _ _ _ _
  go_enter Try.func3, Try.ntmps3
  go_wp2_with fail
  refine (read_any a0 len cap X s a2 a3 _ HP.out (by omega) ⟨b2.1, by omega⟩ ⟨b3.1, by omega⟩).mono ?_
  rintro e w1 ⟨⟨v1, rfl, hu, _⟩, hb⟩
  rw [hE.out, hK.out]
  rw [hl.out] at hu
  have HB1 := Hid.mk' hb
  have HU1 := Hid.mk' hu
  clear hu hb
  go_wp2_with fail
  refine (rcoderead_any a0 len cap X s a2 a3 _ (wds_below HP.out HB1.out) hs ⟨b2.1, by omega⟩ ⟨b3.1, by omega⟩).mono ?_
  rintro e w2 ⟨⟨v2, rfl, hu⟩, hb⟩
  rw [hE.out, hK.out]
  rw [hl.out] at hu
  have HB2 := Hid.mk' (HB1.out.trans (hb.mono HB1.out.size))
  have HU2 := Hid.mk' hu
  have HU1' := Hid.mk' (i64s_below HU1.out hb)
  clear hu hb
  go_wp2_with fail
  refine (equalI_any v1 v2 l l _ _ _ hlb hlb HU1'.out HU2.out).mono ?_
  rintro e w3 ⟨rfl, q, rfl⟩
  rw [eqI_refl]
  have her : (E == E) = true := by simp
  have hkr : ((K : Int) == (K : Int)) = true := by simp
  go_wp2_with fail
  go_ret
  exact ⟨rfl, below_drewN HB2.out q⟩
end Go.Proofs.Ytnoegodimiehhaa
