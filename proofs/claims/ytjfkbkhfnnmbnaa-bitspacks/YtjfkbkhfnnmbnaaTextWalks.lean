/- What linenref's fits and Text answer. -/
import Derived.Test.YtjfkbkhfnnmbnaaPutWalks
import Derived.Test.YtjfkbkhfnnmbnaaTextMath
import Derived.Deep.OwnRows
namespace Go.Proofs.Ytjfkbkhfnnmbnaa
open Go.RowKit

theorem div_next' (n j : Nat) : n / 2 ^ (j + 1) = n / 2 ^ j / 2 := by rw [Nat.pow_succ, Nat.div_div_eq_div_mul]

set_option maxHeartbeats 400000 in
theorem fits_any (v wd : Nat) (w : World) (hwd : wd ≤ 64) (hv : v < 18446744073709551616) :
    Calls Try.prog 20 #[.agg #[.int .u64 v, .int .i64 wd]] w fun e w' => e = .returned (.bool ((v / 2 ^ wd : Nat) == 0)) ∧ w' = w.alloc (.cells #[.int .u64 v, .int .i64 wd] 40) := by
  go_enter Try.func20, Try.ntmps20
  go_wp2_with fail
  go_loop [3, 8] (fun x i => ∃ k : Nat, k ≤ wd ∧ i = .int .i64 k ∧ x = .int .u64 (v / 2 ^ k : Nat)) (fun _ i => wd - (intOf i).toNat)
  case atStart => exact ⟨0, Nat.zero_le _, rfl, by simp⟩
  case round =>
    obtain ⟨k, hk, rfl, rfl⟩ := hrel
    have hl := div_pow_lt v k hv
    have hD := Hid.mk' (div_next' v k)
    by_cases hlt : k < wd
    · generalize v / 2 ^ k = q at *
      go_wp2_with fail
      go_round
      case rel => exact ⟨k + 1, by omega, by go_num, by rw [hD.out]; go_num⟩
      case measure => simp [intOf]; omega
    · have hkw := Hid.mk' (show k = wd by omega)
      generalize hq : v / 2 ^ k = q at *
      have HQ := Hid.mk' hq
      clear hq
      have hz : ((q : Int) == 0) = (q == 0) := by rw [Bool.eq_iff_iff]; simp
      go_wp2_with fail
      go_ret
      refine ⟨?_, rfl⟩
      rw [← hkw.out, HQ.out]
      first | rfl | (rw [← hz]; rfl)

/-- whole numbers that lie as a slice -/
structure Ints (w : World) (a0 : Option Addr) (l : List Nat) : Prop where
  at' : 0 < l.length → ∃ b off, a0 = some ⟨b, off, none⟩ ∧ b < w.heap.size ∧ ∀ i, i < l.length → w.cell? ⟨b, off + i, none⟩ = some (.int .i64 (l.getD i 0 : Nat))

theorem infoByte9 : (Try.prog.info? 5).map (fun i => (i.zero, i.size, i.bytes)) = some (some (.int .u8 0), 1, 1) := by kernel_rfl
theorem byt_made' (w : World) (n : Nat) (t : TypeId) : Byt (w.alloc (.cells (madeCells #[.int .u8 0] n) t)) w.heap.size (bytesOf 0 n) := by
  refine ⟨fun j hj => ?_, fun j hj => ?_⟩
  · rw [bytesOf_length] at hj
    rw [bytesOf_getD _ _ _ hj, World.cell?_alloc_new]
    simp [madeCells, hj, Nat.mod_one]
  · unfold World.frozen?
    rw [heap_alloc_new]
    rfl
theorem one8 (o : Nat) (ho : o < 8) : IntKind.u8.wrap (2 ^ o) = 2 ^ o := by
  rcases (by omega : o = 0 ∨ o = 1 ∨ o = 2 ∨ o = 3 ∨ o = 4 ∨ o = 5 ∨ o = 6 ∨ o = 7) with rfl | rfl | rfl | rfl | rfl | rfl | rfl | rfl <;> decide

set_option maxHeartbeats 800000 in
theorem text_any (a0 : Option Addr) (cap : Nat) (l : List Nat) (w : World) (hl : l.length ≤ 17592186044416) (hb : isBits l) (hI : Ints w a0 l) :
    Calls Try.prog 21 #[.slice a0 l.length cap] w fun e w' => e = .returned (.string ⟨(bytesOf (numL l) ((l.length + 7) / 8)).toArray⟩) ∧ Below w.heap.size w w' := by
  have HI := Hid.mk' hI
  have HBi := Hid.mk' hb
  clear hI hb
  obtain ⟨m, em⟩ : ∃ m, Hid (l.length = m) := ⟨_, Hid.mk' rfl⟩
  rw [em.out] at hl ⊢
  have hq : ((m : Int) + 7) / 8 = (((m + 7) / 8 : Nat) : Int) := by omega
  obtain ⟨n, en⟩ : ∃ n, Hid ((m + 7) / 8 = n) := ⟨_, Hid.mk' rfl⟩
  rw [en.out] at hq ⊢
  have hnl : n ≤ 2199023255553 := by rw [← en.out]; omega
  have hmk := fun w => run_make_row' (P := Try.prog) 45 5 (.int .u8 0) 1 Try.underlying45 infoByte9 rfl .i64 .i64 n (by omega) (by omega) w
  go_enter Try.func21, Try.ntmps21
  go_wp2_with fail
  clear hmk hq
  go_loopw [13] (fun i wr => ∃ k : Nat, k ≤ m ∧ i = .int .i64 k ∧ Below w.heap.size w wr ∧ Byt wr w.heap.size (bytesOf (numL (l.take k)) n)) (fun i _ => m - (intOf i).toNat)
  case atStart => exact ⟨0, Nat.zero_le _, rfl, (Below.refl _ _).alloc (Nat.le_refl _) _, byt_made' _ _ _⟩
  case round =>
    obtain ⟨k, hk, rfl, hbl, hy⟩ := hrel
    have HB := Hid.mk' hbl
    have HY := Hid.mk' hy
    clear hbl hy
    by_cases hlt : k < m
    · obtain ⟨b, off, rfl, hb, hc⟩ := HI.out.at' (by rw [em.out]; omega)
      have c0 := (HB.out.cell (p := ⟨b, off + k, none⟩) hb).trans (hc k (by rw [em.out]; exact hlt))
      clear hc
      have hkl : Hid (k < l.length) := by rw [em.out]; exact hlt
      have hx2 : l.getD k 0 < 2 := by
        have := hkl.out
        rw [List.getD_eq_getElem?_getD, List.getElem?_eq_getElem this]
        exact HBi.out _ (List.getElem_mem this)
      obtain ⟨x, exx⟩ : ∃ x, Hid (l.getD k 0 = x) := ⟨_, Hid.mk' rfl⟩
      rw [exx.out] at c0 hx2
      rcases (by omega : x = 0 ∨ x = 1) with hx | hx
      · subst hx
        have hs := Hid.mk' (text_skip l k hkl.out exx.out)
        go_wp2_with fail
        go_roundw
        case rel => exact ⟨k + 1, by omega, by go_num, HB.out, by rw [hs.out]; exact HY.out⟩
        case measure => simp [intOf]; omega
      · subst hx
        have hkn : k / 8 < n := by rw [← en.out]; omega
        have hts := Hid.mk' (text_step l k n hkl.out HBi.out exx.out)
        have hta := text_add l k n hkl.out hkn HBi.out
        have ho8 := one8 (k % 8) (by omega)
        have hln : k / 8 < (bytesOf (numL (l.take k)) n).length := by rw [bytesOf_length]; exact hkn
        have hcc := HY.out.cell (k / 8) hln
        have hff := HY.out.open' (k / 8) hln
        clear hln
        have hq8 : (k : Int) / 8 = ((k / 8 : Nat) : Int) := by omega
        have hr8 : (k : Int) % 8 = ((k % 8 : Nat) : Int) := by omega
        obtain ⟨q, eq⟩ : ∃ q, Hid (k / 8 = q) := ⟨_, Hid.mk' rfl⟩
        obtain ⟨o, eo⟩ : ∃ o, Hid (k % 8 = o) := ⟨_, Hid.mk' rfl⟩
        rw [eq.out] at hq8 hcc hff hkn hta
        rw [eo.out] at hr8 ho8 hta
        obtain ⟨y, ey⟩ : ∃ y, Hid ((bytesOf (numL (l.take k)) n).getD q 0 = y) := ⟨_, Hid.mk' rfl⟩
        rw [ey.out] at hcc hta
        obtain ⟨z, ez⟩ : ∃ z, Hid (y ||| UInt8.ofNat (2 ^ o) = z) := ⟨_, Hid.mk' rfl⟩
        rw [ez.out] at hta
        go_wp2_with fail
        go_region
        go_wp2_with fail
        go_roundw
        case rel => exact ⟨k + 1, by omega, by go_num, (HB.out.setCell (Nat.le_refl _) _).drew, by rw [hts.out, eq.out, eo.out, ey.out, ez.out]; exact HY.out.set q (by rw [bytesOf_length]; exact hkn) z⟩
        case measure => simp [intOf]; omega
    · have hcs := byt_string HY.out n n (bytesOf_length _ _)
      go_wp2_with fail
      go_ret
      refine ⟨?_, HB.out⟩
      rw [List.take_of_length_le (by rw [em.out]; omega)]
      rfl
end Go.Proofs.Ytjfkbkhfnnmbnaa
