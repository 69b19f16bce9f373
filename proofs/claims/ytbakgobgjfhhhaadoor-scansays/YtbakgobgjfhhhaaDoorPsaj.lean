/- Texts of ours, one behind the other: BytesKit NumPutWalks -/
import Derived.Test.YtbakgobgjfhhhaaDoorPsaa
import Derived.Test.YtbakgobgjfhhhaaDoorPsai
import Derived.Laws.IdiomStrings
import Derived.Laws.BytesArg
import Derived.OwnWalk
import Derived.Deep.OwnRows
import Derived.Test.YtbakgobgjfhhhaaDoorPsab

/- Rows of bytes of the call's own, by their cells. -/
namespace Go.Proofs.YtbakgobgjfhhhaaDoor
open Go.RowKit

theorem infoByteP : (Tryd.prog.info? 5).map (fun i => (i.zero, i.size, i.bytes)) = some (some (.int .u8 0), 1, 1) := by kernel_rfl
def cellsB (l : List UInt8) : List Value := l.map fun x : UInt8 => .int .u8 (x.toNat : Int)
theorem cellsB_snoc (l : List UInt8) (x : UInt8) : cellsB (l ++ [x]) = cellsB l ++ [.int .u8 (x.toNat : Int)] := by simp [cellsB]
theorem below_growB {w wr w1 : World} {N k : Nat} {e : TypeId} {v : Value} {xs : List Value} {o : Obj} (hown : wr.ownsRow N e 1 v k xs) (hbl : Below N w wr) (hN : N ≤ wr.heap.size) (hg : (wr.alloc o).grownBy w1 v.ownBlock) : Below N w w1 :=
  (hbl.alloc hN o).grown hg (by simp; omega) fun j hj => (hown.lt j hj).1
/-- a row of bytes of the call's own, as a text -/
theorem own_string {w : World} {N : Nat} {v : Value} {l : List UInt8} (h : w.ownsRow N 5 1 v l.length (cellsB l)) :
    (convert 88 9 v).run Tryd.prog w = .ok (.string ⟨l.toArray⟩) w := by
  rcases h.2 with ⟨rfl, hn⟩ | ⟨g, cap, cur, rfl, _, _, _, _, _, _⟩
  · have : l = [] := List.length_eq_zero_iff.1 hn
    subst this
    exact run_convert_bytes_nil w 88 5 Tryd.underlying88 Tryd.underlying5 0 0 9 Tryd.underlying9
  · refine run_convert_bytes_back w 88 9 5 ⟨g, 0, none⟩ cap l Tryd.underlying88 Tryd.underlying5 Tryd.underlying9 fun j hj => ?_
    have := h.cellAt j (by omega)
    rw [show (⟨g, 0, none⟩ : Addr).add j = ⟨g, j, none⟩ by unfold Addr.add; split <;> simp_all, this]
    simp [cellsB, hj]
end Go.Proofs.YtbakgobgjfhhhaaDoor

/- What num.Put answers. -/
namespace Go.Proofs.YtbakgobgjfhhhaaDoor
open Go.RowKit

theorem put_or (m : Nat) : bits .or .u8 ((m : Int) % 256) 128 = ((UInt8.ofNat (m % 128 + 128)).toNat : Int) := by
  have h : ∀ a, a < 256 → a ||| 128 = a % 128 + 128 := by decide +kernel
  rw [show (m : Int) % 256 = ((m % 256 : Nat) : Int) by omega, show (128 : Int) = ((128 : Nat) : Int) from rfl, u8_or_nat _ _ (by omega) (by omega), h _ (by omega), UInt8.toNat_ofNat']
  omega
theorem putB_len (n : Nat) : ∀ k, n < 128 ^ k → 0 < k → (putB n).length ≤ k := by
  induction n using Nat.strongRecOn with
  | _ n ih =>
    intro k hk h0
    by_cases h : n < 128
    · rw [putB_lo n h]; simp; omega
    · rw [putB_hi n (by omega)]
      obtain ⟨j, rfl⟩ : ∃ j, k = j + 1 := ⟨k - 1, by omega⟩
      rw [Nat.pow_succ] at hk
      have hj : 0 < j := by
        rcases Nat.eq_zero_or_pos j with e | e
        · subst e; simp at hk; omega
        · exact e
      have := ih (n / 128) (by omega) j (by omega) hj
      simp; omega
theorem putB_len10 (n : Nat) (h : n < 18446744073709551616) : (putB n).length ≤ 10 := putB_len n 10 (by omega) (by omega)
theorem putB_pos (n : Nat) : 0 < (putB n).length := by
  by_cases h : n < 128
  · rw [putB_lo n h]; simp
  · rw [putB_hi n (by omega)]; simp

set_option maxRecDepth 20000 in
set_option maxHeartbeats 800000 in
theorem put_num (n : Nat) (w : World) (hn : n < 18446744073709551616) :
    Calls Tryd.prog 49 #[.int .u64 n] w fun e w' => e = .returned (.string ⟨(putB n).toArray⟩) ∧ Below w.heap.size w w' := by
  obtain ⟨i0, hi, hz0, hz1, hz2⟩ := info_parts infoByteP
  have KI := Hid.mk' hi
  have KZ0 := Hid.mk' hz0
  have KZ1 := Hid.mk' hz1
  have KZ2 := Hid.mk' hz2
  clear hi hz0 hz1 hz2
  have hL := putB_len10 n hn
  go_enter Tryd.func49, Tryd.ntmps49
  go_wp2_with fail
  go_loopw [0, 3] (fun x v wr => ∃ (l : List UInt8) (m : Nat), x = .int .u64 m ∧ m < 18446744073709551616 ∧ wr.ownsRow w.heap.size 5 1 v l.length (cellsB l) ∧ putB n = l ++ putB m ∧ Below w.heap.size w wr) (fun x _ _ => (intOf x).toNat)
  case atStart => exact ⟨[], n, rfl, hn, World.ownsRow_nil _ _ _ _, rfl, Below.refl _ _⟩
  case round =>
    obtain ⟨l, m, rfl, hm, hown, hput, hbl⟩ := hrel
    have HO := Hid.mk' hown
    have HB := Hid.mk' hbl
    have hsz := hbl.size
    have hlen : l.length ≤ 10 := by rw [hput, List.length_append] at hL; omega
    have HP := Hid.mk' hput
    clear hown hbl hput
    by_cases hlt : 128 ≤ m
    · have hor := put_or m
      have HP2 : Hid (putB n = (l ++ [UInt8.ofNat (m % 128 + 128)]) ++ putB (m / 128)) := by show _ = _; rw [HP.out, putB_hi m hlt]; simp
      generalize UInt8.ofNat (m % 128 + 128) = z at *
      go_wp2_with (at_builtin; refine wpList_append_own _ rfl (.tmp 6) (.tmp 10) 88 rfl w.heap.size 5 i0 (.int .u8 0) 1 1 Tryd.underlying88 KI.out KZ0.out KZ1.out KZ2.out rfl (by decide) u3 _ _ rfl (HO.out.alloc _) ⟨wr.heap.size, 0, none⟩ 1 1 [.int .u8 (z.toNat : Int)] rfl rfl (cell_one_new _ _ _) (one_int _ _) (by unfold maxLen; omega) (by omega) (by simp; omega) ?_; intro v' w1 hown1 hgrow1 _)
      have HB4 := Hid.mk' (below_growB HO.out HB.out hsz hgrow1)
      have HO4 : Hid (w1.ownsRow w.heap.size 5 1 v' (l ++ [z]).length (cellsB (l ++ [z]))) := by
        rw [List.length_append, cellsB_snoc]; exact hown1
      clear hown1 hgrow1 hor
      go_wp2_with fail
      go_roundw
      case rel => exact ⟨l ++ [z], m / 128, by go_num, by omega, HO4.out, HP2.out, HB4.out⟩
      case measure => simp [intOf]; omega
    · have HP2 : Hid (putB n = l ++ [UInt8.ofNat m]) := by show _ = _; rw [HP.out, putB_lo m (by omega)]
      have hz : ((UInt8.ofNat m).toNat : Int) = m := by rw [UInt8.toNat_ofNat']; omega
      have HZ := Hid.mk' hz
      clear hz
      generalize UInt8.ofNat m = z at *
      go_wp2_with (at_builtin; refine wpList_append_own _ rfl (.tmp 14) (.tmp 17) 88 rfl w.heap.size 5 i0 (.int .u8 0) 1 1 Tryd.underlying88 KI.out KZ0.out KZ1.out KZ2.out rfl (by decide) u3 _ _ rfl (HO.out.alloc _) ⟨wr.heap.size, 0, none⟩ 1 1 [.int .u8 (m : Int)] rfl rfl (cell_one_new _ _ _) (one_int _ _) (by unfold maxLen; omega) (by omega) (by simp; omega) ?_; intro v' w1 hown1 hgrow1 _)
      have HB4 := Hid.mk' (below_growB HO.out HB.out hsz hgrow1)
      have HO4 : w1.ownsRow w.heap.size 5 1 v' (l ++ [z]).length (cellsB (l ++ [z])) := by
        rw [List.length_append, cellsB_snoc, HZ.out]; exact hown1
      have hcs := own_string HO4
      clear hown1 hgrow1 HO4
      go_wp2_with fail
      rw [hcs]
      go_wp2_with fail
      go_ret
      refine ⟨?_, HB4.out⟩
      rw [HP2.out]
      rfl
end Go.Proofs.YtbakgobgjfhhhaaDoor
