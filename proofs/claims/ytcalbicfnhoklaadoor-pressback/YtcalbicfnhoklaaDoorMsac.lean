/- Texts of ours, one behind the other: Base Mks Wds SortMath CompareWalks MergeMath InsertMath AlMath FreqWalks FillWalks FlipWalks Pcs Byts PutWalks IsWidthWalks PieceWalks OneText ReaderWalks CheckWalks -/
import Derived.Test.YtcalbicfnhoklaaDoorRows
import Derived.WalkKit
import Derived.WalkSpells
import Derived.WalkLawsBesides
import Derived.OpenShut
import Derived.Test.YtcalbicfnhoklaaDoorMsad
import Derived.Laws.IdiomStrings
import Derived.Laws.Rows
import Derived.RegionTactic
import Derived.Laws.BytesArg

/- Small helpers for the walks of this seat. -/
namespace Go.Proofs.YtcalbicfnhoklaaDoor
open Go.RowKit

theorem ret_int {k : IntKind} {a b : Int} (h : a = b) : Ending.returned (.int k a) = .returned (.int k b) := by rw [h]
theorem int_eq {k : IntKind} {a b : Int} (h : a = b) : Value.int k a = .int k b := by rw [h]
theorem Hid.mk' {p : Prop} (h : p) : Hid p := h
theorem u64_nat {x : Int} (h : (Lit.int .u64 x).wf = true) : ∃ n : Nat, x = n ∧ n < 18446744073709551616 := by
  have := bounds_u64 h
  exact ⟨x.toNat, by omega, by omega⟩
theorem u32_nat {x : Int} (h : (Lit.int .u32 x).wf = true) : ∃ n : Nat, x = n ∧ n < 4294967296 := by
  have := bounds_u32 h
  exact ⟨x.toNat, by omega, by omega⟩
theorem bytes_ext {s t : ByteArray} (h : s.data.toList = t.data.toList) : s = t := by
  cases s; cases t
  exact congrArg ByteArray.mk (Array.toList_inj.1 h)
end Go.Proofs.YtcalbicfnhoklaaDoor

/- Marks that came in as a slice, or are answered as one. -/
namespace Go.Proofs.YtcalbicfnhoklaaDoor
open Go.RowKit

/-- marks that came in as a slice -/
structure Mks (w : World) (a0 : Option Addr) (len : Nat) (M : Nat → Mk) : Prop where
  lenB : len ≤ 5864062014805
  at' : 0 < len → ∃ b off, a0 = some ⟨b, off, none⟩ ∧ b < w.heap.size ∧ ∀ i, i < len → w.cell? ⟨b, off + i * 3, none⟩ = some (.int .i64 (M i).ln) ∧ w.cell? ⟨b, off + i * 3 + 1, none⟩ = some (.int .i64 (M i).ds) ∧ w.cell? ⟨b, off + i * 3 + 2, none⟩ = some (.int .u8 ((M i).by' : Int))
  lB : ∀ i, i < len → -9223372036854775808 ≤ (M i).ln ∧ (M i).ln ≤ 9223372036854775807
  dB : ∀ i, i < len → -9223372036854775808 ≤ (M i).ds ∧ (M i).ds ≤ 9223372036854775807
  bB : ∀ i, i < len → (M i).by' < 256
theorem mks_below {w w' : World} {a0 : Option Addr} {len : Nat} {M : Nat → Mk} (h : Mks w a0 len M) (hb : Below w.heap.size w w') : Mks w' a0 len M :=
  ⟨h.lenB, fun hp => by
    obtain ⟨b, off, h1, h2, h3⟩ := h.at' hp
    exact ⟨b, off, h1, Nat.lt_of_lt_of_le h2 hb.size, fun i hi => ⟨(hb.cell (p := ⟨b, off + i * 3, none⟩) h2).trans (h3 i hi).1, (hb.cell (p := ⟨b, off + i * 3 + 1, none⟩) h2).trans (h3 i hi).2.1, (hb.cell (p := ⟨b, off + i * 3 + 2, none⟩) h2).trans (h3 i hi).2.2⟩⟩, h.lB, h.dB, h.bB⟩
/-- marks as a list, from the p-th on -/
def mkL (M : Nat → Mk) (p len : Nat) : List Mk := (List.range (len - p)).map fun i => M (p + i)
theorem mkL_end (M : Nat → Mk) (len : Nat) : mkL M len len = [] := by simp [mkL]
theorem mkL_cons (M : Nat → Mk) (p len : Nat) (h : p < len) : mkL M p len = M p :: mkL M (p + 1) len := by
  unfold mkL
  rw [show len - p = (len - (p + 1)) + 1 by omega, List.range_succ_eq_map]
  simp only [List.map_cons, List.map_map, Nat.add_zero]
  congr 1
  apply List.map_congr_left
  intro i _
  simp [Nat.add_assoc, Nat.add_comm 1]
theorem mkL_length (M : Nat → Mk) (p len : Nat) : (mkL M p len).length = len - p := by simp [mkL]
theorem mkL_take (M : Nat → Mk) (k len : Nat) (h : k ≤ len) : mkL M 0 len = mkL M 0 k ++ mkL M k len := by
  apply List.ext_getElem
  · simp [mkL_length]; omega
  · intro i h1 h2
    simp only [mkL, List.getElem_map, List.getElem_range, Nat.zero_add]
    by_cases hi : i < k
    · rw [List.getElem_append_left (by simp [hi])]; simp
    · rw [List.getElem_append_right (by simp; omega)]
      simp
      congr 1; omega
end Go.Proofs.YtcalbicfnhoklaaDoor

/- Whole numbers that came in as a slice. -/
namespace Go.Proofs.YtcalbicfnhoklaaDoor
open Go.RowKit

/-- widths that came in as a slice -/
structure Wds (w : World) (a0 : Option Addr) (len : Nat) (W : Nat → Int) : Prop where
  lenB : len ≤ 17592186044416
  at' : 0 < len → ∃ b off, a0 = some ⟨b, off, none⟩ ∧ b < w.heap.size ∧ ∀ i, i < len → w.cell? ⟨b, off + i, none⟩ = some (.int .i64 (W i))
  wB : ∀ i, i < len → -9223372036854775808 ≤ W i ∧ W i ≤ 9223372036854775807
theorem wds_below {w w' : World} {a0 : Option Addr} {len : Nat} {W : Nat → Int} (h : Wds w a0 len W) (hb : Below w.heap.size w w') : Wds w' a0 len W :=
  ⟨h.lenB, fun hp => by
    obtain ⟨b, off, h1, h2, h3⟩ := h.at' hp
    exact ⟨b, off, h1, Nat.lt_of_lt_of_le h2 hb.size, fun i hi => (hb.cell (p := ⟨b, off + i, none⟩) h2).trans (h3 i hi)⟩, h.wB⟩
end Go.Proofs.YtcalbicfnhoklaaDoor

/- Merging by turning blocks round: what slices' stable sort does, in plain words. No Go in sight. -/
namespace Go.Proofs.YtcalbicfnhoklaaDoor

/-- the same, in another order, within [a, b) -/
def PermF {α : Type} (a b : Nat) (f g : Nat → α) : Prop := ∃ s t : Nat → Nat, (∀ x, t (s x) = x) ∧ (∀ x, s (t x) = x) ∧ (∀ x, x < a ∨ b ≤ x → s x = x) ∧ ∀ x, g x = f (s x)
theorem PermF.refl {α : Type} (a b : Nat) (f : Nat → α) : PermF a b f f := ⟨id, id, fun _ => rfl, fun _ => rfl, fun _ _ => rfl, fun _ => rfl⟩
theorem PermF.mono {α : Type} {a b c d : Nat} {f g : Nat → α} (h : PermF a b f g) (h1 : c ≤ a) (h2 : b ≤ d) : PermF c d f g := by
  obtain ⟨s, t, k1, k2, k3, k4⟩ := h
  exact ⟨s, t, k1, k2, fun x hx => k3 x (by omega), k4⟩
theorem PermF.trans {α : Type} {a b : Nat} {f g h : Nat → α} (h1 : PermF a b f g) (h2 : PermF a b g h) : PermF a b f h := by
  obtain ⟨s, t, k1, k2, k3, k4⟩ := h1
  obtain ⟨s', t', l1, l2, l3, l4⟩ := h2
  refine ⟨fun x => s (s' x), fun x => t' (t x), fun x => by simp only; rw [k1, l1], fun x => by simp only; rw [l2, k2], fun x hx => by simp only; rw [l3 x hx, k3 x hx], fun x => by rw [l4, k4]⟩
theorem PermF.out {α : Type} {a b : Nat} {f g : Nat → α} (h : PermF a b f g) (x : Nat) (hx : x < a ∨ b ≤ x) : g x = f x := by
  obtain ⟨s, t, k1, k2, k3, k4⟩ := h
  rw [k4, k3 x hx]
theorem PermF.mem {α : Type} {a b : Nat} {f g : Nat → α} (h : PermF a b f g) (x : Nat) (h1 : a ≤ x) (h2 : x < b) : ∃ y, a ≤ y ∧ y < b ∧ g x = f y := by
  obtain ⟨s, t, k1, k2, k3, k4⟩ := h
  refine ⟨s x, ?_, ?_, k4 x⟩
  · refine Nat.le_of_not_lt fun hl => ?_
    have := k3 (s x) (.inl hl)
    have h3 := congrArg t this
    rw [k1, k1] at h3
    omega
  · refine Nat.lt_of_not_le fun hl => ?_
    have := k3 (s x) (.inr hl)
    have h3 := congrArg t this
    rw [k1, k1] at h3
    omega
/-- in order, within [a, b) -/
def SortF {α : Type} (key : α → Int) (f : Nat → α) (a b : Nat) : Prop := ∀ i j, a ≤ i → i ≤ j → j < b → key (f i) ≤ key (f j)
theorem SortF.sub {α : Type} {key : α → Int} {f : Nat → α} {a b c d : Nat} (h : SortF key f a b) (h1 : a ≤ c) (h2 : d ≤ b) : SortF key f c d := fun i j k1 k2 k3 => h i j (by omega) k2 (by omega)
theorem SortF.one {α : Type} (key : α → Int) (f : Nat → α) (a b : Nat) (h : b ≤ a + 1) : SortF key f a b := fun i j h1 h2 h3 => by rw [show i = j by omega]; exact Int.le_refl _
theorem SortF.congr {α : Type} {key : α → Int} {f g : Nat → α} {a b : Nat} (h : SortF key f a b) (he : ∀ x, a ≤ x → x < b → g x = f x) : SortF key g a b := fun i j h1 h2 h3 => by
  rw [he i h1 (by omega), he j (by omega) h3]; exact h i j h1 h2 h3
theorem SortF.join {α : Type} {key : α → Int} {f : Nat → α} {a m b : Nat} (h1 : SortF key f a m) (h2 : SortF key f m b) (h3 : ∀ i j, a ≤ i → i < m → m ≤ j → j < b → key (f i) ≤ key (f j)) : SortF key f a b := fun i j k1 k2 k3 => by
  by_cases hj : j < m
  · exact h1 i j k1 k2 hj
  · by_cases hi : i < m
    · exact h3 i j k1 hi (by omega) k3
    · exact h2 i j (by omega) k2 k3
/-- two places exchanged -/
def swF {α : Type} (f : Nat → α) (i j : Nat) : Nat → α := fun x => if x = i then f j else if x = j then f i else f x
theorem swF_perm {α : Type} (f : Nat → α) (a b i j : Nat) (hi : a ≤ i ∧ i < b) (hj : a ≤ j ∧ j < b) : PermF a b f (swF f i j) := by
  have inv : ∀ x, (fun x => if x = i then j else if x = j then i else x) ((fun x => if x = i then j else if x = j then i else x) x) = x := by
    intro x
    simp only
    split
    · split
      · omega
      · rename_i h1 h2; simp [h1]
    · split
      · simp; omega
      · rfl
  refine ⟨fun x => if x = i then j else if x = j then i else x, fun x => if x = i then j else if x = j then i else x, inv, inv, fun x hx => by simp only; rw [if_neg (by omega), if_neg (by omega)], fun x => ?_⟩
  unfold swF
  simp only
  split
  · rfl
  · split <;> rfl
/-- two ranges exchanged -/
def swR {α : Type} (f : Nat → α) (a b m : Nat) : Nat → α := fun x => if a ≤ x ∧ x < a + m then f (b + (x - a)) else if b ≤ x ∧ x < b + m then f (a + (x - b)) else f x
theorem swR_zero {α : Type} (f : Nat → α) (a b : Nat) : swR f a b 0 = f := by
  funext x; unfold swR; rw [if_neg (by omega), if_neg (by omega)]
theorem swR_step {α : Type} (f : Nat → α) (a b m : Nat) (h : a + m < b) : swF (swR f a b m) (a + m) (b + m) = swR f a b (m + 1) := by
  funext x
  unfold swF swR
  by_cases h1 : x = a + m
  · subst h1
    rw [if_pos rfl, if_neg (by omega), if_neg (by omega), if_pos (by omega)]
    congr 1; omega
  · rw [if_neg h1]
    by_cases h2 : x = b + m
    · subst h2
      rw [if_pos rfl, if_neg (by omega), if_neg (by omega), if_neg (by omega), if_pos (by omega)]
      congr 1; omega
    · rw [if_neg h2]
      by_cases h3 : a ≤ x ∧ x < a + m
      · rw [if_pos h3, if_pos (by omega)]
      · rw [if_neg h3]
        by_cases h4 : b ≤ x ∧ x < b + m
        · rw [if_pos h4, if_neg (by omega), if_pos (by omega)]
        · rw [if_neg h4, if_neg (by omega), if_neg (by omega)]
theorem swR_at {α : Type} (f : Nat → α) (a b m : Nat) (h : a + m < b) : swR f a b m (a + m) = f (a + m) ∧ swR f a b m (b + m) = f (b + m) := by
  unfold swR
  exact ⟨by rw [if_neg (by omega), if_neg (by omega)], by rw [if_neg (by omega), if_neg (by omega)]⟩
/-- [lo, m) and [m, hi) change their places -/
def rotF {α : Type} (f : Nat → α) (lo m hi : Nat) : Nat → α := fun x => if lo ≤ x ∧ x < lo + (hi - m) then f (x - lo + m) else if lo + (hi - m) ≤ x ∧ x < hi then f (x - (hi - m)) else f x
theorem rotF_none {α : Type} (f : Nat → α) (lo m hi : Nat) (h : lo = m ∨ m = hi) (h1 : lo ≤ m) (h2 : m ≤ hi) : rotF f lo m hi = f := by
  funext x
  unfold rotF
  rcases h with rfl | rfl
  · by_cases k : lo ≤ x ∧ x < lo + (hi - lo)
    · rw [if_pos k]; congr 1; omega
    · rw [if_neg k, if_neg (by omega)]
  · rw [if_neg (by omega)]
    by_cases k : lo + (m - m) ≤ x ∧ x < m
    · rw [if_pos k]; congr 1; omega
    · rw [if_neg k]
theorem rotF_perm {α : Type} (f : Nat → α) (lo m hi : Nat) (h1 : lo ≤ m) (h2 : m ≤ hi) : PermF lo hi f (rotF f lo m hi) := by
  refine ⟨fun x => if lo ≤ x ∧ x < lo + (hi - m) then x - lo + m else if lo + (hi - m) ≤ x ∧ x < hi then x - (hi - m) else x,
    fun x => if lo ≤ x ∧ x < m then x + (hi - m) else if m ≤ x ∧ x < hi then x - m + lo else x, fun x => ?_, fun x => ?_, fun x hx => ?_, fun x => ?_⟩
  · simp only
    by_cases k1 : lo ≤ x ∧ x < lo + (hi - m)
    · rw [if_pos k1, if_neg (by omega), if_pos (by omega)]; omega
    · rw [if_neg k1]
      by_cases k2 : lo + (hi - m) ≤ x ∧ x < hi
      · rw [if_pos k2, if_pos (by omega)]; omega
      · rw [if_neg k2, if_neg (by omega), if_neg (by omega)]
  · simp only
    by_cases k1 : lo ≤ x ∧ x < m
    · rw [if_pos k1, if_neg (by omega), if_pos (by omega)]; omega
    · rw [if_neg k1]
      by_cases k2 : m ≤ x ∧ x < hi
      · rw [if_pos k2, if_pos (by omega)]; omega
      · rw [if_neg k2, if_neg (by omega), if_neg (by omega)]
  · simp only
    rw [if_neg (by omega), if_neg (by omega)]
  · unfold rotF
    simp only
    split
    · rfl
    · split <;> rfl
/-- a longer first part: its front goes to where it belongs -/
theorem rotF_long {α : Type} (f : Nat → α) (m i j : Nat) (him : i ≤ m) (hij : j < i) : rotF (swR f (m - i) m j) (m - (i - j)) m (m + j) = rotF f (m - i) m (m + j) := by
  funext x
  unfold rotF swR
  repeat' split
  all_goals first | (exfalso; omega) | (congr 1; omega) | rfl
/-- a longer second part -/
theorem rotF_short {α : Type} (f : Nat → α) (m i j : Nat) (him : i ≤ m) (hij : i < j) : rotF (swR f (m - i) (m + j - i) i) (m - i) m (m + (j - i)) = rotF f (m - i) m (m + j) := by
  funext x
  unfold rotF swR
  repeat' split
  all_goals first | (exfalso; omega) | (congr 1; omega) | rfl
theorem rotF_even {α : Type} (f : Nat → α) (m i : Nat) (him : i ≤ m) : swR f (m - i) m i = rotF f (m - i) m (m + i) := by
  funext x
  unfold rotF swR
  repeat' split
  all_goals first | (exfalso; omega) | (congr 1; omega) | rfl
end Go.Proofs.YtcalbicfnhoklaaDoor

/- What cmp.Compare answers over ints. -/
namespace Go.Proofs.YtcalbicfnhoklaaDoor
open Go.RowKit

def cmpV (a b : Int) : Int := if a < b then -1 else if b < a then 1 else 0
theorem cmpV_lt (a b : Int) : cmpV a b < 0 ↔ a < b := by unfold cmpV; split <;> (try split) <;> omega
theorem isNaN_int (a : Int) (w : World) :
    Calls Tryd.prog 93 #[.int .i64 a] w fun e w' => e = .returned (.bool false) ∧ w' = w := by
  have h : (a != a) = false := by simp
  go_enter Tryd.func93, Tryd.ntmps93
  go_wp2_with fail
  go_ret
  exact ⟨rfl, rfl⟩
set_option maxHeartbeats 400000 in
theorem compare_int (a b : Int) (w : World) :
    Calls Tryd.prog 85 #[.int .i64 a, .int .i64 b] w fun e w' => e = .returned (.int .i64 (cmpV a b)) ∧ w' = w := by
  by_cases h1 : a < b
  · have hc : Hid (cmpV a b = -1) := by show _ = _; unfold cmpV; rw [if_pos h1]
    go_enter Tryd.func85, Tryd.ntmps85
    go_wp2_with fail
    refine (isNaN_int a _).mono ?_
    rintro e w' ⟨rfl, rfl⟩
    go_wp2_with fail
    refine (isNaN_int b _).mono ?_
    rintro e w' ⟨rfl, rfl⟩
    go_wp2_with fail
    go_ret
    exact ⟨by rw [hc.out]; rfl, rfl⟩
  · by_cases h2 : b < a
    · have hc : Hid (cmpV a b = 1) := by show _ = _; unfold cmpV; rw [if_neg h1, if_pos h2]
      go_enter Tryd.func85, Tryd.ntmps85
      go_wp2_with fail
      refine (isNaN_int a _).mono ?_
      rintro e w' ⟨rfl, rfl⟩
      go_wp2_with fail
      refine (isNaN_int b _).mono ?_
      rintro e w' ⟨rfl, rfl⟩
      go_wp2_with fail
      go_ret
      exact ⟨by rw [hc.out]; rfl, rfl⟩
    · have hc : Hid (cmpV a b = 0) := by show _ = _; unfold cmpV; rw [if_neg h1, if_neg h2]
      go_enter Tryd.func85, Tryd.ntmps85
      go_wp2_with fail
      refine (isNaN_int a _).mono ?_
      rintro e w' ⟨rfl, rfl⟩
      go_wp2_with fail
      refine (isNaN_int b _).mono ?_
      rintro e w' ⟨rfl, rfl⟩
      go_wp2_with fail
      go_ret
      exact ⟨by rw [hc.out]; rfl, rfl⟩
end Go.Proofs.YtcalbicfnhoklaaDoor

/- One merge of two sorted parts, by turning round. No Go in sight. -/
namespace Go.Proofs.YtcalbicfnhoklaaDoor

variable {α : Type} {key : α → Int} {f : Nat → α}
/-- one ahead of a sorted part is put in: those below i are less, from i on none is -/
theorem ins_front (a i b : Nat) (h1 : a + 1 ≤ i) (h2 : i ≤ b) (hs : SortF key f (a + 1) b) (hl : ∀ x, a + 1 ≤ x → x < i → key (f x) ≤ key (f a)) (hg : ∀ x, i ≤ x → x < b → key (f a) ≤ key (f x)) : SortF key (rotF f a (a + 1) i) a b := by
  have e1 : ∀ x, a ≤ x → x < i - 1 → rotF f a (a + 1) i x = f (x + 1) := fun x k1 k2 => by unfold rotF; rw [if_pos (by omega)]; congr 1; omega
  have e2 : rotF f a (a + 1) i (i - 1) = f a := by unfold rotF; rw [if_neg (by omega), if_pos (by omega)]; congr 1; omega
  have e3 : ∀ x, i ≤ x → rotF f a (a + 1) i x = f x := fun x k1 => by unfold rotF; rw [if_neg (by omega), if_neg (by omega)]
  intro x y k1 k2 k3
  rcases (by omega : x < i - 1 ∨ x = i - 1 ∨ i ≤ x) with hx | hx | hx
  · rw [e1 x k1 hx]
    rcases (by omega : y < i - 1 ∨ y = i - 1 ∨ i ≤ y) with hy | hy | hy
    · rw [e1 y (by omega) hy]; exact hs _ _ (by omega) (by omega) (by omega)
    · rw [hy, e2]; exact hl _ (by omega) (by omega)
    · rw [e3 y hy]; exact hs _ _ (by omega) (by omega) k3
  · rw [hx, e2]
    rcases (by omega : y = i - 1 ∨ i ≤ y) with hy | hy
    · rw [hy, e2]; exact Int.le_refl _
    · rw [e3 y hy]; exact hg y hy k3
  · rw [e3 x hx, e3 y (by omega)]; exact hs _ _ (by omega) k2 k3
/-- one behind a sorted part is put in -/
theorem ins_back (a i m : Nat) (h1 : a ≤ i) (h2 : i ≤ m) (hs : SortF key f a m) (hl : ∀ x, a ≤ x → x < i → key (f x) ≤ key (f m)) (hg : ∀ x, i ≤ x → x < m → key (f m) ≤ key (f x)) : SortF key (rotF f i m (m + 1)) a (m + 1) := by
  have e1 : ∀ x, x < i → rotF f i m (m + 1) x = f x := fun x k1 => by unfold rotF; rw [if_neg (by omega), if_neg (by omega)]
  have e2 : rotF f i m (m + 1) i = f m := by unfold rotF; rw [if_pos (by omega)]; congr 1; omega
  have e3 : ∀ x, i < x → x < m + 1 → rotF f i m (m + 1) x = f (x - 1) := fun x k1 k2 => by unfold rotF; rw [if_neg (by omega), if_pos (by omega)]; congr 1; omega
  intro x y k1 k2 k3
  rcases (by omega : x < i ∨ x = i ∨ i < x) with hx | hx | hx
  · rw [e1 x hx]
    rcases (by omega : y < i ∨ y = i ∨ i < y) with hy | hy | hy
    · rw [e1 y hy]; exact hs _ _ k1 k2 (by omega)
    · rw [hy, e2]; exact hl x k1 hx
    · rw [e3 y hy k3]; exact hs _ _ k1 (by omega) (by omega)
  · rw [hx, e2]
    rcases (by omega : y = i ∨ i < y) with hy | hy
    · rw [hy, e2]; exact Int.le_refl _
    · rw [e3 y hy k3]; exact hg _ (by omega) (by omega)
  · rw [e3 x hx (by omega), e3 y (by omega) k3]; exact hs _ _ (by omega) (by omega) (by omega)
/-- what the halving finds: where the first part is cut -/
structure Cut (key : α → Int) (f : Nat → α) (a m b mid s : Nat) : Prop where
  lo : a ≤ s
  hi : s ≤ m
  md : s ≤ mid
  end1 : m ≤ mid + m - s
  end2 : mid + m - s ≤ b
  less : s = a ∨ mid + m - s = b ∨ (0 < s ∧ a ≤ s - 1 ∧ key (f (s - 1)) ≤ key (f (mid + m - s)))
  more : s = m ∨ mid + m - s = m ∨ key (f (mid + m - s - 1)) ≤ key (f s)
/-- behind the turn both halves are two sorted parts, and no one of the first is more than one of the second -/
theorem cut_turn {a m b mid s : Nat} (hm1 : a ≤ mid) (hm2 : mid ≤ b) (h1 : SortF key f a m) (h2 : SortF key f m b) (c : Cut key f a m b mid s) :
    SortF key (rotF f s m (mid + m - s)) a s ∧ SortF key (rotF f s m (mid + m - s)) s mid ∧ SortF key (rotF f s m (mid + m - s)) mid (mid + m - s) ∧ SortF key (rotF f s m (mid + m - s)) (mid + m - s) b ∧
    ∀ x y, a ≤ x → x < mid → mid ≤ y → y < b → key (rotF f s m (mid + m - s) x) ≤ key (rotF f s m (mid + m - s) y) := by
  obtain ⟨q1, q2, q3, q4, q5, q6, q7⟩ := c
  have e1 : ∀ x, x < s → rotF f s m (mid + m - s) x = f x := fun x k1 => by unfold rotF; rw [if_neg (by omega), if_neg (by omega)]
  have e2 : ∀ x, s ≤ x → x < mid → rotF f s m (mid + m - s) x = f (x - s + m) := fun x k1 k2 => by unfold rotF; rw [if_pos (by omega)]
  have e3 : ∀ x, mid ≤ x → x < mid + m - s → rotF f s m (mid + m - s) x = f (x - (mid - s)) := fun x k1 k2 => by
    unfold rotF; rw [if_neg (by omega), if_pos (by omega)]; congr 1; omega
  have e4 : ∀ x, mid + m - s ≤ x → rotF f s m (mid + m - s) x = f x := fun x k1 => by unfold rotF; rw [if_neg (by omega), if_neg (by omega)]
  refine ⟨fun x y k1 k2 k3 => ?_, fun x y k1 k2 k3 => ?_, fun x y k1 k2 k3 => ?_, fun x y k1 k2 k3 => ?_, fun x y k1 k2 k3 k4 => ?_⟩
  · rw [e1 x (by omega), e1 y k3]; exact h1 x y k1 k2 (by omega)
  · rw [e2 x k1 (by omega), e2 y (by omega) k3]; exact h2 _ _ (by omega) (by omega) (by omega)
  · rw [e3 x k1 (by omega), e3 y (by omega) k3]; exact h1 _ _ (by omega) (by omega) (by omega)
  · rw [e4 x k1, e4 y (by omega)]; exact h2 _ _ (by omega) k2 k3
  · by_cases hx : x < s
    · rw [e1 x hx]
      by_cases hy : y < mid + m - s
      · rw [e3 y k3 hy]; exact h1 _ _ k1 (by omega) (by omega)
      · rw [e4 y (by omega)]
        rcases q6 with q | q | ⟨q, q', q''⟩
        · omega
        · omega
        · exact Int.le_trans (h1 x (s - 1) k1 (by omega) (by omega)) (Int.le_trans q'' (h2 _ y (by omega) (by omega) k4))
    · rw [e2 x (by omega) k2]
      by_cases hy : y < mid + m - s
      · rw [e3 y k3 hy]
        rcases q7 with q | q | q
        · omega
        · omega
        · exact Int.le_trans (h2 _ (mid + m - s - 1) (by omega) (by omega) (by omega)) (Int.le_trans q (h1 s _ (by omega) (by omega) (by omega)))
      · rw [e4 y (by omega)]; exact h2 _ _ (by omega) (by omega) k4
/-- both halves merged: all is in order -/
theorem halves {a mid b : Nat} {g h k : Nat → α} (hc : ∀ x y, a ≤ x → x < mid → mid ≤ y → y < b → key (g x) ≤ key (g y)) (p1 : PermF a mid g h) (s1 : SortF key h a mid) (p2 : PermF mid b h k) (s2 : SortF key k mid b) : SortF key k a b := by
  refine SortF.join (m := mid) (s1.congr fun x k1 k2 => p2.out x (.inl k2)) s2 fun x y k1 k2 k3 k4 => ?_
  obtain ⟨y', l1, l2, l3⟩ := p2.mem y k3 k4
  rw [p2.out x (.inl k2), l3, p1.out y' (.inr l1)]
  obtain ⟨x', l4, l5, l6⟩ := p1.mem x k1 k2
  rw [l6]
  exact hc x' y' l4 l5 l1 l2
end Go.Proofs.YtcalbicfnhoklaaDoor

/- Sorting by putting in, and by halves. No Go in sight. -/
namespace Go.Proofs.YtcalbicfnhoklaaDoor

variable {α : Type} {key : α → Int} {f : Nat → α}
/-- all is in order but the one at j, which is no more than those behind it -/
structure InsAt (key : α → Int) (f : Nat → α) (a j i : Nat) : Prop where
  lo : a ≤ j
  hi : j ≤ i
  rest : ∀ x y, a ≤ x → x ≤ y → y ≤ i → x ≠ j → y ≠ j → key (f x) ≤ key (f y)
  less : ∀ y, j < y → y ≤ i → key (f j) ≤ key (f y)
theorem InsAt.start {a i : Nat} (h : SortF key f a i) (hai : a ≤ i) : InsAt key f a i i :=
  ⟨hai, Nat.le_refl _, fun x y h1 h2 h3 h4 h5 => h x y h1 h2 (by omega), fun y h1 h2 => by omega⟩
theorem InsAt.step {a j i : Nat} (h : InsAt key f a j i) (hj : a < j) (hl : key (f j) < key (f (j - 1))) : InsAt key (swF f j (j - 1)) a (j - 1) i := by
  have e1 : swF f j (j - 1) j = f (j - 1) := by unfold swF; rw [if_pos rfl]
  have e2 : swF f j (j - 1) (j - 1) = f j := by unfold swF; rw [if_neg (by omega), if_pos rfl]
  have e3 : ∀ x, x ≠ j → x ≠ j - 1 → swF f j (j - 1) x = f x := fun x h1 h2 => by unfold swF; rw [if_neg h1, if_neg h2]
  have := h.hi
  refine ⟨by omega, by omega, fun x y h1 h2 h3 h4 h5 => ?_, fun y h1 h2 => ?_⟩
  · by_cases hx : x = j
    · by_cases hy : y = j
      · rw [hx, hy]; exact Int.le_refl _
      · rw [hx, e1, e3 y hy h5]; exact h.rest _ _ (by omega) (by omega) h3 (by omega) hy
    · by_cases hy : y = j
      · rw [hy, e1, e3 x hx h4]; exact h.rest _ _ h1 (by omega) (by omega) hx (by omega)
      · rw [e3 x hx h4, e3 y hy h5]; exact h.rest _ _ h1 h2 h3 hx hy
  · rw [e2]
    by_cases hy : y = j
    · rw [hy, e1]; omega
    · rw [e3 y hy (by omega)]; exact h.less y (by omega) h2
theorem InsAt.done {a j i : Nat} (h : InsAt key f a j i) (hs : j = a ∨ key (f (j - 1)) ≤ key (f j)) : SortF key f a (i + 1) := by
  have h1 := h.lo
  have h2 := h.hi
  intro x y k1 k2 k3
  by_cases hx : x = j
  · by_cases hy : y = j
    · rw [hx, hy]; exact Int.le_refl _
    · rw [hx]; exact h.less y (by omega) (by omega)
  · by_cases hy : y = j
    · rcases hs with hs | hs
      · omega
      · rw [hy]
        by_cases hx1 : x = j - 1
        · rw [hx1]; exact hs
        · exact Int.le_trans (h.rest x (j - 1) k1 (by omega) (by omega) hx (by omega)) hs
    · exact h.rest x y k1 k2 (by omega) hx hy
theorem SortF.ext {a b : Nat} {g : Nat → α} (h : SortF key f a b) (he : g = f) : SortF key g a b := by rw [he]; exact h
theorem swF_map {β : Type} (h : α → β) (f : Nat → α) (i j : Nat) : swF (fun x => h (f x)) i j = fun x => h (swF f i j x) := by
  funext x; unfold swF; split <;> (try split) <;> rfl
theorem swR_map {β : Type} (h : α → β) (f : Nat → α) (a b m : Nat) : swR (fun x => h (f x)) a b m = fun x => h (swR f a b m x) := by
  funext x; unfold swR; split <;> (try split) <;> rfl
theorem rotF_map {β : Type} (h : α → β) (f : Nat → α) (a m b : Nat) : rotF (fun x => h (f x)) a m b = fun x => h (rotF f a m b x) := by
  funext x; unfold rotF; split <;> (try split) <;> rfl
end Go.Proofs.YtcalbicfnhoklaaDoor

/- Blocks of one length. No Go in sight. -/
namespace Go.Proofs.YtcalbicfnhoklaaDoor

def Al (D x : Nat) : Prop := ∃ u, x = D * u
theorem al_zero (D : Nat) : Al D 0 := ⟨0, by simp⟩
theorem al_add {D x : Nat} (h : Al D x) : Al D (x + D) := by obtain ⟨u, rfl⟩ := h; exact ⟨u + 1, by rw [Nat.mul_succ]⟩
theorem al_near {D a x : Nat} (h : Al D a) (h2 : Al D x) (hl : x < a + D) : x < a ∨ x = a := by
  obtain ⟨u, rfl⟩ := h
  obtain ⟨v, rfl⟩ := h2
  rw [← Nat.mul_succ] at hl
  have := Nat.lt_of_mul_lt_mul_left hl
  rcases Nat.lt_or_eq_of_le (Nat.le_of_lt_succ this) with h | h
  · exact .inl (by
      rcases Nat.eq_zero_or_pos D with h0 | h0
      · rw [h0] at hl; simp at hl
      · exact Nat.mul_lt_mul_of_pos_left h h0)
  · exact .inr (by rw [h])
theorem al_gap {D a x : Nat} (h : Al D x) (h2 : Al D a) (hl : x < a) : x + D ≤ a := by
  obtain ⟨u, rfl⟩ := h
  obtain ⟨v, rfl⟩ := h2
  have := Nat.lt_of_mul_lt_mul_left hl
  rw [← Nat.mul_succ]
  exact Nat.mul_le_mul_left _ this
theorem al_half {D a : Nat} (h : Al (2 * D) a) : Al D a := by obtain ⟨u, rfl⟩ := h; exact ⟨2 * u, by rw [Nat.mul_comm 2 D, Nat.mul_assoc]⟩
/-- what lies before a block of its own is done: nothing else is touched -/
theorem SortF.stay {α : Type} {key : α → Int} {f g : Nat → α} {a b c d : Nat} (h : SortF key f c d) (hp : PermF a b f g) (ho : d ≤ a ∨ b ≤ c) : SortF key g c d :=
  h.congr fun x k1 k2 => hp.out x (by omega)

end Go.Proofs.YtcalbicfnhoklaaDoor

/- What huff.checkFreq answers. -/
namespace Go.Proofs.YtcalbicfnhoklaaDoor
open Go.RowKit

set_option maxRecDepth 20000 in
set_option maxHeartbeats 800000 in
theorem chk_any (a0 : Option Addr) (len cap : Nat) (F : Nat → Int) (w : World) (hP : Wds w a0 len F) :
    Calls Tryd.prog 52 #[.slice a0 len cap] w fun e w' => e = .returned (.int .i64 (freqE F len)) ∧ w' = w := by
  have hlen := hP.lenB
  have HP := Hid.mk' hP
  clear hP
  by_cases hL : 320 < len
  · have hf : Hid (freqE F len = 2) := by show _ = _; unfold freqE; rw [if_pos hL]
    go_enter Tryd.func52, Tryd.ntmps52
    go_wp2_with fail
    go_ret
    refine ⟨?_, rfl⟩
    rw [hf.out]; rfl
  · have hf : Hid (freqE F len = frP F len) := by show _ = _; unfold freqE; rw [if_neg hL]
    go_enter Tryd.func52, Tryd.ntmps52
    go_wp2_with fail
    go_loop [10] (fun i => ∃ k : Nat, k ≤ len ∧ i = .int .i64 k ∧ (∀ i, i < k → 0 ≤ F i ∧ F i ≤ 1048576)) (fun i => len - (intOf i).toNat)
    case atStart => exact ⟨0, Nat.zero_le _, rfl, fun i hi => by omega⟩
    case round =>
      obtain ⟨k, hk, rfl, hok⟩ := hrel
      have HO := Hid.mk' hok
      clear hok
      by_cases hlt : k < len
      · obtain ⟨b, off, rfl, hb, hc⟩ := HP.out.at' (by omega)
        have c0 := hc k hlt
        clear hc
        by_cases h1 : F k < 0
        · have he := Hid.mk' (frP_neg HO.out hlt h1)
          go_wp2_with fail
          go_ret
          refine ⟨?_, rfl⟩
          rw [hf.out, he.out]; rfl
        · by_cases h2 : 1048576 < F k
          · have he := Hid.mk' (frP_big HO.out hlt h2)
            go_wp2_with fail
            go_ret
            refine ⟨?_, rfl⟩
            rw [hf.out, he.out]; rfl
          · have HO1 : Hid (∀ i, i < k + 1 → 0 ≤ F i ∧ F i ≤ 1048576) := fun i hi => by
              rcases Nat.lt_succ_iff_lt_or_eq.1 hi with h | rfl
              · exact HO.out i h
              · omega
            generalize F k = x at *
            go_wp2_with fail
            go_round
            case rel => exact ⟨k + 1, by omega, by go_num, HO1.out⟩
            case measure => simp [intOf]; omega
      · have hkl : k = len := by omega
        have he : Hid (frP F len = 0) := frP_mk fun i hi => HO.out i (by omega)
        go_wp2_with fail
        go_ret
        refine ⟨?_, rfl⟩
        rw [hf.out, he.out]; rfl
end Go.Proofs.YtcalbicfnhoklaaDoor

/- What lens.Fill answers. -/
namespace Go.Proofs.YtcalbicfnhoklaaDoor
open Go.RowKit

theorem ret2i {a b a' b' : Int} (h1 : a = a') (h2 : b = b') : Ending.returned (.tuple #[.int .i64 a, .int .i64 b]) = .returned (.tuple #[.int .i64 a', .int .i64 b']) := by rw [h1, h2]

set_option maxRecDepth 20000 in
set_option maxHeartbeats 800000 in
theorem fill_any (a0 : Option Addr) (len cap : Nat) (W : Nat → Int) (w : World) (hP : Wds w a0 len W) :
    Calls Tryd.prog 78 #[.slice a0 len cap] w fun e w' => e = .returned (.tuple #[.int .i64 (fillA W len : Nat), .int .i64 (fillE W len)]) ∧ w' = w := by
  have hlen := hP.lenB
  have HP := Hid.mk' hP
  clear hP
  by_cases hL : 320 < len
  · have hf := Hid.mk' (fill_large W len hL)
    go_enter Tryd.func78, Tryd.ntmps78
    go_wp2_with fail
    go_ret2
    refine ⟨?_, rfl⟩
    rw [hf.out.1, hf.out.2]
    rfl
  · go_enter Tryd.func78, Tryd.ntmps78
    go_wp2_with fail
    go_loop [4, 12] (fun t i => ∃ k : Nat, k ≤ len ∧ i = .int .i64 k ∧ t = .int .i64 (fillN W k : Nat) ∧ (∀ i, i < k → lenB (W i) = true)) (fun _ i => len - (intOf i).toNat)
    case atStart => exact ⟨0, Nat.zero_le _, rfl, rfl, fun i hi => by omega⟩
    case round =>
      obtain ⟨k, hk, rfl, rfl, hok⟩ := hrel
      have hws := sumP_le W (fun _ _ => true) k
      rw [← fillN] at hws
      have HO := Hid.mk' hok
      clear hok
      by_cases hlt : k < len
      · obtain ⟨b, off, rfl, hb, hc⟩ := HP.out.at' (by omega)
        have c0 := hc k hlt
        clear hc
        have hS := Hid.mk' (fillN_succ W k)
        cases hw : lenB (W k) with
        | true =>
          have hw2 := len_of hw
          have HO1 : Hid (∀ i, i < k + 1 → lenB (W i) = true) := fun i hi => by
            rcases Nat.lt_succ_iff_lt_or_eq.1 hi with h1 | rfl
            · exact HO.out i h1
            · exact hw
          have hw0 := hw2.1
          have hw1 := hw2.2
          clear hw2 hw
          by_cases h0 : W k = 0
          · rw [h0] at c0
            have ht : Hid (tk (W k) = 0) := by rw [h0]; exact tk_zero
            clear h0
            go_wp2_with fail
            go_round
            case rel => exact ⟨k + 1, by omega, by go_num, by rw [hS.out, ht.out]; rfl, HO1.out⟩
            case measure => simp [intOf]; omega
          · have hr := room_shr (W k) (by omega) hw1
            have htk := tk_le (W k)
            have h0' : (W k != 0) = true := by rw [bne_iff_ne]; exact h0
            generalize W k = x at *
            generalize tk x = y at *
            go_wp2_with fail
            go_round
            case rel => exact ⟨k + 1, by omega, by go_num, by rw [hS.out]; go_num, HO1.out⟩
            case measure => simp [intOf]; omega
        | false =>
          have hpb := Hid.mk' (fill_bad W len hL (all_not k hlt hw))
          have hnw := len_not hw
          clear hw
          by_cases hneg : W k < 0
          all_goals
            go_wp2_with fail
            go_ret2
            refine ⟨?_, rfl⟩
            rw [hpb.out.1, hpb.out.2]
            rfl
      · have hkl : k = len := by omega
        have hf := Hid.mk' (fill_ok W len hL (all_mk (fun i hi => HO.out i (by omega))))
        go_wp2_with fail
        go_ret2
        refine ⟨?_, rfl⟩
        rw [hf.out.1, hf.out.2]
        rfl
end Go.Proofs.YtcalbicfnhoklaaDoor

/- What bits.Flip answers: the lowest bits in turned order. -/
namespace Go.Proofs.YtcalbicfnhoklaaDoor
open Go.RowKit

set_option maxHeartbeats 400000 in
theorem flip_lo (n : Nat) (v : Int) (w : World) (_h1 : -9223372036854775808 ≤ v) (hv : v < 0) :
    Calls Tryd.prog 58 #[.int .u64 n, .int .i64 v] w fun e w' => e = .returned (.int .u64 0) ∧ w' = w := by
  go_enter Tryd.func58, Tryd.ntmps58
  go_wp2
  go_loop [0, 5, 10] (fun _ t i => i = .int .i64 0 ∧ t = .int .u64 0) (fun _ _ _ => 0)
  case atStart => exact ⟨rfl, rfl⟩
  case round =>
    obtain ⟨rfl, rfl⟩ := hrel
    go_wp2
    go_ret
    exact ⟨rfl, rfl⟩

set_option maxHeartbeats 400000 in
theorem flip_in (n m : Nat) (v : Int) (w : World) (hn : n < 18446744073709551616) (hm : m ≤ 64) (h2 : v < 9223372036854775808)
    (hv : (64 < v ∧ m = 64) ∨ v = m) :
    Calls Tryd.prog 58 #[.int .u64 n, .int .i64 v] w fun e w' => e = .returned (.int .u64 (rv n m : Nat)) ∧ w' = w := by
  rcases hv with ⟨hv, hm0⟩ | rfl
  case' inl => have hm1 : 64 ≤ m := by omega
  case' inl => clear hm0
  all_goals
    go_enter Tryd.func58, Tryd.ntmps58
    go_wp2
    go_loop [0, 5, 10] (fun x t i => ∃ k : Nat, k ≤ m ∧ i = .int .i64 k ∧ t = .int .u64 (rv n k : Nat) ∧ x = .int .u64 (n / 2 ^ k : Nat)) (fun _ _ i => m - (intOf i).toNat)
    case atStart => exact ⟨0, Nat.zero_le _, rfl, rfl, by simp⟩
    case round =>
      obtain ⟨k, hk, rfl, rfl, rfl⟩ := hrel
      by_cases hlt : k < m
      · go_wp2
        go_round
        case rel => exact ⟨k + 1, by omega, by go_num, int_eq (flip_round n k hn (by omega)), int_eq (flip_shift n k)⟩
        case measure => simp [intOf]; omega
      · go_wp2
        go_ret
        exact ⟨ret_int (by rw [show k = m by omega]), rfl⟩

end Go.Proofs.YtcalbicfnhoklaaDoor

/- Pieces that came in as a slice. -/
namespace Go.Proofs.YtcalbicfnhoklaaDoor
open Go.RowKit

/-- pieces that came in as a slice -/
structure Pcs (w : World) (a0 : Option Addr) (len : Nat) (V : Nat → Nat) (W : Nat → Int) : Prop where
  lenB : len ≤ 17592186044416
  at' : 0 < len → ∃ b off, a0 = some ⟨b, off, none⟩ ∧ b < w.heap.size ∧ ∀ i, i < len → w.cell? ⟨b, off + i * 2, none⟩ = some (.int .u64 (V i : Int)) ∧ w.cell? ⟨b, off + i * 2 + 1, none⟩ = some (.int .i64 (W i))
  vB : ∀ i, i < len → V i < 18446744073709551616
  wB : ∀ i, i < len → -9223372036854775808 ≤ W i ∧ W i ≤ 9223372036854775807

theorem pcs_below {w w' : World} {a0 : Option Addr} {len : Nat} {V : Nat → Nat} {W : Nat → Int} (h : Pcs w a0 len V W) (hb : Below w.heap.size w w') : Pcs w' a0 len V W :=
  ⟨h.lenB, fun hp => by
    obtain ⟨b, off, h1, h2, h3⟩ := h.at' hp
    exact ⟨b, off, h1, Nat.lt_of_lt_of_le h2 hb.size, fun i hi => ⟨(hb.cell (p := ⟨b, off + i * 2, none⟩) h2).trans (h3 i hi).1, (hb.cell (p := ⟨b, off + i * 2 + 1, none⟩) h2).trans (h3 i hi).2⟩⟩, h.vB, h.wB⟩
end Go.Proofs.YtcalbicfnhoklaaDoor

/- Bytes that lie in a block, written and read. -/
namespace Go.Proofs.YtcalbicfnhoklaaDoor
open Go.RowKit

theorem set_getD (l : List UInt8) (n : Nat) (x : UInt8) (j : Nat) (hn : n < l.length) : (l.set n x).getD j 0 = if j = n then x else l.getD j 0 := by
  simp only [List.getD_eq_getElem?_getD, List.getElem?_set]
  by_cases h : j = n
  · subst h; simp [hn]
  · simp [h, show ¬ n = j by omega]

/-- the block g holds the bytes l, and may be written there -/
structure Byt (w : World) (g : Nat) (l : List UInt8) : Prop where
  cell : ∀ j, j < l.length → w.cell? ⟨g, j, none⟩ = some (.int .u8 ((l.getD j 0).toNat : Int))
  open' : ∀ j, j < l.length → w.frozen? ⟨g, j, none⟩ = false

theorem Byt.set {w : World} {g : Nat} {l : List UInt8} (h : Byt w g l) (n : Nat) (hn : n < l.length) (x : UInt8) : Byt (w.setCell ⟨g, n, none⟩ (.int .u8 (x.toNat : Int))).drew g (l.set n x) := by
  refine ⟨fun j hj => ?_, fun j hj => ?_⟩
  · simp only [List.length_set] at hj
    rw [set_getD l n x j hn]
    by_cases e : j = n
    · subst e
      simp only [if_true]
      exact World.cell?_setCell_same (w := w) (a := ⟨g, j, none⟩) _ (h.cell j hj)
    · rw [if_neg e]
      exact (World.cell?_setCell_other (w := w) (a := ⟨g, n, none⟩) (b := ⟨g, j, none⟩) _ (by intro h; cases h; exact e rfl)).trans (h.cell j hj)
  · simp only [List.length_set] at hj
    exact (World.frozen?_setCell _ _ _ _).trans (h.open' j hj)

theorem byt_start (w : World) (s : ByteArray) (cap : Nat) (t : TypeId) : Byt (w.alloc (.cells (bytesRow s cap) t ((bytesRow s cap).size, (bytesRow s cap).size + 1))).drew w.heap.size s.data.toList := by
  have hz : s.size ≤ (bytesRow s cap).size := by simp [bytesRow]
  refine ⟨fun j hj => ?_, fun j hj => ?_⟩
  · have hj' : j < s.size := by simpa using hj
    refine (World.cell?_alloc_mark w _ t _ j).trans ?_
    rw [bytesRow, Array.getElem?_append_left (by simpa using hj')]
    simp [hj']
  · have hj' : j < s.size := by simpa using hj
    show (w.alloc _).frozen? _ = false
    unfold World.frozen?
    rw [heap_alloc_new]
    simp only [decide_eq_false (show ¬ (bytesRow s cap).size ≤ j by omega), Bool.false_and]

theorem byt_string {w : World} {g : Nat} {l : List UInt8} (h : Byt w g l) (n cap : Nat) (hl : l.length = n) :
    (convert 27 9 (.slice (some ⟨g, 0, none⟩) n cap)).run Tryd.prog w = .ok (.string ⟨l.toArray⟩) w := by
  subst hl
  refine run_convert_bytes_back w 27 9 5 ⟨g, 0, none⟩ cap l Tryd.underlying27 Tryd.underlying5 Tryd.underlying9 fun j hj => ?_
  have := h.cell j hj
  rw [show (⟨g, 0, none⟩ : Addr).add j = ⟨g, j, none⟩ by unfold Addr.add; split <;> simp_all, this]
  simp [List.getD_eq_getElem?_getD, hj]
end Go.Proofs.YtcalbicfnhoklaaDoor

/- What bits.put does: it lays a piece into the bytes of a block. -/
namespace Go.Proofs.YtcalbicfnhoklaaDoor
open Go.RowKit

theorem or8 (x y : UInt8) : bits .or .u8 (x.toNat : Int) (y.toNat : Int) = ((x ||| y).toNat : Int) := by
  rw [u8_or_nat _ _ x.toNat_lt y.toNat_lt, ← UInt8.toNat_or]
theorem shl8 (v d o : Nat) : IntKind.u64.wrap ((v : Int) / 2 ^ d * 2 ^ o) % 256 = ((UInt8.ofNat (v / 2 ^ d * 2 ^ o)).toNat : Int) := by
  rw [cast_div_pow, show ((v / 2 ^ d : Nat) : Int) * 2 ^ o = ((v / 2 ^ d * 2 ^ o : Nat) : Int) by simp, IntKind.wrap_u64, UInt8.toNat_ofNat']
  omega

theorem grown_set {w wr : World} {g : Nat} (h : w.grownBy wr (some g)) (q : Nat) (x : Value) : w.grownBy (wr.setCell ⟨g, q, none⟩ x).drew (some g) :=
  ⟨h.os, h.tape, h.output, by show _ ≤ (wr.setCell ⟨g, q, none⟩ x).heap.size; simp only [World.setCell, Array.size_modify]; exact h.size,
   fun k hk hne => (heap_setCell_other wr ⟨g, q, none⟩ k x (by intro e; exact hne (by rw [e]))).trans (h.block k hk hne)⟩
theorem grown_alloc (w : World) (o : Obj) (row : Option Nat) : w.grownBy (w.alloc o) row :=
  ⟨rfl, rfl, rfl, by simp, fun k hk _ => Below.heap_alloc w o k hk⟩
theorem Byt.alloc {w : World} {g : Nat} {l : List UInt8} (h : Byt w g l) (hg : g < w.heap.size) (o : Obj) : Byt (w.alloc o) g l :=
  ⟨fun j hj => (World.cell?_alloc_lt (w := w) (o := o) (a := ⟨g, j, none⟩) hg).trans (h.cell j hj),
   fun j hj => (World.frozen?_of_block (w := w) (a := ⟨g, j, none⟩) (Below.heap_alloc w o g hg)).trans (h.open' j hj)⟩

set_option maxHeartbeats 400000 in
theorem put_any (g n cap at' v wd R : Nat) (w : World) (hwd : wd ≤ 64) (hv : v < 2 ^ wd) (hat : at' + wd ≤ 8 * n) (hn : n ≤ 8192) (hB : Byt w g (bytesOf R n)) (hg : g < w.heap.size) :
    Calls Tryd.prog 40 #[.slice (some ⟨g, 0, none⟩) n cap, .int .i64 at', .agg #[.int .u64 v, .int .i64 wd]] w fun e w' =>
      e = .returned (.tuple #[]) ∧ w.grownBy w' (some g) ∧ Byt w' g (bytesOf (R ||| v * 2 ^ at') n) := by
  have hv64 : v < 18446744073709551616 := Nat.lt_of_lt_of_le hv (by
    have : 2 ^ wd ≤ 2 ^ 64 := Nat.pow_le_pow_right (by decide) hwd
    omega)
  have HB := Hid.mk' hB
  clear hB
  go_enter Tryd.func40, Tryd.ntmps40
  go_wp2_with fail
  go_loopw [6] (fun i wr => ∃ d : Nat, d ≤ wd + 7 ∧ i = .int .i64 d ∧ w.grownBy wr (some g) ∧ wr.cell? ⟨w.heap.size, 0, none⟩ = some (.int .u64 v) ∧ wr.cell? ⟨w.heap.size, 1, none⟩ = some (.int .i64 wd) ∧ Byt wr g (bytesOf (laidN R v d at') n)) (fun i _ => wd + 8 - (intOf i).toNat)
  case atStart => exact ⟨0, by omega, rfl, grown_alloc _ _ _, by simp, by simp, by rw [laid_zero]; exact HB.out.alloc hg _⟩
  case round =>
    obtain ⟨d, hd, rfl, hgr, c0, c1, hy⟩ := hrel
    by_cases hlt : d < wd
    · have hx : (at' : Int) + d = ((at' + d : Nat) : Int) := by omega
      have hq : ((at' + d : Nat) : Int) / 8 = (((at' + d) / 8 : Nat) : Int) := by omega
      have hr : ((at' + d : Nat) : Int) % 8 = (((at' + d) % 8 : Nat) : Int) := by omega
      obtain ⟨x, ex⟩ : ∃ x, Hid (at' + d = x) := ⟨_, Hid.mk' rfl⟩
      rw [ex.out] at hx hq hr
      have hxl : x / 8 < n := by rw [← ex.out]; omega
      have hol : x % 8 < 8 := by omega
      have hln : x / 8 < (bytesOf (laidN R v d at') n).length := by rw [bytesOf_length]; exact hxl
      have hc := hy.cell (x / 8) hln
      have hf := hy.open' (x / 8) hln
      obtain ⟨q, eq⟩ : ∃ q, Hid (x / 8 = q) := ⟨_, Hid.mk' rfl⟩
      obtain ⟨o, eo⟩ : ∃ o, Hid (x % 8 = o) := ⟨_, Hid.mk' rfl⟩
      rw [eq.out] at hq hc hf hxl
      rw [eo.out] at hr hol
      obtain ⟨y, ey⟩ : ∃ y, Hid ((bytesOf (laidN R v d at') n).getD q 0 = y) := ⟨_, Hid.mk' rfl⟩
      rw [ey.out] at hc
      have hs := shl8 v d o
      obtain ⟨z, ez⟩ : ∃ z, Hid (UInt8.ofNat (v / 2 ^ d * 2 ^ o) = z) := ⟨_, Hid.mk' rfl⟩
      rw [ez.out] at hs
      have hor := or8 y z
      have HY := Hid.mk' hy
      have HG := Hid.mk' hgr
      clear hy hgr hln
      go_wp2_with fail
      go_region
      go_wp2_with fail
      go_roundw
      case rel =>
        refine ⟨d + (8 - o), by omega, int_eq (by omega), grown_set HG.out _ _, ?_, ?_, ?_⟩
        · exact (World.cell?_setCell_other (w := wr) (a := ⟨g, q, none⟩) (b := ⟨w.heap.size, 0, none⟩) _ (by intro h; cases h; omega)).trans c0
        · exact (World.cell?_setCell_other (w := wr) (a := ⟨g, q, none⟩) (b := ⟨w.heap.size, 1, none⟩) _ (by intro h; cases h; omega)).trans c1
        · have hset := HY.out.set q (by rw [bytesOf_length]; exact hxl) (y ||| z)
          have hpb := put_byte (laidN R v d at') v d (at' + d) n
          rw [laid_step, ex.out, eq.out, eo.out, ey.out, ez.out] at hpb
          rw [← hpb, UInt8.toNat_or] at hset
          exact hset
      case measure => simp [intOf]; omega
    · have hall := Hid.mk' (laid_all R v d wd at' hv (by omega))
      have HY := Hid.mk' hy
      have HG := Hid.mk' hgr
      clear hy hgr
      go_wp2_with fail
      go_end0
      exact ⟨rfl, HG.out, by rw [← hall.out]; exact HY.out⟩
end Go.Proofs.YtcalbicfnhoklaaDoor

/- What bits.isWidth answers. -/
namespace Go.Proofs.YtcalbicfnhoklaaDoor
open Go.RowKit

set_option maxHeartbeats 400000 in
theorem isWidth_any (wd : Int) (w : World) :
    Calls Tryd.prog 59 #[.int .i64 wd] w fun e w' => e = .returned (.bool (widB wd)) ∧ w' = w := by
  unfold widB
  by_cases h1 : 0 ≤ wd
  · by_cases h2 : wd ≤ 64
    · have e : decide (0 ≤ wd ∧ wd ≤ 64) = true := decide_eq_true ⟨h1, h2⟩
      rw [e]; clear e
      go_enter Tryd.func59, Tryd.ntmps59
      go_wp2
      go_ret
      exact ⟨rfl, rfl⟩
    · have e : decide (0 ≤ wd ∧ wd ≤ 64) = false := decide_eq_false (by omega)
      have d2 : decide (wd ≤ 64) = false := decide_eq_false (by omega)
      rw [e]; clear e
      go_enter Tryd.func59, Tryd.ntmps59
      go_wp2
      go_ret
      exact ⟨rfl, rfl⟩
  · have e : decide (0 ≤ wd ∧ wd ≤ 64) = false := decide_eq_false (by omega)
    have d1 : decide (0 ≤ wd) = false := decide_eq_false (by omega)
    rw [e]; clear e
    go_enter Tryd.func59, Tryd.ntmps59
    go_wp2
    go_ret
    exact ⟨rfl, rfl⟩
end Go.Proofs.YtcalbicfnhoklaaDoor

/- What bits.checkPiece answers. -/
namespace Go.Proofs.YtcalbicfnhoklaaDoor
open Go.RowKit

set_option maxHeartbeats 400000 in
theorem checkPiece_any (v : Nat) (wd : Int) (w : World) (_hv : v < 18446744073709551616) :
    Calls Tryd.prog 39 #[.agg #[.int .u64 v, .int .i64 wd]] w fun e w' => e = .returned (.int .i64 (errP v wd)) ∧ w' = w.alloc (.cells #[.int .u64 v, .int .i64 wd] 74) := by
  by_cases h : 0 ≤ wd ∧ wd ≤ 64
  · have hw : widB wd = true := decide_eq_true h
    obtain ⟨n, rfl⟩ := Int.eq_ofNat_of_zero_le h.1
    have hn : n ≤ 64 := by omega
    have hP := Hid.mk' (errP_ok v n h)
    have hQ := Hid.mk' (errP_large v n h)
    rw [Int.toNat_natCast] at hP hQ
    clear h
    by_cases hz : v / 2 ^ n = 0
    · have ht : ((v : Int) / 2 ^ n != 0) = false := by rw [cast_div_pow, hz]; rfl
      have hE := Hid.mk' (hP.out hz)
      clear hz hP hQ
      go_enter Tryd.func39, Tryd.ntmps39
      go_wp2_with fail
      refine (isWidth_any _ _).mono ?_
      rintro e w' ⟨rfl, rfl⟩
      go_wp2_with fail
      go_ret
      exact ⟨ret_int hE.out.symm, rfl⟩
    · have ht : ((v : Int) / 2 ^ n != 0) = true := by rw [cast_div_pow, bne_iff_ne]; omega
      have hE := Hid.mk' (hQ.out hz)
      clear hz hP hQ
      go_enter Tryd.func39, Tryd.ntmps39
      go_wp2_with fail
      refine (isWidth_any _ _).mono ?_
      rintro e w' ⟨rfl, rfl⟩
      go_wp2_with fail
      go_ret
      exact ⟨ret_int hE.out.symm, rfl⟩
  · have hw : widB wd = false := decide_eq_false h
    have hE := Hid.mk' (errP_wid v wd h)
    clear h
    go_enter Tryd.func39, Tryd.ntmps39
    go_wp2_with fail
    refine (isWidth_any _ _).mono ?_
    rintro e w' ⟨rfl, rfl⟩
    go_wp2_with fail
    go_ret
    exact ⟨ret_int hE.out.symm, rfl⟩
end Go.Proofs.YtcalbicfnhoklaaDoor

/- A text of one byte, made of a slice. -/
namespace Go.Proofs.YtcalbicfnhoklaaDoor
open Go.RowKit

theorem one_string (w : World) (x : Int) :
    (convert 27 9 (.slice (some ⟨w.heap.size, 0, none⟩) 1 1)).run Tryd.prog (w.alloc (.cells #[.int .u8 x] 5)) =
      .ok (.string (strOfNums [x])) (w.alloc (.cells #[.int .u8 x] 5)) :=
  run_convert_bytes_arg (P := Tryd.prog) _ 27 5 Tryd.underlying27 Tryd.underlying5 w.heap.size 0 1 1 [x] rfl
    (fun i hi => by
      obtain rfl : i = 0 := by omega
      simp) 9 Tryd.underlying9
theorem one_string_at (x : Int) (w : World) (b : Nat) (h : w.cell? ⟨b, 0, none⟩ = some (.int .u8 x)) :
    (convert 27 9 (.slice (some ⟨b, 0, none⟩) 1 1)).run Tryd.prog w = .ok (.string (strOfNums [x])) w :=
  run_convert_bytes_arg (P := Tryd.prog) w 27 5 Tryd.underlying27 Tryd.underlying5 b 0 1 1 [x] rfl
    (fun i hi => by
      obtain rfl : i = 0 := by omega
      simpa using h) 9 Tryd.underlying9
theorem one_size (x : Int) : (strOfNums [x]).size = 1 := rfl
/-- one byte ahead of a text -/
theorem one_cat (q : Nat) (l : List UInt8) : strOfNums [(q : Int) % 256] ++ ⟨l.toArray⟩ = ⟨(UInt8.ofNat q :: l).toArray⟩ := by
  apply bytes_ext
  have e : (strOfNums [(q : Int) % 256]).data.toList = [UInt8.ofNat q] := by
    show [UInt8.ofNat ((q : Int) % 256).toNat] = _
    congr 1
    apply UInt8.toNat_inj.1
    rw [UInt8.toNat_ofNat', UInt8.toNat_ofNat']
    omega
  rw [ByteArray.data_append, Array.toList_append, e]
  rfl
end Go.Proofs.YtcalbicfnhoklaaDoor

/- What the function that bits.reader makes answers. -/
namespace Go.Proofs.YtcalbicfnhoklaaDoor
open Go.RowKit

set_option maxHeartbeats 400000 in
theorem next_any (s : ByteArray) (ga gs at' wd : Nat) (w : World) (hwd : wd ≤ 64) (hat : at' + wd ≤ 8 * s.size) (hs : s.size ≤ 140737488363520)
    (ca : w.cell? ⟨ga, 0, none⟩ = some (.int .i64 (at' : Int))) (cs : w.cell? ⟨gs, 0, none⟩ = some (.string s)) (fa : w.frozen? ⟨ga, 0, none⟩ = false) :
    Calls Tryd.prog 98 #[.int .i64 wd, .pointer (some ⟨ga, 0, none⟩), .pointer (some ⟨gs, 0, none⟩)] w fun e w' => e = .returned (.int .u64 (getN (txtN s.data.toList) at' wd : Nat)) ∧ w' = w.setCell ⟨ga, 0, none⟩ (.int .i64 (at' + wd : Nat)) := by
  go_enter Tryd.func98, Tryd.ntmps98
  go_wp2_with fail
  go_loop [5, 6] (fun x i => ∃ d : Nat, d ≤ wd + 7 ∧ i = .int .i64 d ∧ x = .int .u64 (rdN (txtN s.data.toList) at' d : Nat)) (fun _ i => wd + 8 - (intOf i).toNat)
  case atStart => exact ⟨0, by omega, rfl, by rw [rdN_zero]; rfl⟩
  case round =>
    obtain ⟨d, hd, rfl, rfl⟩ := hrel
    by_cases hlt : d < wd
    · have hx : (at' : Int) + d = ((at' + d : Nat) : Int) := by omega
      have hq : ((at' + d : Nat) : Int) / 8 = (((at' + d) / 8 : Nat) : Int) := by omega
      have hr : ((at' + d : Nat) : Int) % 8 = (((at' + d) % 8 : Nat) : Int) := by omega
      have hst := Hid.mk' (rd_step s.data.toList at' d)
      obtain ⟨x, ex⟩ : ∃ x, Hid (at' + d = x) := ⟨_, Hid.mk' rfl⟩
      rw [ex.out] at hx hq hr hst
      have hxl : x / 8 < s.size := by rw [← ex.out]; omega
      have hol : x % 8 < 8 := by omega
      obtain ⟨q, eq⟩ : ∃ q, Hid (x / 8 = q) := ⟨_, Hid.mk' rfl⟩
      obtain ⟨o, eo⟩ : ∃ o, Hid (x % 8 = o) := ⟨_, Hid.mk' rfl⟩
      rw [eq.out] at hq hxl hst
      rw [eo.out] at hr hol hst
      have hor := Hid.mk' (rd_or (rdN (txtN s.data.toList) at' d) s[q] o d (rdN_lt _ _ _))
      have hby := Hid.mk' (byte_at s q hxl)
      go_wp2_with fail
      go_round
      case rel => exact ⟨d + (8 - o), by omega, int_eq (by omega), int_eq (by rw [hor.out, ← hst.out, hby.out])⟩
      case measure => simp [intOf]; omega
    · have hla := Hid.mk' (low_and64 (rdN (txtN s.data.toList) at' d) wd (rdN_lt _ _ _) hwd)
      have hre := Hid.mk' (rd_end (txtN s.data.toList) at' d wd (by omega) hwd)
      go_wp2_with fail
      go_ret
      exact ⟨ret_int (by rw [hla.out, hre.out]), rfl⟩
end Go.Proofs.YtcalbicfnhoklaaDoor

/- What lz.Check answers. -/
namespace Go.Proofs.YtcalbicfnhoklaaDoor
open Go.RowKit

set_option maxRecDepth 20000 in
set_option maxHeartbeats 800000 in
theorem check_eq (x y : Int) (z : Nat) (w : World) :
    Calls Tryd.prog 64 #[.agg #[.int .i64 x, .int .i64 y, .int .u8 (z : Int)]] w fun e w' => e = .returned (.int .i64 (chkM ⟨x, y, z⟩)) ∧ w' = w.alloc (.cells #[.int .i64 x, .int .i64 y, .int .u8 (z : Int)] 66) := by
  cases hm : okM ⟨x, y, z⟩ with
  | true =>
    have hc : Hid (chkM ⟨x, y, z⟩ = 0) := by show _ = _; unfold chkM; rw [hm]; rfl
    have ho := okM_of hm
    clear hm
    simp only at ho
    rcases ho with ⟨h1, h2⟩ | ⟨h1, h2, h3, h4⟩
    · subst h1 h2
      go_enter Tryd.func64, Tryd.ntmps64
      go_wp2_with fail
      go_ret
      exact ⟨by rw [hc.out]; rfl, rfl⟩
    · subst h4
      have t0 : (x == 0) = false := by rw [beq_eq_false_iff_ne]; omega
      go_enter Tryd.func64, Tryd.ntmps64
      go_wp2_with fail
      go_ret
      exact ⟨by rw [hc.out]; rfl, rfl⟩
  | false =>
    have hc : Hid (chkM ⟨x, y, z⟩ = 4) := by show _ = _; unfold chkM; rw [hm]; rfl
    have ho := okM_not hm
    clear hm
    simp only at ho
    by_cases h0 : x = 0
    · subst h0
      have t1 : (y == 0) = false := by rw [beq_eq_false_iff_ne]; omega
      clear ho
      go_enter Tryd.func64, Tryd.ntmps64
      go_wp2_with fail
      go_ret
      exact ⟨by rw [hc.out]; rfl, rfl⟩
    · have t0 : (x == 0) = false := by rw [beq_eq_false_iff_ne]; exact h0
      by_cases h3 : x < 3
      · clear ho h0
        go_enter Tryd.func64, Tryd.ntmps64
        go_wp2_with fail
        go_ret
        exact ⟨by rw [hc.out]; rfl, rfl⟩
      · have g3 : 3 ≤ x := by omega
        by_cases h6 : 66 < x
        · clear ho h0 h3
          go_enter Tryd.func64, Tryd.ntmps64
          go_wp2_with fail
          go_ret
          exact ⟨by rw [hc.out]; rfl, rfl⟩
        · have g6 : x ≤ 66 := by omega
          by_cases h1 : y < 1
          · clear ho h0 h3 h6
            go_enter Tryd.func64, Tryd.ntmps64
            go_wp2_with fail
            go_ret
            exact ⟨by rw [hc.out]; rfl, rfl⟩
          · have g1 : 1 ≤ y := by omega
            have hz : ((z : Int) == 0) = false := by rw [beq_eq_false_iff_ne]; omega
            clear ho h0 h3 h6 h1
            go_enter Tryd.func64, Tryd.ntmps64
            go_wp2_with fail
            go_ret
            exact ⟨by rw [hc.out]; rfl, rfl⟩
theorem check_any (x y : Int) (z : Nat) (w : World) :
    Calls Tryd.prog 64 #[.agg #[.int .i64 x, .int .i64 y, .int .u8 (z : Int)]] w fun e w' => e = .returned (.int .i64 (chkM ⟨x, y, z⟩)) ∧ Below w.heap.size w w' :=
  (check_eq x y z w).mono fun _ _ h => ⟨h.1, by rw [h.2]; exact (Below.refl _ _).alloc (Nat.le_refl _) _⟩
end Go.Proofs.YtcalbicfnhoklaaDoor
