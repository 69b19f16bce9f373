/- What disk.Work's settle does. -/
import Derived.Test.YtdhjadgmdmdnjaaKeepWalks
import Derived.Test.YtdhjadgmdmdnjaaCopyDkWalks
namespace Go.Proofs.Ytdhjadgmdmdnjaa
open Go.RowKit

set_option maxRecDepth 20000 in
set_option maxHeartbeats 1600000 in
theorem settleS_any (N g : Nat) (u v : Value) (C : List ByteArray) (P : List Pt) (w : World) (h : WDk w N g u v C P) (hok : OkD C P) :
    Calls Try.prog 51 #[.pointer (some ⟨g, 0, none⟩), .func (.func 52) #[] #[]] w fun e w' => (e = .returned (.tuple #[]) ∧ WDk w' N g u (.slice none 0 0) (landL allL P 0 C) []) ∧ Below N w w' := by
  obtain ⟨⟨a0, c, rfl⟩, a1, d, rfl⟩ := h.shapes
  obtain ⟨n, hn⟩ : ∃ n, Hid (C.length = n) := ⟨_, Hid.mk' rfl⟩
  obtain ⟨m, hm⟩ : ∃ m, Hid (P.length = m) := ⟨_, Hid.mk' rfl⟩
  rw [hn.out, hm.out] at h
  rw [hn.out]
  have hnB : n ≤ 128 := by rw [← hn.out]; exact hok.n2
  have hmB : m ≤ 400 := by rw [← hm.out]; exact hok.m
  have HOk := Hid.mk' hok
  have HW := Hid.mk' h
  have hNg := h.gN
  have hgl := h.bx.lt
  have c1 := h.bx.c1
  clear h hok
  go_enter Try.func51, Try.ntmps51
  go_wp2_with fail
  clear c1
  go_loopw [12] (fun i wr => ∃ (k : Nat) (Ck : List ByteArray), k ≤ m ∧ i = .int .i64 k ∧ Ck.length = n ∧ landL allL (P.drop k) k Ck = landL allL P 0 C ∧ WDk wr N g (.slice a0 n c) (.slice a1 m d) Ck P ∧ Below N w wr) (fun i _ => m - (intOf i).toNat)
  case atStart => exact ⟨0, C, Nat.zero_le _, rfl, hn.out, rfl, HW.out, (Below.refl _ _).mono (by omega)⟩
  case round =>
    obtain ⟨k, Ck, hk, rfl, hCk, hla, hwr, hbl⟩ := hrel
    have HCk := Hid.mk' hCk
    have HLa := Hid.mk' hla
    have HWr := Hid.mk' hwr
    have HB := Hid.mk' hbl
    clear hCk hla hwr hbl
    by_cases hlt : k < m
    · obtain ⟨b, hb1, hx1, hx2⟩ := HWr.out.readP hm.out hlt
      obtain rfl := hb1
      have hdr := drop_at P k noPt (by rw [hm.out]; exact hlt)
      have hpe := putE_zero (HOk.out.ps _ (getD_mem P k noPt (by rw [hm.out]; exact hlt)))
      rw [hn.out] at hpe
      generalize P.getD k noPt = p at *
      obtain ⟨x, s⟩ := p
      simp only at hx1 hx2 hpe
      obtain ⟨y, rfl⟩ : ∃ y : Nat, x = y := ⟨x.toNat, by omega⟩
      have hy : y < n := by omega
      have HLa1 : Hid (landL allL P 0 C = landL allL (P.drop (k + 1)) (k + 1) (if allL k = true then Ck.set y s else Ck)) := by
        show _ = _
        rw [← HLa.out, hdr, landL]; rfl
      have HWa := Hid.mk' (HWr.out.alloc (.cells #[.int .i64 (y : Int), .string s] 46))
      have hNw : N ≤ wr.heap.size := by have := HWr.out.bx.lt; omega
      have HBa : Hid (Below N w (wr.alloc (.cells #[.int .i64 (y : Int), .string s] 46))) := HB.out.alloc hNw _
      have HXa := Hid.mk' (box2_new wr (.int .i64 (y : Int)) (.string s) 46)
      clear hdr hpe
      go_wp2_with fail
      obtain ⟨wa, hwa⟩ : ∃ x, Hid (wr.alloc (.cells #[.int .i64 (y : Int), .string s] 46) = x) := ⟨_, Hid.mk' rfl⟩
      rw [hwa.out] at HWa HBa HXa ⊢
      refine (syncF_any k _).mono ?_
      rintro e w2 ⟨rfl, hw2⟩; obtain rfl := hw2.symm
      obtain ⟨q, hq⟩ : ∃ q, Hid (allL k = q) := ⟨_, Hid.mk' rfl⟩
      rw [hq.out]
      rw [hq.out] at HLa1
      cases q with
      | true =>
        have HLa2 : Hid (landL allL (P.drop (k + 1)) (k + 1) (Ck.set y s) = landL allL P 0 C) := by
          have h := HLa1.out
          rw [if_pos rfl] at h
          exact h.symm
        obtain ⟨gc, rfl⟩ := HWr.out.openC HCk.out hy
        have d0 := HWa.out.bx.c0
        have d1 := HXa.out.c0
        have d2 := HXa.out.c1
        have x0 := (HWa.out.cellC HCk.out hy).1
        have y0 := (HWa.out.cellC HCk.out hy).2
        have hngc : wr.heap.size ≠ gc := by have := (HWr.out.ow.rc.lt gc rfl).2; omega
        have hngg := HWr.out.neC
        have HZ : Hid (WDk (wa.drew.setCell ⟨gc, y, none⟩ (.string s)) N g (.slice (some ⟨gc, 0, none⟩) n c) (.slice (some ⟨b, 0, none⟩) m d) (Ck.set y s) P) := HWa.out.drew.setC HCk.out s
        have HBz : Hid (Below N w (wa.drew.setCell ⟨gc, y, none⟩ (.string s))) := HBa.out.drew.setCell HWa.out.ltC _
        go_wp2_with fail
        go_region_held3 (fun X => X.cell? ⟨g, 0, none⟩ = some (.slice (some ⟨gc, 0, none⟩) n c) ∧ X.cell? ⟨wr.heap.size, 0, none⟩ = some (.int .i64 (y : Int)) ∧ X.cell? ⟨wr.heap.size, 1, none⟩ = some (.string s)) (first | exact ⟨d0, d1, d2⟩ | exact ⟨cell_set1 d0 hngg, cell_set1 d1 hngc, cell_set1 d2 hngc⟩) (fail)
        clear d0 d1 d2 x0 y0 hx1 hx2
        go_wp2_with fail
        go_roundw
        case rel => exact ⟨k + 1, _, by omega, by go_num, by rw [List.length_set]; exact HCk.out, HLa2.out, HZ.out, HBz.out⟩
        case measure => simp [intOf]; omega
      | false =>
        have HLa2 : Hid (landL allL (P.drop (k + 1)) (k + 1) Ck = landL allL P 0 C) := by
          have h := HLa1.out
          rw [if_neg (by decide)] at h
          exact h.symm
        clear hx1 hx2
        go_wp2_with fail
        go_roundw
        case rel => exact ⟨k + 1, _, by omega, by go_num, HCk.out, HLa2.out, HWa.out, HBa.out⟩
        case measure => simp [intOf]; omega
    · have HWf := HWr.out
      have HLf : Hid (landL allL P 0 C = Ck) := by
        show _ = _
        rw [← HLa.out, List.drop_of_length_le (by rw [hm.out]; omega)]; rfl
      have f1 := HWf.bx.f1
      have e1 := HWf.bx.c1
      go_wp2_with fail
      go_end0
      exact ⟨⟨rfl, by rw [HLf.out]; exact HWf.nilP⟩, HB.out.setCell (by exact hNg) _⟩

set_option maxRecDepth 20000 in
set_option maxHeartbeats 1600000 in
theorem settleC_any (N g : Nat) (u v : Value) (C : List ByteArray) (P : List Pt) (K : List Bool) (k0 kcap kb : Nat) (ak : Option Addr) (w : World) (h : WDk w N g u v C P) (hok : OkD C P) (hK : Bos w ak k0 K) (hkb : w.cell? ⟨kb, 0, none⟩ = some (.slice ak k0 kcap)) (hkl : kb < w.heap.size) (_hkg : g ≠ kb) (hku : u.ownBlock ≠ some kb) (hka : 0 < k0 → ∀ a, ak = some a → a.block < N) :
    Calls Try.prog 51 #[.pointer (some ⟨g, 0, none⟩), .func (.func 53) #[] #[.pointer (some ⟨kb, 0, none⟩)]] w fun e w' => (e = .returned (.tuple #[]) ∧ WDk w' N g u (.slice none 0 0) (landL (keepL K) P 0 C) []) ∧ Below N w w' := by
  obtain ⟨⟨a0, c, rfl⟩, a1, d, rfl⟩ := h.shapes
  obtain ⟨n, hn⟩ : ∃ n, Hid (C.length = n) := ⟨_, Hid.mk' rfl⟩
  obtain ⟨m, hm⟩ : ∃ m, Hid (P.length = m) := ⟨_, Hid.mk' rfl⟩
  rw [hn.out, hm.out] at h
  rw [hn.out]
  have hnB : n ≤ 128 := by rw [← hn.out]; exact hok.n2
  have hmB : m ≤ 400 := by rw [← hm.out]; exact hok.m
  have HOk := Hid.mk' hok
  have HW := Hid.mk' h
  have hNg := h.gN
  have hgl := h.bx.lt
  have c1 := h.bx.c1
  have HKb := Hid.mk' hK
  have HKc := Hid.mk' hkb
  have HKa := Hid.mk' hka
  have HKu := Hid.mk' hku
  clear hK hkb hka hku
  clear h hok
  go_enter Try.func51, Try.ntmps51
  go_wp2_with fail
  clear c1
  go_loopw [12] (fun i wr => ∃ (k : Nat) (Ck : List ByteArray), k ≤ m ∧ i = .int .i64 k ∧ Ck.length = n ∧ landL (keepL K) (P.drop k) k Ck = landL (keepL K) P 0 C ∧ WDk wr N g (.slice a0 n c) (.slice a1 m d) Ck P ∧ Below N w wr ∧ wr.cell? ⟨kb, 0, none⟩ = some (.slice ak k0 kcap) ∧ kb < wr.heap.size) (fun i _ => m - (intOf i).toNat)
  case atStart => exact ⟨0, C, Nat.zero_le _, rfl, hn.out, rfl, HW.out, (Below.refl _ _).mono (by omega), HKc.out, hkl⟩
  case round =>
    obtain ⟨k, Ck, hk, rfl, hCk, hla, hwr, hbl, hck, hkw⟩ := hrel
    have HCK := Hid.mk' hck
    clear hck
    have HCk := Hid.mk' hCk
    have HLa := Hid.mk' hla
    have HWr := Hid.mk' hwr
    have HB := Hid.mk' hbl
    clear hCk hla hwr hbl
    by_cases hlt : k < m
    · obtain ⟨b, hb1, hx1, hx2⟩ := HWr.out.readP hm.out hlt
      obtain rfl := hb1
      have hdr := drop_at P k noPt (by rw [hm.out]; exact hlt)
      have hpe := putE_zero (HOk.out.ps _ (getD_mem P k noPt (by rw [hm.out]; exact hlt)))
      rw [hn.out] at hpe
      generalize P.getD k noPt = p at *
      obtain ⟨x, s⟩ := p
      simp only at hx1 hx2 hpe
      obtain ⟨y, rfl⟩ : ∃ y : Nat, x = y := ⟨x.toNat, by omega⟩
      have hy : y < n := by omega
      have HLa1 : Hid (landL (keepL K) P 0 C = landL (keepL K) (P.drop (k + 1)) (k + 1) (if (keepL K) k = true then Ck.set y s else Ck)) := by
        show _ = _
        rw [← HLa.out, hdr, landL]; rfl
      have HWa := Hid.mk' (HWr.out.alloc (.cells #[.int .i64 (y : Int), .string s] 46))
      have hNw : N ≤ wr.heap.size := by have := HWr.out.bx.lt; omega
      have HBa : Hid (Below N w (wr.alloc (.cells #[.int .i64 (y : Int), .string s] 46))) := HB.out.alloc hNw _
      have HXa := Hid.mk' (box2_new wr (.int .i64 (y : Int)) (.string s) 46)
      clear hdr hpe
      go_wp2_with fail
      obtain ⟨wa, hwa⟩ : ∃ x, Hid (wr.alloc (.cells #[.int .i64 (y : Int), .string s] 46) = x) := ⟨_, Hid.mk' rfl⟩
      rw [hwa.out] at HWa HBa HXa ⊢
      have hcw : Hid (wa.cell? ⟨kb, 0, none⟩ = some (.slice ak k0 kcap)) := by
        show _ = _
        rw [← hwa.out]
        exact (World.cell?_of_block (w := wr) (a := ⟨kb, 0, none⟩) (heap_alloc_old _ _ hkw)).trans HCK.out
      have hkz : Hid (kb < wa.heap.size) := by show _ < _; rw [← hwa.out]; simp; omega
      have hcc := hcw.out
      refine (crashF_any k kb ak k0 kcap K _ hcc (HKb.out.keptN HBa.out HKa.out) (by omega)).mono ?_
      rintro e w2 ⟨rfl, hw2⟩; obtain rfl := hw2.symm
      clear hcc
      obtain ⟨q, hq⟩ : ∃ q, Hid ((keepL K) k = q) := ⟨_, Hid.mk' rfl⟩
      rw [hq.out]
      rw [hq.out] at HLa1
      cases q with
      | true =>
        have HLa2 : Hid (landL (keepL K) (P.drop (k + 1)) (k + 1) (Ck.set y s) = landL (keepL K) P 0 C) := by
          have h := HLa1.out
          rw [if_pos rfl] at h
          exact h.symm
        obtain ⟨gc, rfl⟩ := HWr.out.openC HCk.out hy
        have d0 := HWa.out.bx.c0
        have d1 := HXa.out.c0
        have d2 := HXa.out.c1
        have x0 := (HWa.out.cellC HCk.out hy).1
        have y0 := (HWa.out.cellC HCk.out hy).2
        have hngc : wr.heap.size ≠ gc := by have := (HWr.out.ow.rc.lt gc rfl).2; omega
        have hngg := HWr.out.neC
        have HZ : Hid (WDk (wa.drew.setCell ⟨gc, y, none⟩ (.string s)) N g (.slice (some ⟨gc, 0, none⟩) n c) (.slice (some ⟨b, 0, none⟩) m d) (Ck.set y s) P) := HWa.out.drew.setC HCk.out s
        have HBz : Hid (Below N w (wa.drew.setCell ⟨gc, y, none⟩ (.string s))) := HBa.out.drew.setCell HWa.out.ltC _
        go_wp2_with fail
        go_region_held3 (fun X => X.cell? ⟨g, 0, none⟩ = some (.slice (some ⟨gc, 0, none⟩) n c) ∧ X.cell? ⟨wr.heap.size, 0, none⟩ = some (.int .i64 (y : Int)) ∧ X.cell? ⟨wr.heap.size, 1, none⟩ = some (.string s)) (first | exact ⟨d0, d1, d2⟩ | exact ⟨cell_set1 d0 hngg, cell_set1 d1 hngc, cell_set1 d2 hngc⟩) (fail)
        clear d0 d1 d2 x0 y0 hx1 hx2
        go_wp2_with fail
        go_roundw
        case rel => exact ⟨k + 1, _, by omega, by go_num, by rw [List.length_set]; exact HCk.out, HLa2.out, HZ.out, HBz.out, by show (wa.setCell ⟨gc, y, none⟩ (.string s)).cell? ⟨kb, 0, none⟩ = _; rw [World.cell?_setCell_other _ _ _ _ (by intro e; cases e; exact HKu.out rfl)]; exact hcw.out, by have := hkz.out; simpa [World.setCell, World.drew] using this⟩
        case measure => simp [intOf]; omega
      | false =>
        have HLa2 : Hid (landL (keepL K) (P.drop (k + 1)) (k + 1) Ck = landL (keepL K) P 0 C) := by
          have h := HLa1.out
          rw [if_neg (by decide)] at h
          exact h.symm
        clear hx1 hx2
        go_wp2_with fail
        go_roundw
        case rel => exact ⟨k + 1, _, by omega, by go_num, HCk.out, HLa2.out, HWa.out, HBa.out, hcw.out, hkz.out⟩
        case measure => simp [intOf]; omega
    · have HWf := HWr.out
      have HLf : Hid (landL (keepL K) P 0 C = Ck) := by
        show _ = _
        rw [← HLa.out, List.drop_of_length_le (by rw [hm.out]; omega)]; rfl
      have f1 := HWf.bx.f1
      have e1 := HWf.bx.c1
      go_wp2_with fail
      go_end0
      exact ⟨⟨rfl, by rw [HLf.out]; exact HWf.nilP⟩, HB.out.setCell (by exact hNg) _⟩
end Go.Proofs.Ytdhjadgmdmdnjaa
