/- What disk.Make answers. -/
import Derived.Test.YtdhjadgmdmdnjaaDiskOpsWalks
namespace Go.Proofs.Ytdhjadgmdmdnjaa
open Go.RowKit

set_option maxRecDepth 20000 in
set_option maxHeartbeats 800000 in
theorem dmake_no (n : Int) (w : World) (hn : n < 1 ∨ 128 < n) :
    Calls Try.prog 28 #[.int .i64 n] w fun e w' => e = .returned (.tuple #[.agg #[.slice none 0 0, .slice none 0 0], .int .i64 1]) ∧ Below w.heap.size w w' := by
  have hR0 := Hid.mk' (box2_new w (.slice none 0 0) (.slice none 0 0) 25)
  have hB0 : Hid (Below w.heap.size w (w.alloc (.cells #[.slice none 0 0, .slice none 0 0] 25))) := (Below.refl _ _).alloc (Nat.le_refl _) _
  by_cases h1 : n < 1
  · have t1 : decide (n < 1) = true := decide_eq_true h1
    clear hn
    go_enter Try.func28, Try.ntmps28
    go_wp2_with fail
    refine bodyPost_ret (results_disk2 rfl _ _ w.heap.size _ _ _ rfl rfl hR0.out) rfl ⟨rfl, hB0.out⟩
  · have t1 : decide (n < 1) = false := decide_eq_false h1
    have h2 : 128 < n := by omega
    clear hn
    go_enter Try.func28, Try.ntmps28
    go_wp2_with fail
    refine bodyPost_ret (results_disk2 rfl _ _ w.heap.size _ _ _ rfl rfl hR0.out) rfl ⟨rfl, hB0.out⟩
set_option maxRecDepth 20000 in
set_option maxHeartbeats 800000 in
theorem dmake_yes (n : Nat) (w : World) (h1 : 1 ≤ n) (h2 : n ≤ 128) :
    Calls Try.prog 28 #[.int .i64 (n : Int)] w fun e w' => (∃ u, e = .returned (.tuple #[.agg #[u, .slice none 0 0], .int .i64 0]) ∧ OwnDk w' w.heap.size u (.slice none 0 0) (List.replicate n ⟨#[]⟩) []) ∧ Below w.heap.size w w' := by
  have mk1 := make_strs n (by omega)
  have ms1 := Hid.mk' (made_strs n)
  generalize madeCells #[.string ⟨#[]⟩] n = MC at *
  have t1 : decide ((n : Int) < 1) = false := decide_eq_false (by omega)
  go_enter Try.func28, Try.ntmps28
  go_wp2_with fail
  obtain ⟨W, hW⟩ : ∃ W, w.alloc (.cells #[.slice (some ⟨w.heap.size + 1, 0, none⟩) n n, .slice none 0 0] 25) = W := ⟨_, rfl⟩
  have hs : W.heap.size = w.heap.size + 1 := by rw [← hW]; simp
  have hX : Box2 W w.heap.size (.slice (some ⟨w.heap.size + 1, 0, none⟩) n n) (.slice none 0 0) := by rw [← hW]; exact box2_new w _ _ _
  have hB : Below w.heap.size w W := by rw [← hW]; exact (Below.refl _ _).alloc (Nat.le_refl _) _
  have hrow : (W.alloc (.cells MC 9)).ownsRow w.heap.size 9 1 (.slice (some ⟨w.heap.size + 1, 0, none⟩) n n) n (stC (List.replicate n ⟨#[]⟩)) := by
    refine row_of_block (Nat.le_succ _) (by rw [← hs]; exact heap_alloc_new W _) (by unfold maxLen; omega) ?_ ms1.out
    rw [← Array.length_toList, ms1.out, stC_length, List.length_replicate, Nat.mul_one]
  rw [hW]
  refine bodyPost_ret (results_disk2 rfl _ _ w.heap.size _ _ _ rfl rfl (hX.alloc _)) rfl ⟨⟨_, rfl, ⟨by rw [List.length_replicate]; exact hrow, World.ownsRow_nil _ _ _ _, apart_nil _⟩⟩, hB.alloc (by omega) _⟩
end Go.Proofs.Ytdhjadgmdmdnjaa
