/- What linenkeep.Burst answers. -/
import Derived.Test.YtbhobflnaogomaaDoorBurstWalks
namespace Go.Proofs.YtbhobflnaogomaaDoor
open Go.RowKit

/-- what Burst answers: of the same length, and by the sum told from s unless it is s -/
theorem burst_any (s : ByteArray) (v : Int) (u : BitVec 32) (w : World) (h1 : -9223372036854775808 ≤ v) (h2 : v ≤ 9223372036854775807) (hs : s.size ≤ 140737488355328) :
    Calls Tryd.prog 12 #[.string s, .int .i64 v, .int .u32 (B u)] w fun e w' => (∃ t : ByteArray, e = .returned (.string t) ∧ t.size = s.size ∧ (sumC s.data.toList = sumC t.data.toList ↔ s = t)) ∧ Below w.heap.size w w' := by
  rcases Nat.lt_or_ge s.size 5 with h | h
  · exact (burst_short s v u w h).mono fun e w' ⟨he, hw⟩ => ⟨⟨s, he, rfl, by simp⟩, by rw [hw]; exact Below.refl _ _⟩
  · refine (burst_long s v u w h1 h2 h hs).mono fun e w' ⟨⟨t, m, he, hm, ht⟩, hb⟩ => ⟨⟨t, he, ?_, ?_⟩, hb⟩
    · have := congrArg List.length ht
      rw [bst_length] at this
      simpa using this
    · have hl : m / 8 + 5 ≤ s.data.toList.length := by simp; omega
      rw [ht, burst_tells _ u m hl, ← ht]
      exact ⟨bytes_ext, fun h => by rw [h]⟩

end Go.Proofs.YtbhobflnaogomaaDoor
