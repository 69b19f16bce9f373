/- Texts of ours, one behind the other: SignMath WeaveMath -/
import Derived.Test.YtcalbicfnhoklaaDoorMsad
import Derived.Lib.BitFns

/- Signs of marks. No Go in sight. -/
namespace Go.Proofs.YtcalbicfnhoklaaDoor

/-- a number's highest bit -/
def lgN (x : Nat) : Nat := Lib.bitLen x - 1
theorem lg_is : ∀ x : Fin 512, 0 < x.val → Lib.bitLen x.val = lgN x.val + 1 ∧ 2 ^ lgN x.val ≤ x.val ∧ x.val - 2 ^ lgN x.val < 2 ^ lgN x.val ∧ lgN x.val < 9 := by decide +kernel
/-- a mark's sign -/
def sgnM (m : Mk) : Nat := if m.ln = 0 then m.by' else (m.ln + 253).toNat
/-- copies' signs of their distances -/
def lgsM (l : List Mk) : List Nat := (l.filter fun m => decide (m.ln ≠ 0)).map fun m => lgN m.ds.toNat
/-- marks that are found -/
def MkFd (m : Mk) : Prop := (m.ln = 0 ∧ m.ds = 0 ∧ m.by' < 256) ∨ (3 ≤ m.ln ∧ m.ln ≤ 66 ∧ 1 ≤ m.ds ∧ m.ds ≤ 511 ∧ m.by' = 0)
theorem lgsM_snoc (l : List Mk) (m : Mk) : lgsM (l ++ [m]) = lgsM l ++ (if m.ln = 0 then [] else [lgN m.ds.toNat]) := by
  unfold lgsM
  rw [List.filter_append, List.map_append]
  congr 1
  by_cases h : m.ln = 0 <;> simp [h]
theorem lgsM_len (l : List Mk) : (lgsM l).length ≤ l.length := by
  unfold lgsM; rw [List.length_map]; exact List.length_filter_le _ _

end Go.Proofs.YtcalbicfnhoklaaDoor

/- The pieces of a cluster's marks, one behind the other, and what is read of them. No Go in sight. -/
namespace Go.Proofs.YtcalbicfnhoklaaDoor

/-- the pieces of a mark: of its sign, of its distance's sign, of what that leaves open -/
def pieL (L1 L2 : Nat → Int) (m : Mk) : List (Nat × Nat) :=
  (rv (codeN L1 320 (sgnM m)) (L1 (sgnM m)).toNat, (L1 (sgnM m)).toNat) ::
    (if m.ln = 0 then [] else [(rv (codeN L2 9 (lgN m.ds.toNat)) (L2 (lgN m.ds.toNat)).toNat, (L2 (lgN m.ds.toNat)).toNat), (m.ds.toNat - 2 ^ lgN m.ds.toNat, lgN m.ds.toNat)])
def pieA (L1 L2 : Nat → Int) (ms : List Mk) : List (Nat × Nat) := ms.flatMap (pieL L1 L2)
def pV (P : List (Nat × Nat)) (i : Nat) : Nat := (P.getD i (0, 0)).1
def pW (P : List (Nat × Nat)) (i : Nat) : Int := ((P.getD i (0, 0)).2 : Nat)
theorem pieA_snoc (L1 L2 : Nat → Int) (ms : List Mk) (m : Mk) : pieA L1 L2 (ms ++ [m]) = pieA L1 L2 ms ++ pieL L1 L2 m := by simp [pieA]
/-- codes that have the marks' signs -/
structure HasS (L1 L2 : Nat → Int) (m : Mk) : Prop where
  fd : MkFd m
  s1 : 0 < L1 (sgnM m)
  s2 : m.ln ≠ 0 → 0 < L2 (lgN m.ds.toNat)
theorem sgnM_lt {m : Mk} (h : MkFd m) : sgnM m < 320 ∧ (sgnM m < 256 ↔ m.ln = 0) := by
  unfold sgnM
  rcases h with ⟨h1, _, h3⟩ | ⟨h1, h2, _⟩
  · rw [if_pos h1]; exact ⟨by omega, ⟨fun _ => h1, fun _ => h3⟩⟩
  · rw [if_neg (by omega)]
    refine ⟨by omega, ⟨fun h => ?_, fun h => by omega⟩⟩
    omega
theorem getD_app {α : Type} (A B C : List α) (d : α) (j : Nat) (h : j < B.length) : (A ++ (B ++ C)).getD (A.length + j) d = B.getD j d := by
  rw [List.getD_eq_getElem?_getD, List.getD_eq_getElem?_getD, List.getElem?_append_right (by omega), Nat.add_sub_cancel_left, List.getElem?_append_left h]
theorem err_small (v y : Nat) (hy : y ≤ 64) (hv : v < 2 ^ y) : errP v ((y : Nat) : Int) = 0 := errP_ok v _ (by omega) (by rw [Int.toNat_natCast]; exact Nat.div_eq_of_lt hv)
theorem lg_of {m : Mk} (h : MkFd m) (hn : m.ln ≠ 0) : 2 ^ lgN m.ds.toNat ≤ m.ds.toNat ∧ m.ds.toNat - 2 ^ lgN m.ds.toNat < 2 ^ lgN m.ds.toNat ∧ lgN m.ds.toNat < 9 := by
  rcases h with ⟨h1, _⟩ | ⟨_, _, h3, h4, _⟩
  · exact absurd h1 hn
  · have := lg_is ⟨m.ds.toNat, by omega⟩ (by show 0 < m.ds.toNat; omega)
    exact ⟨this.2.1, this.2.2.1, this.2.2.2⟩
/-- every piece can be packed -/
theorem pie_err {L1 L2 : Nat → Int} (h1 : canE L1 320 = 0) (h2 : canE L2 9 = 0) {ms : List Mk} (hm : ∀ m ∈ ms, HasS L1 L2 m) : ∀ p ∈ pieA L1 L2 ms, errP p.1 ((p.2 : Nat) : Int) = 0 ∧ p.2 ≤ 15 := by
  intro p hp
  obtain ⟨m, hmm, hpm⟩ := List.mem_flatMap.1 hp
  have hh := hm m hmm
  obtain ⟨_, g1, _, _⟩ := canE_ok h1
  obtain ⟨_, g2, _, _⟩ := canE_ok h2
  have l1 := len_of (g1 _ (sgnM_lt hh.fd).1)
  unfold pieL at hpm
  rcases List.mem_cons.1 hpm with rfl | hpm
  · exact ⟨err_small _ _ (by omega) (rv_lt _ _), by show (L1 (sgnM m)).toNat ≤ 15; omega⟩
  · by_cases hn : m.ln = 0
    · rw [if_pos hn] at hpm; simp at hpm
    · rw [if_neg hn] at hpm
      obtain ⟨q1, q2, q3⟩ := lg_of hh.fd hn
      have l2 := len_of (g2 _ q3)
      simp only [List.mem_cons, List.not_mem_nil, or_false] at hpm
      rcases hpm with rfl | rfl
      · exact ⟨err_small _ _ (by omega) (rv_lt _ _), by show (L2 (lgN m.ds.toNat)).toNat ≤ 15; omega⟩
      · exact ⟨err_small _ _ (by omega) q2, by show lgN m.ds.toNat ≤ 15; omega⟩
theorem pie_errI {L1 L2 : Nat → Int} (h1 : canE L1 320 = 0) (h2 : canE L2 9 = 0) {ms : List Mk} (hm : ∀ m ∈ ms, HasS L1 L2 m) (i : Nat) (hi : i < (pieA L1 L2 ms).length) : errP (pV (pieA L1 L2 ms) i) (pW (pieA L1 L2 ms) i) = 0 ∧ pW (pieA L1 L2 ms) i ≤ 15 ∧ 0 ≤ pW (pieA L1 L2 ms) i := by
  have hg : (pieA L1 L2 ms).getD i (0, 0) = (pieA L1 L2 ms)[i] := by rw [List.getD_eq_getElem?_getD, List.getElem?_eq_getElem hi]; rfl
  have := pie_err h1 h2 hm _ (List.getElem_mem hi)
  unfold pV pW
  rw [hg]
  exact ⟨this.1, by omega, by omega⟩
theorem wid_15 (P : List (Nat × Nat)) (k : Nat) (h : ∀ i, i < k → pW P i ≤ 15) : widSum (pW P) k ≤ 15 * k := by
  induction k with
  | zero => simp [widSum]
  | succ k ih =>
    have h1 := ih fun i hi => h i (by omega)
    have h2 := h k (by omega)
    rw [widSum]; omega
theorem txt_bytes (X n : Nat) (h : X < 2 ^ (8 * n)) : txtN (bytesOf X n) = X := by
  apply Nat.eq_of_testBit_eq
  intro t
  obtain ⟨q, r, hr, hqr⟩ : ∃ q r, r < 8 ∧ t = 8 * q + r := ⟨t / 8, t % 8, by omega, by omega⟩
  rw [hqr, txtN_bit _ _ _ hr]
  by_cases hq : q < n
  · rw [bytesOf_getD _ _ _ hq, byte_bit _ _ _ hr]
  · rw [List.getD_eq_getElem?_getD, List.getElem?_eq_none (by rw [bytesOf_length]; omega)]
    have : X < 2 ^ (8 * q + r) := Nat.lt_of_lt_of_le h (Nat.pow_le_pow_right (by decide) (by omega))
    rw [Nat.testBit_lt_two_pow this]
    simp
/-- a sign that is written is read -/
theorem stp_back {L : Nat → Int} {len : Nat} (h : canE L len = 0) (s : ByteArray) (a i y : Nat) (hi : i < len) (hy : L i = (y : Int)) (h0 : 0 < y) (hg : getN (txtN s.data.toList) a y = rv (codeN L len i) y) (hs : a + y ≤ 8 * s.size) : stpS L len s a = (i, y, 0) := by
  obtain ⟨h320, hgd, hF, _⟩ := canE_ok h
  have h15 := len_of (hgd i hi)
  unfold stpS
  refine sgn_code hgd _ _ i y hi hy h0 (by omega) ?_ 16 0 (Nat.zero_le _) (by omega)
  unfold getN at hg
  rw [rv_mod, hg, rv_rv]
  exact Nat.mod_eq_of_lt (code_lt hF i y hi hy h0 (by omega))
theorem widSum_at (P : List (Nat × Nat)) (k : Nat) (q : Nat × Nat) (h : P.getD k (0, 0) = q) : widSum (pW P) (k + 1) = widSum (pW P) k + q.2 := by
  rw [widSum]
  unfold pW
  rw [h, Int.toNat_natCast]
theorem read_marks {L1 L2 : Nat → Int} (h1 : canE L1 320 = 0) (h2 : canE L2 9 = 0) {ms : List Mk} (hm : ∀ m ∈ ms, HasS L1 L2 m) (s : ByteArray)
    (hs : s.data.toList = bytesOf (packN (pV (pieA L1 L2 ms)) (pW (pieA L1 L2 ms)) (pieA L1 L2 ms).length) ((widSum (pW (pieA L1 L2 ms)) (pieA L1 L2 ms).length + 7) / 8)) :
    ∀ k, k ≤ ms.length → mkS L1 L2 s 0 k = some (ms.take k, widSum (pW (pieA L1 L2 ms)) (pieA L1 L2 (ms.take k)).length) := by
  obtain ⟨P, hP⟩ : ∃ P, pieA L1 L2 ms = P := ⟨_, rfl⟩
  have herr : ∀ i, i < P.length → errP (pV P i) (pW P i) = 0 := fun i hi => by rw [← hP] at hi ⊢; exact (pie_errI h1 h2 hm i hi).1
  rw [hP] at hs ⊢
  have hsz : s.size = (widSum (pW P) P.length + 7) / 8 := by
    have e : s.data.toList.length = s.size := by simp
    rw [hs, bytesOf_length] at e; exact e.symm
  have hget : ∀ i, i < P.length → getN (txtN s.data.toList) (widSum (pW P) i) (pW P i).toNat = pV P i := fun i hi => by
    have := back_get (pV P) (pW P) P.length i [] herr hi
    rwa [List.append_nil, ← hs] at this
  have hend : ∀ i, i < P.length → widSum (pW P) (i + 1) ≤ 8 * s.size := fun i hi => by
    have := widSum_mono (pW P) (i + 1) (P.length - (i + 1))
    rw [show i + 1 + (P.length - (i + 1)) = P.length by omega] at this
    omega
  intro k
  induction k with
  | zero => intro _; simp [mkS, pieA, widSum]
  | succ k ih =>
    intro hk
    have hi := ih (by omega)
    obtain ⟨m, hmk⟩ : ∃ m, ms[k] = m := ⟨_, rfl⟩
    have htk : ms.take (k + 1) = ms.take k ++ [m] := by rw [List.take_succ_eq_append_getElem (by omega), hmk]
    have hhs := hm m (by rw [← hmk]; exact List.getElem_mem _)
    have hsplit : P = pieA L1 L2 (ms.take k) ++ (pieL L1 L2 m ++ pieA L1 L2 (ms.drop (k + 1))) := by
      rw [← hP, ← List.append_assoc, ← pieA_snoc, ← htk]
      unfold pieA
      rw [← List.flatMap_append, List.take_append_drop]
    have hgd : ∀ j, j < (pieL L1 L2 m).length → P.getD ((pieA L1 L2 (ms.take k)).length + j) (0, 0) = (pieL L1 L2 m).getD j (0, 0) := fun j hj => by
      conv => lhs; rw [hsplit]
      exact getD_app _ _ _ _ j hj
    have hlen : (pieA L1 L2 (ms.take k)).length + (pieL L1 L2 m).length ≤ P.length := by
      have := congrArg List.length hsplit
      simp only [List.length_append] at this
      omega
    rw [htk, pieA_snoc, List.length_append]
    obtain ⟨A, hA⟩ : ∃ A, (pieA L1 L2 (ms.take k)).length = A := ⟨_, rfl⟩
    rw [hA] at hi hgd hlen ⊢
    refine mkS_step hi ?_
    obtain ⟨hs320, hs256⟩ := sgnM_lt hhs.fd
    obtain ⟨_, g1, _, _⟩ := canE_ok h1
    obtain ⟨_, g2, _, _⟩ := canE_ok h2
    have l1 := len_of (g1 _ hs320)
    have s1 := hhs.s1
    have e0 : P.getD A (0, 0) = (rv (codeN L1 320 (sgnM m)) (L1 (sgnM m)).toNat, (L1 (sgnM m)).toNat) := hgd 0 (by unfold pieL; simp)
    have w0 := widSum_at P A _ e0
    have n0 : A < P.length := by have : 0 < (pieL L1 L2 m).length := by unfold pieL; simp
                                 omega
    have q0 := hget A n0
    have b0 := hend A n0
    unfold pV pW at q0
    rw [e0, Int.toNat_natCast] at q0
    simp only at q0 w0
    rw [w0] at b0
    have st1 := stp_back h1 s (widSum (pW P) A) (sgnM m) (L1 (sgnM m)).toNat hs320 (by omega) (by omega) q0 b0
    by_cases hn : m.ln = 0
    · have hpl : (pieL L1 L2 m).length = 1 := by unfold pieL; rw [if_pos hn]; rfl
      rw [hpl, w0, mk1_byte st1 (hs256.2 hn)]
      rcases hhs.fd with ⟨f1, f2, _⟩ | ⟨f1, _⟩
      · have : m = ⟨0, 0, sgnM m⟩ := by
          unfold sgnM
          rw [if_pos hn]
          cases m
          simp_all
        rw [← this]
      · omega
    · have hpl : (pieL L1 L2 m).length = 3 := by unfold pieL; rw [if_neg hn]; rfl
      rw [hpl] at hlen hgd ⊢
      obtain ⟨r1, r2, r3⟩ := lg_of hhs.fd hn
      have l2 := len_of (g2 _ r3)
      have s2 := hhs.s2 hn
      have e1 : P.getD (A + 1) (0, 0) = (rv (codeN L2 9 (lgN m.ds.toNat)) (L2 (lgN m.ds.toNat)).toNat, (L2 (lgN m.ds.toNat)).toNat) := by
        rw [hgd 1 (by omega)]; unfold pieL; rw [if_neg hn]; rfl
      have e2 : P.getD (A + 2) (0, 0) = (m.ds.toNat - 2 ^ lgN m.ds.toNat, lgN m.ds.toNat) := by
        rw [hgd 2 (by omega)]; unfold pieL; rw [if_neg hn]; rfl
      have w1 := widSum_at P (A + 1) _ e1
      have w2 := widSum_at P (A + 2) _ e2
      have q1 := hget (A + 1) (by omega)
      have q2 := hget (A + 2) (by omega)
      have b1 := hend (A + 1) (by omega)
      have b2 := hend (A + 2) (by omega)
      unfold pV pW at q1 q2
      rw [e1, Int.toNat_natCast] at q1
      rw [e2, Int.toNat_natCast] at q2
      simp only at q1 q2 w1 w2
      rw [show A + 2 + 1 = A + 3 by omega] at w2 b2
      rw [show A + 1 + 1 = A + 2 by omega] at w1 b1
      change getN _ (widSum (pW P) (A + 1)) _ = _ at q1
      change getN _ (widSum (pW P) (A + 2)) _ = _ at q2
      rw [w0] at w1 q1
      rw [w1] at w2 q2 b1
      rw [w2] at b2
      have st2 := stp_back h2 s _ (lgN m.ds.toNat) (L2 (lgN m.ds.toNat)).toNat r3 (by omega) (by omega) q1 b1
      rw [w2, mk1_copy st1 (fun h => hn (hs256.1 h)) st2 b2, q2]
      rcases hhs.fd with ⟨f1, _⟩ | ⟨f1, f2, f3, f4, f5⟩
      · exact absurd f1 hn
      · have : m = ⟨((sgnM m - 253 : Nat) : Int), ((2 ^ lgN m.ds.toNat + (m.ds.toNat - 2 ^ lgN m.ds.toNat) : Nat) : Int), 0⟩ := by
          have a1 : ((sgnM m - 253 : Nat) : Int) = m.ln := by unfold sgnM; rw [if_neg hn]; omega
          have a2 : ((2 ^ lgN m.ds.toNat + (m.ds.toNat - 2 ^ lgN m.ds.toNat) : Nat) : Int) = m.ds := by
            rw [Nat.add_sub_cancel' r1]; omega
          rw [a1, a2, ← f5]
        rw [← this]
/-- nothing but noughts is left of the last byte -/
theorem read_end {L1 L2 : Nat → Int} (h1 : canE L1 320 = 0) (h2 : canE L2 9 = 0) {ms : List Mk} (hm : ∀ m ∈ ms, HasS L1 L2 m) (s : ByteArray)
    (hs : s.data.toList = bytesOf (packN (pV (pieA L1 L2 ms)) (pW (pieA L1 L2 ms)) (pieA L1 L2 ms).length) ((widSum (pW (pieA L1 L2 ms)) (pieA L1 L2 ms).length + 7) / 8)) :
    endB s (widSum (pW (pieA L1 L2 ms)) (pieA L1 L2 ms).length) = true := by
  have herr : ∀ i, i < (pieA L1 L2 ms).length → errP (pV (pieA L1 L2 ms) i) (pW (pieA L1 L2 ms) i) = 0 := fun i hi => (pie_errI h1 h2 hm i hi).1
  generalize pieA L1 L2 ms = P at hs herr ⊢
  have hsz : s.size = (widSum (pW P) P.length + 7) / 8 := by
    have e : s.data.toList.length = s.size := by simp
    rw [hs, bytesOf_length] at e; exact e.symm
  have hlt := packN_lt (pV P) (pW P) P.length herr
  unfold endB
  refine decide_eq_true ⟨by omega, ?_⟩
  rw [hs, txt_bytes _ _ (Nat.lt_of_lt_of_le hlt (Nat.pow_le_pow_right (by decide) (by omega)))]
  exact Nat.div_eq_of_lt hlt
end Go.Proofs.YtcalbicfnhoklaaDoor
