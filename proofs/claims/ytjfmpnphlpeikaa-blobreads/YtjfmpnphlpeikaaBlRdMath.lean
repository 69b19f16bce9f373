/- Blobs, read out of a text. No Go in sight. -/
import Derived.Test.YtjfmpnphlpeikaaBlMath
namespace Go.Proofs.Ytjfmpnphlpeikaa

/-- the blob that a text begins with, as it is read -/
def rawB (a b c : UInt8) (r : List UInt8) : Blb := ⟨(a.toNat : Int), (b.toNat : Int), (c.toNat : Int), ⟨((r.drop (getK r)).take (getA r)).toArray⟩⟩
def rd1 : List UInt8 → Option (Blb × List UInt8)
  | a :: b :: c :: r => if getE r = 0 ∧ getA r ≤ r.length - getK r then (if chkB (rawB a b c r) = 0 then some (rawB a b c r, r.drop (getK r + getA r)) else none) else none
  | _ => none
def rdN : Nat → List UInt8 → Option (List Blb)
  | 0, t => if t = [] then some [] else none
  | n + 1, t => match rd1 t with
    | none => none
    | some (b, r) => (rdN n r).map (b :: ·)
/-- what Read answers -/
def readB (s : List UInt8) : Option (List Blb × Bool) := match s with
  | z :: n :: r => if s.length ≤ 1000 ∧ z.toNat ≤ 1 ∧ n.toNat ≤ 40 then (rdN n.toNat r).map (fun l => (l, z == 1)) else none
  | _ => none
theorem ofNat_int {x : Int} (h0 : 0 ≤ x) (h : x ≤ 255) : ((UInt8.ofNat x.toNat).toNat : Int) = x := by
  rw [UInt8.toNat_ofNat']; omega
theorem raw_one {b : Blb} (h : chkB b = 0) (m : List UInt8) : rawB (UInt8.ofNat b.kd.toNat) (UInt8.ofNat b.io.toNat) (UInt8.ofNat b.nt.toNat) (putB b.tx.size ++ (b.tx.data.toList ++ m)) = b := by
  have hok := chkB_ok h
  have hg := get_put b.tx.size (by have := hok.tz; omega) (b.tx.data.toList ++ m)
  unfold rawB
  rw [hg.2.1, hg.2.2, ofNat_int (by have := hok.k1; omega) (by have := hok.k3; omega), ofNat_int hok.i0 (by have := hok.i1; omega), ofNat_int hok.n0 (by have := hok.n1; omega)]
  have hl : b.tx.data.toList.length = b.tx.size := by rw [Array.length_toList]; rfl
  rw [List.drop_left, ← hl, List.take_left]
theorem rd1_one {b : Blb} (h : chkB b = 0) (m : List UInt8) : rd1 (oneL b ++ m) = some (b, m) := by
  have hok := chkB_ok h
  have hl : b.tx.data.toList.length = b.tx.size := by rw [Array.length_toList]; rfl
  have hg := get_put b.tx.size (by have := hok.tz; omega) (b.tx.data.toList ++ m)
  have e : oneL b ++ m = UInt8.ofNat b.kd.toNat :: UInt8.ofNat b.io.toNat :: UInt8.ofNat b.nt.toNat :: (putB b.tx.size ++ (b.tx.data.toList ++ m)) := by
    unfold oneL hedL; simp
  rw [e, rd1]
  rw [raw_one h m, hg.1, hg.2.1, hg.2.2, if_pos ⟨rfl, by rw [List.length_append, List.length_append, hl]; omega⟩, if_pos h, ← List.drop_drop, List.drop_left, ← hl, List.drop_left]
theorem rd1_inv {t : List UInt8} {b : Blb} {r : List UInt8} (h : rd1 t = some (b, r)) : t = oneL b ++ r ∧ chkB b = 0 := by
  match t, h with
  | x :: y :: z :: q, h =>
    rw [rd1] at h
    by_cases hg : getE q = 0 ∧ getA q ≤ q.length - getK q
    · rw [if_pos hg] at h
      by_cases hc : chkB (rawB x y z q) = 0
      · rw [if_pos hc] at h
        simp only [Option.some.injEq, Prod.mk.injEq] at h
        obtain ⟨hb, hr⟩ := h
        have hp := put_get q hg.1
        have hk : getK q ≤ q.length := hp.2.1
        refine ⟨?_, by rw [← hb]; exact hc⟩
        have htl : ((q.drop (getK q)).take (getA q)).length = getA q := by rw [List.length_take, List.length_drop]; omega
        have hsz : (rawB x y z q).tx.size = getA q := by show ((q.drop (getK q)).take (getA q)).length = _; exact htl
        have e1 : oneL (rawB x y z q) = x :: y :: z :: (q.take (getK q) ++ (q.drop (getK q)).take (getA q)) := by
          unfold oneL hedL
          rw [hsz, hp.2.2.2]
          have ex : ∀ u : UInt8, UInt8.ofNat ((u.toNat : Int)).toNat = u := fun u => by rw [Int.toNat_natCast, UInt8.ofNat_toNat]
          have h1 : (rawB x y z q).kd = (x.toNat : Int) := rfl
          have h2 : (rawB x y z q).io = (y.toNat : Int) := rfl
          have h3 : (rawB x y z q).nt = (z.toNat : Int) := rfl
          have h4 : (rawB x y z q).tx.data.toList = (q.drop (getK q)).take (getA q) := rfl
          rw [h1, h2, h3, h4, ex, ex, ex]
          rfl
        rw [← hb, e1, ← hr]
        have e2 : q = q.take (getK q) ++ ((q.drop (getK q)).take (getA q) ++ q.drop (getK q + getA q)) := by
          rw [← List.drop_drop, List.take_append_drop, List.take_append_drop]
        simp only [List.cons_append, List.append_assoc]
        rw [← e2]
      · rw [if_neg hc] at h; cases h
    · rw [if_neg hg] at h; cases h
theorem rdN_bod (l : List Blb) (h : ∀ b ∈ l, chkB b = 0) : rdN l.length (bodL l) = some l := by
  induction l with
  | nil => rfl
  | cons b r ih =>
    rw [List.length_cons, rdN, bodL_cons, rd1_one (h b (by simp))]
    simp only
    rw [ih fun x hx => h x (by simp [hx])]
    rfl
theorem rdN_inv (n : Nat) : ∀ {t : List UInt8} {l : List Blb}, rdN n t = some l → t = bodL l ∧ l.length = n ∧ ∀ b ∈ l, chkB b = 0 := by
  induction n with
  | zero =>
    intro t l h
    unfold rdN at h
    split at h
    · cases h
      exact ⟨by simpa [bodL], rfl, fun b hb => by simp at hb⟩
    · cases h
  | succ n ih =>
    intro t l h
    unfold rdN at h
    split at h
    · cases h
    · rename_i b r he
      obtain ⟨l', hl, rfl⟩ := Option.map_eq_some_iff.1 h
      obtain ⟨h1, h2, h3⟩ := ih hl
      obtain ⟨h4, h5⟩ := rd1_inv he
      refine ⟨by rw [bodL_cons, ← h1]; exact h4, by rw [List.length_cons, h2], fun x hx => ?_⟩
      rcases List.mem_cons.1 hx with rfl | hx
      · exact h5
      · exact h3 x hx
theorem txB_len (l : List Blb) (b : Bool) : (txB l b).length = (bodL l).length + 2 := by unfold txB; simp
/-- what is written is read as it was -/
theorem read_back {l : List Blb} {last : Bool} (h : wrB l = 0) : readB (txB l last) = some (l, last) := by
  obtain ⟨h1, h2, h3⟩ := wrB_ok h
  have hn : (UInt8.ofNat l.length).toNat = l.length := by rw [UInt8.toNat_ofNat']; omega
  have hlen := txB_len l last
  unfold readB txB
  simp only
  rw [hn, if_pos ⟨by unfold txB at hlen; omega, by cases last <;> decide, h1⟩, rdN_bod l (chkL_all h2)]
  cases last <;> rfl
/-- what is read is written as just that text -/
theorem read_inv {s : List UInt8} {l : List Blb} {last : Bool} (h : readB s = some (l, last)) : wrB l = 0 ∧ s = txB l last := by
  match s, h with
  | z :: n :: r, h =>
    unfold readB at h
    simp only at h
    split at h
    · rename_i hc
      obtain ⟨l', hl, he⟩ := Option.map_eq_some_iff.1 h
      simp only [Prod.mk.injEq] at he
      obtain ⟨rfl, rfl⟩ := he
      obtain ⟨h1, h2, h3⟩ := rdN_inv _ hl
      have hl1 := hc.1
      rw [List.length_cons, List.length_cons, h1] at hl1
      refine ⟨wrB_of (by omega) (chkL_of h3) (by omega), ?_⟩
      unfold txB
      rw [← h1, h2, UInt8.ofNat_toNat]
      congr 1
      have hz : z = 0 ∨ z = 1 := by
        have := hc.2.1
        rcases (by omega : z.toNat = 0 ∨ z.toNat = 1) with h | h
        · exact .inl (UInt8.toNat_inj.1 h)
        · exact .inr (UInt8.toNat_inj.1 h)
      rcases hz with rfl | rfl <;> rfl
    · cases h
theorem read_none {s : List UInt8} (h : readB s = none) {l : List Blb} {b : Bool} (hw : wrB l = 0) : txB l b ≠ s := by
  rintro rfl
  rw [read_back hw] at h; cases h
theorem rdN_more (l : List Blb) (h : ∀ b ∈ l, chkB b = 0) (m : List UInt8) : rdN l.length (bodL l ++ m) = if m = [] then some l else none := by
  induction l with
  | nil => show rdN 0 m = _; unfold rdN; rfl
  | cons b r ih =>
    rw [List.length_cons, rdN, bodL_cons, List.append_assoc, rd1_one (h b (by simp))]
    simp only
    rw [ih fun x hx => h x (by simp [hx])]
    by_cases hm : m = []
    · rw [if_pos hm, if_pos hm]; rfl
    · rw [if_neg hm, if_neg hm]; rfl
/-- more behind what is read is not read -/
theorem read_more {s : List UInt8} {l : List Blb} {last : Bool} (h : readB s = some (l, last)) {m : List UInt8} (hm : m ≠ []) : readB (s ++ m) = none := by
  obtain ⟨hw, rfl⟩ := read_inv h
  obtain ⟨h1, h2, h3⟩ := wrB_ok hw
  have hn : (UInt8.ofNat l.length).toNat = l.length := by rw [UInt8.toNat_ofNat']; omega
  have e : txB l last ++ m = (if last then 1 else 0) :: UInt8.ofNat l.length :: (bodL l ++ m) := rfl
  rw [e]
  unfold readB
  simp only
  rw [hn, rdN_more l (chkL_all h2), if_neg hm]
  simp
end Go.Proofs.Ytjfmpnphlpeikaa
