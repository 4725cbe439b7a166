/-
  PLAIN: the program's way of reading a state's edges comes to the same as the document's.
-/
import Derived.Test.YtjhopgfgfljcoaaDoorDvEdge
namespace Munch

theorem edgeV_take (r : List UInt8) : edgeV (r.take 10) = edgeV r := by
  have h0 : (r.take 10).getD 0 0 = r.getD 0 0 := by simp [List.getD_eq_getElem?_getD]
  have h5 : (r.take 10).getD 5 0 = r.getD 5 0 := by simp [List.getD_eq_getElem?_getD]
  have h1 : numV 16 0 ((r.take 10).drop 1) 2 = numV 16 0 (r.drop 1) 2 := by rw [List.drop_take, numV_take _ _ _ _ _ (by decide)]
  have h3 : numV 16 0 ((r.take 10).drop 3) 2 = numV 16 0 (r.drop 3) 2 := by rw [List.drop_take, numV_take _ _ _ _ _ (by decide)]
  have h6 : numV 10 0 ((r.take 10).drop 6) 4 = numV 10 0 (r.drop 6) 4 := by rw [List.drop_take, numV_take _ _ _ _ _ (by decide)]
  unfold edgeV
  rw [h0, h5, h1, h3, h6]

theorem edges_none (n : Int) (r : List UInt8) (last : Int) (acc : List Edge) (h0 : r ≠ []) (hl : -1 ≤ last) (h : edgeV r = none ∨ ∃ x, edgeV r = some x ∧ (x.1 ≤ last ∨ n ≤ x.2.2)) : edges n r last acc = none := by
  apply edges_bad _ _ _ _ h0
  by_cases hb : badEdge n r last = true
  · exact hb
  · exfalso
    have hb' : badEdge n r last = false := by simpa using hb
    unfold badEdge at hb'
    simp only [Bool.or_eq_false_iff, decide_eq_false_iff_not, Decidable.not_not] at hb'
    obtain ⟨⟨⟨⟨⟨q1, q2⟩, q3⟩, q4⟩, q5⟩, q6⟩ := hb'
    have hs : edgeV r = some (numV 16 0 (r.drop 1) 2, numV 16 0 (r.drop 3) 2, numV 10 0 (r.drop 6) 4) := by
      unfold edgeV; rw [if_pos ⟨q1, q6, by omega, by omega, by omega, by omega⟩]
    rw [hs] at h
    rcases h with h | ⟨x, hx, h⟩
    · cases h
    · cases hx; simp only at h; omega
theorem edges_some (n : Int) (r : List UInt8) (last : Int) (acc : List Edge) (x : Edge) (h0 : r ≠ []) (h : edgeV r = some x) (h1 : last < x.1) (h2 : x.2.2 < n) : edges n r last acc = edges n (r.drop 10) x.2.1 (acc ++ [x]) := by
  unfold edgeV at h
  split at h
  · rename_i hc
    cases h
    simp only at h1 h2
    rw [edges_good _ _ _ _ h0]
    unfold badEdge
    simp only [Bool.or_eq_false_iff, decide_eq_false_iff_not, Decidable.not_not]
    exact ⟨⟨⟨⟨⟨hc.1, by omega⟩, by omega⟩, by omega⟩, by omega⟩, hc.2.1⟩
  · cases h
theorem edgeV_range (r : List UInt8) (x : Edge) (h : edgeV r = some x) : 0 ≤ x.1 ∧ x.1 ≤ x.2.1 ∧ x.2.1 ≤ 255 ∧ 0 ≤ x.2.2 ∧ x.2.2 ≤ 65535 := by
  unfold edgeV at h
  split at h
  · rename_i hc
    cases h
    have := num2 (r.drop 3)
    have := num4 (r.drop 6)
    simp only
    omega
  · cases h

/-- A text of edges has ten signs for each. -/
theorem edges_mod (n : Int) : ∀ (k : Nat) (r : List UInt8) (last : Int) (acc E : List Edge), r.length ≤ k → edges n r last acc = some E → r.length % 10 = 0 := by
  intro k
  induction k with
  | zero => intro r last acc E hr h; omega
  | succ k ih =>
    intro r last acc E hr h
    cases r with
    | nil => rfl
    | cons c r' =>
      by_cases hb : badEdge n (c :: r') last = true
      · rw [edges_bad _ _ _ _ (by simp) hb] at h; cases h
      · have hb' : badEdge n (c :: r') last = false := by simpa using hb
        rw [edges_good _ _ _ _ (by simp) hb'] at h
        have h2 := ih _ _ _ _ (by simp at hr ⊢; omega) h
        unfold badEdge at hb'
        simp only [Bool.or_eq_false_iff, decide_eq_false_iff_not, Decidable.not_not] at hb'
        have h4 := numV_len 10 4 0 _ (by have := hb'.1.1.2; omega : 0 ≤ numV 10 0 ((c :: r').drop 6) 4)
        simp only [List.length_drop] at h2 h4
        omega
theorem stateV_mod (c : UInt8) (r : List UInt8) (n : Int) (h : r.length % 10 ≠ 0) : stateV (c :: r) n = none := by
  cases he : edges n r (-1) [] with
  | none => simp [stateV, he]
  | some E => exact absurd (edges_mod n _ r _ _ _ (Nat.le_refl _) he) h
end Munch
