/-
  PLAIN: what munchref's CheckTable, step, Walk compute.
-/
import Derived.Test.YtjhopgfgfljcoaaDoorTabSpec
namespace Munch

def checkTableV (t : List UInt8) : Int × Int :=
  if 200000 < t.length then (1, 0) else match tableV t with
    | .error i => (5, (i : Int))
    | .ok _ => (0, 0)

theorem checkTableV_long (t : List UInt8) (h : 200000 < t.length) : checkTableV t = (1, 0) := by unfold checkTableV; rw [if_pos h]
theorem checkTableV_bad (t : List UInt8) (i : Nat) (h : t.length ≤ 200000) (hi : tableV t = .error i) : checkTableV t = (5, (i : Int)) := by unfold checkTableV; rw [if_neg (by omega), hi]
theorem checkTableV_ok (t : List UInt8) (S : List (Int × List Edge)) (h : t.length ≤ 200000) (hi : tableV t = .ok S) : checkTableV t = (0, 0) := by unfold checkTableV; rw [if_neg (by omega), hi]

def stepV : List Edge → Int → Int
  | [], _ => -1
  | x :: r, c => if x.1 ≤ c ∧ c ≤ x.2.1 then x.2.2 else stepV r c

/-- One goes by the bytes from state k on: the tag of where one comes to. -/
def goV (S : List (Int × List Edge)) : Int → List UInt8 → Int
  | k, [] => ((S[k.toNat]?).map (·.1)).getD (-1)
  | k, c :: r => if stepV (((S[k.toNat]?).map (·.2)).getD []) c.toNat < 0 then -1 else goV S (stepV (((S[k.toNat]?).map (·.2)).getD []) c.toNat) r

def walkV (t w : List UInt8) : Int × Int × Int :=
  if (checkTableV t).1 ≠ 0 then (0, checkTableV t) else match tableV t with
    | .error _ => (0, 0, 0)
    | .ok S => (goV S 0 w, 0, 0)

theorem edges_to (n : Int) : ∀ (k : Nat) (r : List UInt8) (last : Int) (acc E : List Edge), r.length ≤ k → edges n r last acc = some E → (∀ x ∈ acc, 0 ≤ x.2.2 ∧ x.2.2 < n) → ∀ x ∈ E, 0 ≤ x.2.2 ∧ x.2.2 < n := by
  intro k
  induction k with
  | zero =>
    intro r last acc E hr h hacc
    have : r = [] := List.eq_nil_of_length_eq_zero (by omega)
    subst this
    rw [edges_nil] at h; cases h; exact hacc
  | succ k ih =>
    intro r last acc E hr h hacc
    cases r with
    | nil => rw [edges_nil] at h; cases h; exact hacc
    | cons c r' =>
      by_cases hb : badEdge n (c :: r') last = true
      · rw [edges_bad _ _ _ _ (by simp) hb] at h; cases h
      · have hb' : badEdge n (c :: r') last = false := by simpa using hb
        rw [edges_good _ _ _ _ (by simp) hb'] at h
        refine ih _ _ _ _ (by simp at hr ⊢; omega) h ?_
        intro x hx
        rcases List.mem_append.1 hx with hx | hx
        · exact hacc x hx
        · simp only [List.mem_singleton] at hx
          subst hx
          unfold badEdge at hb'
          simp only [Bool.or_eq_false_iff, decide_eq_false_iff_not] at hb'
          constructor
          · have := hb'.1.1.2; simp only; omega
          · have := hb'.1.2; simp only; omega

theorem stateV_to (s : List UInt8) (n : Int) (x : Int × List Edge) (h : stateV s n = some x) : (∀ e ∈ x.2, 0 ≤ e.2.2 ∧ e.2.2 < n) ∧ -1 ≤ x.1 ∧ x.1 ≤ 4 := by
  unfold stateV at h
  split at h
  · cases h
  · rename_i c r
    split at h
    · cases h
    · rename_i hb
      cases he : edges n r (-1) [] with
      | none => rw [he] at h; cases h
      | some E =>
        rw [he] at h
        simp only [Option.map_some, Option.some.injEq] at h
        subst h
        refine ⟨edges_to n r.length r (-1) [] E (Nat.le_refl _) he (fun x hx => by cases hx), ?_⟩
        have hb' : badTag c = false := by simpa using hb
        unfold badTag at hb'
        unfold tagV
        simp only
        by_cases h45 : c.toNat = 45
        · rw [if_pos h45]; omega
        · rw [if_neg h45]; simp [h45] at hb'; omega

theorem statesV_to (n : Int) : ∀ (P : List (List UInt8)) (i : Nat) (acc S : List (Int × List Edge)), statesV n i P acc = .ok S → (∀ x ∈ acc, (∀ e ∈ x.2, 0 ≤ e.2.2 ∧ e.2.2 < n) ∧ -1 ≤ x.1 ∧ x.1 ≤ 4) →
    (∀ x ∈ S, (∀ e ∈ x.2, 0 ≤ e.2.2 ∧ e.2.2 < n) ∧ -1 ≤ x.1 ∧ x.1 ≤ 4) ∧ S.length = acc.length + P.length := by
  intro P
  induction P with
  | nil => intro i acc S h hacc; rw [statesV_nil] at h; cases h; exact ⟨hacc, by simp⟩
  | cons p r ih =>
    intro i acc S h hacc
    by_cases h9 : 9999 ≤ i
    · rw [statesV_many _ _ _ _ _ h9] at h; cases h
    · cases hs : stateV p n with
      | none => rw [statesV_bad _ _ _ _ _ hs] at h; cases h
      | some x =>
        rw [statesV_good _ _ _ _ _ x (by omega) hs] at h
        have := ih _ _ _ h (by
          intro y hy
          rcases List.mem_append.1 hy with hy | hy
          · exact hacc y hy
          · simp only [List.mem_singleton] at hy; subst hy; exact stateV_to p n y hs)
        refine ⟨this.1, ?_⟩
        rw [this.2]; simp; omega

/-- A table's edges lead to its states; its tags are small. -/
theorem tableV_to (t : List UInt8) (S : List (Int × List Edge)) (h : tableV t = .ok S) : (∀ x ∈ S, (∀ e ∈ x.2, 0 ≤ e.2.2 ∧ e.2.2 < S.length) ∧ -1 ≤ x.1 ∧ x.1 ≤ 4) ∧ 1 ≤ S.length := by
  have := statesV_to _ _ _ _ _ h (fun x hx => by cases hx)
  have hl := splitF_length t []
  simp at this
  refine ⟨?_, by omega⟩
  rw [this.2]
  intro x hx
  have h2 := this.1 x.1 x.2 hx
  exact ⟨fun e he => h2.1 e.1 e.2.1 e.2.2 he, h2.2⟩

theorem stepV_to : ∀ (E : List Edge) (c n : Int), (∀ e ∈ E, 0 ≤ e.2.2 ∧ e.2.2 < n) → stepV E c = -1 ∨ (0 ≤ stepV E c ∧ stepV E c < n) := by
  intro E
  induction E with
  | nil => intro c n _; left; rfl
  | cons x r ih =>
    intro c n h
    rw [stepV]
    split
    · right; exact h x (by simp)
    · exact ih c n (fun e he => h e (by simp [he]))
end Munch
