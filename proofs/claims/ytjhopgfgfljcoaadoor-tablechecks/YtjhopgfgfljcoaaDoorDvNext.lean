/-
  THE WALKS of table.sideOf, slices.BinarySearchFunc, (Table).Next.
-/
import Derived.Test.YtjhopgfgfljcoaaDoorDvRead
namespace Munch
/-- Edges whose bytes rise, above 'last'. -/
def Rising : Int → List Edge → Prop
  | _, [] => True
  | last, x :: r => last < x.1 ∧ x.1 ≤ x.2.1 ∧ Rising x.2.1 r

theorem Rising.get : ∀ (E : List Edge) (last : Int), Rising last E → ∀ (j : Nat) (hj : j < E.length), last < E[j].1 ∧ E[j].1 ≤ E[j].2.1 := by
  intro E
  induction E with
  | nil => intro last _ j hj; simp at hj
  | cons x r ih =>
    intro last h j hj
    cases j with
    | zero => exact ⟨h.1, h.2.1⟩
    | succ j =>
      have := ih _ h.2.2 j (by simpa using hj)
      simp only [List.getElem_cons_succ]
      have h1 := h.1
      have h2 := h.2.1
      omega
theorem Rising.lt : ∀ (E : List Edge) (last : Int), Rising last E → ∀ (i j : Nat) (_ : i < j) (hj : j < E.length), E[i].2.1 < E[j].1 := by
  intro E
  induction E with
  | nil => intro last _ i j _ hj; simp at hj
  | cons x r ih =>
    intro last h i j hij hj
    obtain ⟨j, rfl⟩ : ∃ k, j = k + 1 := ⟨j - 1, by omega⟩
    cases i with
    | zero => exact (Rising.get r _ h.2.2 j (by simpa using hj)).1
    | succ i => exact ih _ h.2.2 i j (by omega) (by simpa using hj)
theorem Rising.le (E : List Edge) (last : Int) (h : Rising last E) (i j : Nat) (hij : i < j) (hj : j < E.length) : E[i].2.1 ≤ E[j].2.1 := by
  have h1 := Rising.lt E last h i j hij hj
  have h2 := Rising.get E last h j hj
  omega
theorem stepV_none : ∀ (E : List Edge) (c : Int), (∀ (q : Nat) (h : q < E.length), c < E[q].1 ∨ E[q].2.1 < c) → stepV E c = -1 := by
  intro E
  induction E with
  | nil => intro c _; rfl
  | cons x r ih =>
    intro c h
    rw [stepV, if_neg]
    · exact ih c (fun q hq => by have := h (q + 1) (by simpa using hq); simpa using this)
    · have := h 0 (by simp); simp only [List.getElem_cons_zero] at this; omega
theorem stepV_some : ∀ (E : List Edge) (c : Int) (p : Nat) (hp : p < E.length), (∀ (q : Nat) (h : q < E.length), q < p → E[q].2.1 < c) → E[p].1 ≤ c → c ≤ E[p].2.1 → stepV E c = E[p].2.2 := by
  intro E
  induction E with
  | nil => intro c p hp; simp at hp
  | cons x r ih =>
    intro c p hp h h1 h2
    cases p with
    | zero => simp only [List.getElem_cons_zero] at h1 h2 ⊢; rw [stepV, if_pos ⟨h1, h2⟩]
    | succ p =>
      have h0 := h 0 (by simp) (by omega)
      simp only [List.getElem_cons_zero] at h0
      rw [stepV, if_neg (by omega)]
      simp only [List.getElem_cons_succ] at h1 h2 ⊢
      exact ih c p (by simpa using hp) (fun q hq hlt => by have := h (q + 1) (by simpa using hq) (by omega); simpa using this) h1 h2
/-- What the search finds is what the document's step finds. -/
theorem stepV_search (E : List Edge) (c : Int) (last : Int) (hr : Rising last E) (p : Nat) (h1 : ∀ (q : Nat) (h : q < E.length), q < p → E[q].2.1 < c) (h2 : ∀ (q : Nat) (h : q < E.length), p ≤ q → c ≤ E[q].2.1) :
    (∃ h : p < E.length, E[p].1 ≤ c ∧ stepV E c = E[p].2.2) ∨ ((¬ ∃ h : p < E.length, E[p].1 ≤ c) ∧ stepV E c = -1) := by
  by_cases hp : ∃ h : p < E.length, E[p].1 ≤ c
  · obtain ⟨hp, hc⟩ := hp
    exact Or.inl ⟨hp, hc, stepV_some E c p hp h1 hc (h2 p hp (Nat.le_refl _))⟩
  · refine Or.inr ⟨hp, stepV_none E c fun q hq => ?_⟩
    by_cases hlt : q < p
    · exact Or.inr (h1 q hq hlt)
    · left
      by_cases he : q = p
      · subst he
        by_cases hc : E[q].1 ≤ c
        · exact absurd ⟨hq, hc⟩ hp
        · omega
      · have hpl : p < E.length := by omega
        have h3 := Rising.lt E last hr p q (by omega) hq
        have h4 := h2 p hpl (Nat.le_refl _)
        omega

theorem edges_rising (n : Int) : ∀ (k : Nat) (r : List UInt8) (last : Int) (acc E : List Edge), r.length ≤ k → -1 ≤ last → edges n r last acc = some E → ∃ E', E = acc ++ E' ∧ Rising last E' ∧ E'.length ≤ r.length := by
  intro k
  induction k with
  | zero =>
    intro r last acc E hr _ h
    have : r = [] := List.eq_nil_of_length_eq_zero (by omega)
    subst this
    rw [edges_nil] at h; cases h; exact ⟨[], by simp, trivial, by simp⟩
  | succ k ih =>
    intro r last acc E hr hl h
    cases r with
    | nil => rw [edges_nil] at h; cases h; exact ⟨[], by simp, trivial, by simp⟩
    | cons c r' =>
      by_cases hb : badEdge n (c :: r') last = true
      · rw [edges_bad _ _ _ _ (by simp) hb] at h; cases h
      · have hb' : badEdge n (c :: r') last = false := by simpa using hb
        rw [edges_good _ _ _ _ (by simp) hb'] at h
        unfold badEdge at hb'
        simp only [Bool.or_eq_false_iff, decide_eq_false_iff_not, Decidable.not_not] at hb'
        obtain ⟨⟨⟨⟨⟨q1, q2⟩, q3⟩, q4⟩, q5⟩, q6⟩ := hb'
        obtain ⟨E', h1, h2, h3⟩ := ih _ _ _ _ (by simp at hr ⊢; omega) (by omega) h
        refine ⟨(numV 16 0 ((c :: r').drop 1) 2, numV 16 0 ((c :: r').drop 3) 2, numV 10 0 ((c :: r').drop 6) 4) :: E', by rw [h1]; simp, ⟨by simp only; omega, by simp only; omega, h2⟩, ?_⟩
        simp only [List.length_drop, List.length_cons] at h3 ⊢
        have h4 := numV_len 10 4 0 _ (by omega : 0 ≤ numV 10 0 ((c :: r').drop 6) 4)
        simp only [List.length_drop, List.length_cons] at h4
        omega
theorem stateV_rising (s : List UInt8) (n : Int) (x : Int × List Edge) (h : stateV s n = some x) : Rising (-1) x.2 ∧ x.2.length ≤ s.length := by
  unfold stateV at h
  split at h
  · cases h
  · rename_i c r
    split at h
    · cases h
    · cases he : edges n r (-1) [] with
      | none => rw [he] at h; cases h
      | some E =>
        rw [he] at h
        simp only [Option.map_some, Option.some.injEq] at h
        subst h
        obtain ⟨E', h1, h2, h3⟩ := edges_rising n _ r (-1) [] E (Nat.le_refl _) (by decide) he
        simp only [List.nil_append] at h1
        subst h1
        exact ⟨h2, by simp; omega⟩
theorem statesV_rising (n : Int) (m : Nat) : ∀ (P : List (List UInt8)) (i : Nat) (acc S : List (Int × List Edge)), (∀ p ∈ P, p.length ≤ m) → statesV n i P acc = .ok S → (∀ x ∈ acc, Rising (-1) x.2 ∧ x.2.length ≤ m) → ∀ x ∈ S, Rising (-1) x.2 ∧ x.2.length ≤ m := by
  intro P
  induction P with
  | nil => intro i acc S _ h hacc; rw [statesV_nil] at h; cases h; exact hacc
  | cons p r ih =>
    intro i acc S hP h hacc
    by_cases h9 : 9999 ≤ i
    · rw [statesV_many _ _ _ _ _ h9] at h; cases h
    · cases hs : stateV p n with
      | none => rw [statesV_bad _ _ _ _ _ hs] at h; cases h
      | some x =>
        rw [statesV_good _ _ _ _ _ x (by omega) hs] at h
        refine ih _ _ _ (fun q hq => hP q (by simp [hq])) h ?_
        intro y hy
        rcases List.mem_append.1 hy with hy | hy
        · exact hacc y hy
        · simp only [List.mem_singleton] at hy; subst hy
          have h1 := stateV_rising p n y hs
          have h2 := hP p (by simp)
          exact ⟨h1.1, by omega⟩
theorem tableV_rising (t : List UInt8) (S : List (Int × List Edge)) (h : tableV t = .ok S) : ∀ x ∈ S, Rising (-1) x.2 ∧ x.2.length ≤ t.length :=
  statesV_rising _ t.length _ _ _ _ (fun p hp => by have := splitF_size _ _ _ hp; simpa using this) h (fun x hx => by cases hx)

def sideV (lo hi c : Int) : Int := if hi < c then -1 else if c < lo then 1 else 0
end Munch
namespace Go.Proofs.YtjhopgfgfljcoaaDoor
open Go.RowKit

set_option maxHeartbeats 1000000 in
theorem sideOf_any (lo hi to' c : Int) (w : World) :
    Calls Tryd.prog 23 #[.agg #[.int .u8 lo, .int .u8 hi, .int .i64 to'], .int .u8 c] w fun e w' => e = .returned (.int .i64 (Munch.sideV lo hi c)) ∧ w' = w.alloc (.cells #[.int .u8 lo, .int .u8 hi, .int .i64 to'] 66) := by
  by_cases h1 : hi < c
  · have h : Munch.sideV lo hi c = -1 := by rw [Munch.sideV, if_pos h1]
    rw [h]
    go_enter Tryd.func23, Tryd.ntmps23
    go_wp2
    go_ret
    exact ⟨rfl, rfl⟩
  · by_cases h2 : c < lo
    · have h : Munch.sideV lo hi c = 1 := by rw [Munch.sideV, if_neg h1, if_pos h2]
      rw [h]
      go_enter Tryd.func23, Tryd.ntmps23
      go_wp2
      go_ret
      exact ⟨rfl, rfl⟩
    · have h : Munch.sideV lo hi c = 0 := by rw [Munch.sideV, if_neg h1, if_neg h2]
      rw [h]
      go_enter Tryd.func23, Tryd.ntmps23
      go_wp2
      go_ret
      exact ⟨rfl, rfl⟩


theorem edgeCellsD_at : ∀ (E : List Munch.Edge) (i : Nat) (h : i < E.length), (edgeCellsD E)[i * 3]? = some (.int .u8 E[i].1) ∧ (edgeCellsD E)[i * 3 + 1]? = some (.int .u8 E[i].2.1) ∧ (edgeCellsD E)[i * 3 + 2]? = some (.int .i64 E[i].2.2) := by
  intro E
  induction E with
  | nil => intro i h; simp at h
  | cons x r ih =>
    intro i h
    have e : edgeCellsD (x :: r) = .int .u8 x.1 :: .int .u8 x.2.1 :: .int .i64 x.2.2 :: edgeCellsD r := by simp [edgeCellsD]
    rw [e]
    cases i with
    | zero => simp
    | succ i =>
      have := ih i (by simpa using h)
      rw [show (i + 1) * 3 = i * 3 + 1 + 1 + 1 by omega]
      simpa using this

set_option maxHeartbeats 2000000 in
set_option maxRecDepth 100000 in
theorem search_any (E : List Munch.Edge) (v : Value) (c : Int) (base : Nat) (w : World) (hu : w.ownsRow base 66 3 v E.length (edgeCellsD E)) (hE : E.length ≤ 200000) (hris : ∀ (i j : Nat) (hi : i < j) (hj : j < E.length), E[i].2.1 ≤ E[j].2.1) :
    Calls Tryd.prog 22 #[v, .int .u8 c, .func (.func 23) #[] #[]] w fun e w' =>
      ∃ p : Nat, p ≤ E.length ∧ (∀ (q : Nat) (h : q < E.length), q < p → E[q].2.1 < c) ∧ (∀ (q : Nat) (h : q < E.length), p ≤ q → c ≤ E[q].2.1) ∧ e = .returned (.tuple #[.int .i64 p, .bool (decide (∃ h : p < E.length, E[p].1 ≤ c))]) ∧ Below w.heap.size w w' := by
  obtain ⟨ao, cap, rfl⟩ := ownsRow_shape hu
  have HR : Hid _ := hris; clear hris
  go_enter Tryd.func22, Tryd.ntmps22
  go_wp2_with fail
  go_loopw [9, 10] (fun i j wr => ∃ (a b : Nat), a ≤ b ∧ b ≤ E.length ∧ i = .int .i64 a ∧ j = .int .i64 b ∧ Below w.heap.size w wr ∧ (∀ (q : Nat) (h : q < E.length), q < a → E[q].2.1 < c) ∧ (∀ (q : Nat) (h : q < E.length), b ≤ q → c ≤ E[q].2.1)) (fun i j _ => (intOf j).toNat - (intOf i).toNat)
  case atStart => exact ⟨0, E.length, Nat.zero_le _, Nat.le_refl _, rfl, rfl, Below.refl _ _, fun q _ h => by omega, fun q h h' => by omega⟩
  case round =>
    obtain ⟨a, b, hab, hb, rfl, rfl, hnx, hlow, hhigh⟩ := hrel
    have HL : Hid _ := hlow; clear hlow
    have HH : Hid _ := hhigh; clear hhigh
    have hsz : w.heap.size ≤ wr.heap.size := hnx.size
    by_cases hlt : a < b
    · obtain ⟨g, rfl⟩ : ∃ g, ao = some ⟨g, 0, none⟩ := by
        rcases hu.2 with ⟨_, h0⟩ | ⟨g, cap', cur, hv, _⟩
        · omega
        · exact ⟨g, by cases hv; rfl⟩
      have hgl := (hu.lt g rfl).2
      have hh : (a + b) / 2 < E.length := by omega
      have hat := edgeCellsD_at E ((a + b) / 2) hh
      have k0 : wr.cell? ⟨g, (a + b) / 2 * 3, none⟩ = some (.int .u8 E[(a + b) / 2].1) := by rw [hnx.cell (p := ⟨g, _, none⟩) hgl, hu.cellAt _ (by omega)]; exact hat.1
      have k1 : wr.cell? ⟨g, (a + b) / 2 * 3 + 1, none⟩ = some (.int .u8 E[(a + b) / 2].2.1) := by rw [hnx.cell (p := ⟨g, _, none⟩) hgl, hu.cellAt _ (by omega)]; exact hat.2.1
      have k2 : wr.cell? ⟨g, (a + b) / 2 * 3 + 2, none⟩ = some (.int .i64 E[(a + b) / 2].2.2) := by rw [hnx.cell (p := ⟨g, _, none⟩) hgl, hu.cellAt _ (by omega)]; exact hat.2.2
      clear hat
      have hnx' := hnx.alloc hsz (.cells #[.int .u8 E[(a + b) / 2].1, .int .u8 E[(a + b) / 2].2.1, .int .i64 E[(a + b) / 2].2.2] 66)
      by_cases hside : E[(a + b) / 2].2.1 < c
      · have hs : Munch.sideV E[(a + b) / 2].1 E[(a + b) / 2].2.1 c = -1 := by rw [Munch.sideV, if_pos hside]
        go_wp2_with fail
        refine (sideOf_any _ _ _ _ _).mono ?_
        rw [hs]
        rintro e w' ⟨rfl, rfl⟩
        go_wp2_with fail
        go_roundw
        case rel =>
          refine ⟨(a + b) / 2 + 1, b, by omega, hb, by go_num, rfl, hnx', ?_, HH.out⟩
          intro q hq hlt'
          by_cases he : q = (a + b) / 2
          · subst he; exact hside
          · have := HR.out q ((a + b) / 2) (by omega) hh; omega
        case measure => simp [intOf]; omega
      · have hs : ¬ Munch.sideV E[(a + b) / 2].1 E[(a + b) / 2].2.1 c < 0 := by rw [Munch.sideV, if_neg hside]; split <;> omega
        go_wp2_with fail
        refine (sideOf_any _ _ _ _ _).mono ?_
        rintro e w' ⟨rfl, rfl⟩
        go_wp2_with fail
        go_roundw
        case rel =>
          refine ⟨a, (a + b) / 2, by omega, by omega, rfl, by go_num, hnx', HL.out, ?_⟩
          intro q hq hle
          by_cases he : q = (a + b) / 2
          · subst he; omega
          · have := HR.out ((a + b) / 2) q (by omega) hq; omega
        case measure => simp [intOf]; omega
    · obtain rfl : a = b := by omega
      by_cases hn : a < E.length
      · obtain ⟨g, rfl⟩ : ∃ g, ao = some ⟨g, 0, none⟩ := by
          rcases hu.2 with ⟨_, h0⟩ | ⟨g, cap', cur, hv, _⟩
          · omega
          · exact ⟨g, by cases hv; rfl⟩
        have hgl := (hu.lt g rfl).2
        have hat := edgeCellsD_at E a hn
        have k0 : wr.cell? ⟨g, a * 3, none⟩ = some (.int .u8 E[a].1) := by rw [hnx.cell (p := ⟨g, _, none⟩) hgl, hu.cellAt _ (by omega)]; exact hat.1
        have k1 : wr.cell? ⟨g, a * 3 + 1, none⟩ = some (.int .u8 E[a].2.1) := by rw [hnx.cell (p := ⟨g, _, none⟩) hgl, hu.cellAt _ (by omega)]; exact hat.2.1
        have k2 : wr.cell? ⟨g, a * 3 + 2, none⟩ = some (.int .i64 E[a].2.2) := by rw [hnx.cell (p := ⟨g, _, none⟩) hgl, hu.cellAt _ (by omega)]; exact hat.2.2
        clear hat
        have hnx' := hnx.alloc hsz (.cells #[.int .u8 E[a].1, .int .u8 E[a].2.1, .int .i64 E[a].2.2] 66)
        have hge := HH.out a hn (Nat.le_refl _)
        have hsd : (Munch.sideV E[a].1 E[a].2.1 c == 0) = decide (∃ h : a < E.length, E[a].1 ≤ c) := by
          rw [Munch.sideV, if_neg (by omega)]
          by_cases hc : c < E[a].1
          · rw [if_pos hc]; symm; rw [show ((1 : Int) == 0) = false from rfl, decide_eq_false_iff_not]; rintro ⟨_, h⟩; omega
          · rw [if_neg hc]; symm; rw [show ((0 : Int) == 0) = true from rfl, decide_eq_true_eq]; exact ⟨hn, by omega⟩
        have HSD : Hid _ := hsd; clear hsd
        go_wp2_with fail
        refine (sideOf_any _ _ _ _ _).mono ?_
        rintro e w' ⟨rfl, rfl⟩
        go_wp2_with fail
        go_ret2
        exact ⟨a, by omega, HL.out, HH.out, by rw [← HSD.out]; rfl, hnx'⟩
      · go_wp2_with fail
        go_ret2
        exact ⟨a, by omega, HL.out, HH.out, by rw [show decide (∃ h : a < E.length, E[a].1 ≤ c) = false from decide_eq_false (fun ⟨h, _⟩ => hn h)]; rfl, hnx⟩

set_option maxHeartbeats 2000000 in
set_option maxRecDepth 100000 in
theorem next_any (S : List St) (v : Value) (vs : List Value) (q : Nat) (c : Int) (base : Nat) (w : World) (hin : StatesInD w base v S vs) (hq : q < S.length) (hris : Munch.Rising (-1) S[q].2) (hlen : S[q].2.length ≤ 200000) (hto : ∀ e ∈ S[q].2, 0 ≤ e.2.2 ∧ e.2.2 < S.length) :
    Calls Tryd.prog 17 #[v, .int .i64 q, .int .u8 c] w fun e w' => e = .returned (.int .i64 (Munch.stepV S[q].2 c)) ∧ Below w.heap.size w w' := by
  obtain ⟨g, cap, rfl⟩ : ∃ g cap, v = .slice (some ⟨g, 0, none⟩) S.length cap := by
    rcases hin.own.2 with ⟨_, h0⟩ | ⟨g, cap, cur, hv, _⟩
    · omega
    · exact ⟨g, cap, hv⟩
  have hgl := (hin.own.lt g rfl).2
  have hmax : S.length ≤ 9223372036854775807 := by
    rcases hin.own.2 with ⟨_, h0⟩ | ⟨g, cap', cur, _, _, _, h1, h2, _⟩
    · omega
    · unfold maxLen at h2; omega
  have hqv : q < vs.length := by rw [hin.len]; exact hq
  have hat := stateCells_at S vs hin.len q hq hqv
  have k0 : w.cell? ⟨g, q * 2, none⟩ = some (.int .i64 S[q].1) := by rw [hin.own.cellAt (q * 2) (by omega)]; exact hat.1
  have k1 : w.cell? ⟨g, q * 2 + 1, none⟩ = some vs[q] := by rw [hin.own.cellAt (q * 2 + 1) (by omega)]; exact hat.2
  have hu := hin.edge q S[q] vs[q] (by simp [hq]) (by simp [hqv])
  clear hat
  generalize vs[q] = u at *
  generalize S[q].2 = E at *
  obtain ⟨ua, uc, rfl⟩ := ownsRow_shape hu
  have hsr := Munch.stepV_search E c (-1) hris
  have hs := search_any E _ c base w hu hlen (Munch.Rising.le E (-1) hris)
  have HSR : Hid _ := hsr; clear hsr
  have HTO : Hid _ := hto; clear hto
  have hne : ((q : Int) == -1) = false := by rw [beq_eq_false_iff_ne]; omega
  clear hris
  go_enter Tryd.func17, Tryd.ntmps17
  go_wp2_with fail
  refine hs.mono ?_
  rintro e w1 ⟨p, hp, h1, h2, rfl, hb1⟩
  have hres := HSR.out p h1 h2
  clear hs HSR h1 h2
  rcases hres with ⟨hpl, hc, hst⟩ | ⟨hno, hst⟩
  · have HST : Hid _ := hst
    have hdec : decide (∃ h : p < E.length, E[p].1 ≤ c) = true := decide_eq_true ⟨hpl, hc⟩
    rw [hdec]
    obtain ⟨g', rfl⟩ : ∃ g, ua = some ⟨g, 0, none⟩ := by
      rcases hu.2 with ⟨_, h0⟩ | ⟨g, cap', cur, hv, _⟩
      · omega
      · exact ⟨g, by cases hv; rfl⟩
    have hgl' := (hu.lt g' rfl).2
    have hat := edgeCellsD_at E p hpl
    have j2 : w1.cell? ⟨g', p * 3 + 2, none⟩ = some (.int .i64 E[p].2.2) := by rw [hb1.cell (p := ⟨g', _, none⟩) hgl', hu.cellAt _ (by omega)]; exact hat.2.2
    clear hat hst hdec hc
    go_wp2_with fail
    go_ret
    exact ⟨ret_int HST.out.symm, hb1⟩
  · have HST : Hid _ := hst
    have hdec : decide (∃ h : p < E.length, E[p].1 ≤ c) = false := decide_eq_false hno
    rw [hdec]
    clear hst hdec hno
    go_wp2_with fail
    go_ret
    exact ⟨ret_int HST.out.symm, hb1⟩

set_option maxHeartbeats 1000000 in
theorem tag_any (S : List St) (v : Value) (vs : List Value) (q : Nat) (base : Nat) (w : World) (hin : StatesInD w base v S vs) (hq : q < S.length) :
    Calls Tryd.prog 18 #[v, .int .i64 q] w fun e w' => e = .returned (.int .i64 S[q].1) ∧ w' = w := by
  obtain ⟨g, cap, rfl⟩ : ∃ g cap, v = .slice (some ⟨g, 0, none⟩) S.length cap := by
    rcases hin.own.2 with ⟨_, h0⟩ | ⟨g, cap, cur, hv, _⟩
    · omega
    · exact ⟨g, cap, hv⟩
  have hgl := (hin.own.lt g rfl).2
  have hmax : S.length ≤ 9223372036854775807 := by
    rcases hin.own.2 with ⟨_, h0⟩ | ⟨g, cap', cur, _, _, _, h1, h2, _⟩
    · omega
    · unfold maxLen at h2; omega
  have hqv : q < vs.length := by rw [hin.len]; exact hq
  have hat := stateCells_at S vs hin.len q hq hqv
  have k0 : w.cell? ⟨g, q * 2, none⟩ = some (.int .i64 S[q].1) := by rw [hin.own.cellAt (q * 2) (by omega)]; exact hat.1
  clear hat
  have hne : ((q : Int) == -1) = false := by rw [beq_eq_false_iff_ne]; omega
  go_enter Tryd.func18, Tryd.ntmps18
  go_wp2_with fail
  go_ret
  exact ⟨rfl, rfl⟩

set_option maxHeartbeats 1000000 in
theorem tag_nowhere (v : Value) (w : World) :
    Calls Tryd.prog 18 #[v, .int .i64 (-1)] w fun e w' => e = .returned (.int .i64 (-1)) ∧ w' = w := by
  go_enter Tryd.func18, Tryd.ntmps18
  go_wp2_with fail
  go_ret
  exact ⟨rfl, rfl⟩
end Go.Proofs.YtjhopgfgfljcoaaDoor
