/-
  THE WALKS of munchref.CheckTable, munchref.step.
-/
import Derived.Test.YtjhopgfgfljcoaaDoorTabStates
import Derived.Test.YtjhopgfgfljcoaaDoorTabSpec2
namespace Go.Proofs.YtjhopgfgfljcoaaDoor
open Go.RowKit

theorem ret2 {a b c d : Int} (h : a = c) (h' : b = d) : Ending.returned (.tuple #[.int .i64 a, .int .i64 b]) = .returned (.tuple #[.int .i64 c, .int .i64 d]) := by rw [h, h']

set_option maxHeartbeats 1000000 in
set_option maxRecDepth 100000 in
theorem checkTable_any (t : ByteArray) (w : World) (ht : t.size ≤ maxLen) :
    Calls Tryd.prog 6 #[.string t] w fun e w' => e = .returned (.tuple #[.int .i64 (Munch.checkTableV t.data.toList).1, .int .i64 (Munch.checkTableV t.data.toList).2]) ∧ Below w.heap.size w w' := by
  unfold maxLen at ht
  have hl : t.data.toList.length = t.size := by simp
  by_cases hb : 200000 < t.size
  · rw [Munch.checkTableV_long _ (by omega)]
    have hb' : (200000 : Int) < (t.size : Int) := by omega
    clear hb hl
    go_enter Tryd.func6, Tryd.ntmps6
    go_wp2_with fail
    go_ret2
    exact ⟨rfl, Below.refl _ _⟩
  · have hb' : (t.size : Int) ≤ (200000 : Int) := by omega
    have hl' : t.data.toList.length ≤ 200000 := by omega
    have HL : Hid _ := hl'; clear hb hl hl'
    go_enter Tryd.func6, Tryd.ntmps6
    go_wp2_with fail
    refine (states_any t _ (by omega)).mono ?_
    rintro e w1 (⟨i, hR, rfl, hb1⟩ | ⟨S, v, vs, hR, rfl, _, hb1⟩)
    · have HR : Hid _ := Munch.checkTableV_bad _ _ HL.out hR
      clear hR
      go_wp2_with fail
      go_ret2
      exact ⟨by rw [HR.out]; rfl, hb1⟩
    · have HR : Hid _ := Munch.checkTableV_ok _ _ HL.out hR
      clear hR
      go_wp2_with fail
      go_ret2
      exact ⟨by rw [HR.out]; rfl, hb1⟩

theorem edgeCells_length (E : List Munch.Edge) : (edgeCells E).length = E.length * 3 := by
  induction E with
  | nil => rfl
  | cons x r ih => show (_ :: _ :: _ :: edgeCells r).length = _; simp [ih]; omega
theorem edgeCells_at : ∀ (E : List Munch.Edge) (i : Nat) (h : i < E.length), (edgeCells E)[i * 3]? = some (.int .i64 E[i].1) ∧ (edgeCells E)[i * 3 + 1]? = some (.int .i64 E[i].2.1) ∧ (edgeCells E)[i * 3 + 2]? = some (.int .i64 E[i].2.2) := by
  intro E
  induction E with
  | nil => intro i h; simp at h
  | cons x r ih =>
    intro i h
    have e : edgeCells (x :: r) = .int .i64 x.1 :: .int .i64 x.2.1 :: .int .i64 x.2.2 :: edgeCells r := by simp [edgeCells]
    rw [e]
    cases i with
    | zero => simp
    | succ i =>
      have := ih i (by simpa using h)
      rw [show (i + 1) * 3 = i * 3 + 1 + 1 + 1 by omega]
      simpa using this

set_option maxHeartbeats 1000000 in
theorem step_any (tag : Int) (u : Value) (E : List Munch.Edge) (c : Int) (base : Nat) (w : World) (hu : w.ownsRow base 55 3 u E.length (edgeCells E)) :
    Calls Tryd.prog 13 #[.agg #[.int .i64 tag, u], .int .i64 c] w fun e w' => e = .returned (.int .i64 (Munch.stepV E c)) ∧ w' = w.alloc (.cells #[.int .i64 tag, u] 45) := by
  obtain ⟨ao, cap, rfl⟩ := ownsRow_shape hu
  have hmax : E.length ≤ 9223372036854775807 := by
    rcases hu.2 with ⟨_, h0⟩ | ⟨g, cap', cur, _, _, _, h1, h2, _⟩
    · omega
    · unfold maxLen at h2; omega
  go_enter Tryd.func13, Tryd.ntmps13
  go_wp2_with fail
  go_loop [5] (fun i => ∃ k : Nat, k ≤ E.length ∧ i = .int .i64 k ∧ Munch.stepV (E.drop k) c = Munch.stepV E c) (fun i => E.length - (intOf i).toNat)
  case atStart => exact ⟨0, Nat.zero_le _, rfl, rfl⟩
  case round =>
    obtain ⟨k, hk, rfl, hV⟩ := hrel
    have H : Hid _ := hV; clear hV
    by_cases hlt : k < E.length
    · obtain ⟨g, rfl⟩ : ∃ g, ao = some ⟨g, 0, none⟩ := by
        rcases hu.2 with ⟨_, h0⟩ | ⟨g, cap', cur, hv, _⟩
        · omega
        · exact ⟨g, by cases hv; rfl⟩
      have hgl := (hu.lt g rfl).2
      have hat := edgeCells_at E k hlt
      have k0 : w.cell? ⟨g, k * 3, none⟩ = some (.int .i64 E[k].1) := by rw [hu.cellAt (k * 3) (by omega)]; exact hat.1
      have k1 : w.cell? ⟨g, k * 3 + 1, none⟩ = some (.int .i64 E[k].2.1) := by rw [hu.cellAt (k * 3 + 1) (by omega)]; exact hat.2.1
      have k2 : w.cell? ⟨g, k * 3 + 2, none⟩ = some (.int .i64 E[k].2.2) := by rw [hu.cellAt (k * 3 + 2) (by omega)]; exact hat.2.2
      have hd : Munch.stepV (E.drop k) c = if E[k].1 ≤ c ∧ c ≤ E[k].2.1 then E[k].2.2 else Munch.stepV (E.drop (k + 1)) c := by rw [List.drop_eq_getElem_cons hlt]; rfl
      have HD : Hid _ := hd; clear hd hat
      by_cases h1 : E[k].1 ≤ c
      · by_cases h2 : c ≤ E[k].2.1
        · go_wp2_with fail
          go_ret
          exact ⟨ret_int (by rw [← H.out, HD.out, if_pos ⟨h1, h2⟩]), rfl⟩
        · go_wp2_with fail
          go_round
          case rel => exact ⟨k + 1, by omega, by go_num, by rw [← H.out, HD.out, if_neg (by omega)]⟩
          case measure => simp [intOf]; omega
      · go_wp2_with fail
        go_round
        case rel => exact ⟨k + 1, by omega, by go_num, by rw [← H.out, HD.out, if_neg (by omega)]⟩
        case measure => simp [intOf]; omega
    · obtain rfl : k = E.length := by omega
      go_wp2_with fail
      go_ret
      exact ⟨ret_int (by rw [← H.out, List.drop_of_length_le (by omega)]; rfl), rfl⟩
end Go.Proofs.YtjhopgfgfljcoaaDoor
