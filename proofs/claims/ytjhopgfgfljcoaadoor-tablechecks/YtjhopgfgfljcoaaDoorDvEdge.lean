/-
  THE WALK of table.readEdge.
-/
import Derived.Test.YtjhopgfgfljcoaaDoorDvNum
namespace Munch
theorem numV_take (base : Int) : ∀ (n m : Nat) (v : Int) (l : List UInt8), n ≤ m → numV base v (l.take m) n = numV base v l n := by
  intro n
  induction n with
  | zero => intro m v l _; rw [numV_done, numV_done]
  | succ n ih =>
    intro m v l h
    cases l with
    | nil => simp
    | cons c r =>
      obtain ⟨m', rfl⟩ : ∃ m', m = m' + 1 := ⟨m - 1, by omega⟩
      rw [List.take_succ_cons, numV, numV, ih m' _ r (by omega)]
theorem numV_cut (base : Int) (s : ByteArray) (a n : Nat) : numV base 0 (s.extract a (a + n)).data.toList n = numV base 0 (s.data.toList.drop a) n := by
  rw [extract_seg]; unfold seg
  rw [List.drop_take, numV_take _ _ _ _ _ (by omega)]

/-- The edge that ten signs write. -/
def edgeV (s : List UInt8) : Option Edge :=
  if (s.getD 0 0).toNat = 44 ∧ (s.getD 5 0).toNat = 62 ∧ 0 ≤ numV 16 0 (s.drop 1) 2 ∧ 0 ≤ numV 16 0 (s.drop 3) 2 ∧ 0 ≤ numV 10 0 (s.drop 6) 4 ∧ numV 16 0 (s.drop 1) 2 ≤ numV 16 0 (s.drop 3) 2
  then some (numV 16 0 (s.drop 1) 2, numV 16 0 (s.drop 3) 2, numV 10 0 (s.drop 6) 4) else none
end Munch
namespace Go.Proofs.YtjhopgfgfljcoaaDoor
open Go.RowKit

theorem numPair_eq (v : Int) : numPair v = .tuple #[.int .i64 (if 0 ≤ v then v else 0), .bool (decide (0 ≤ v))] := by
  unfold numPair; split
  · rename_i h; simp [h]
  · rename_i h; simp [h]

/-- What readEdge answers. -/
def edgePair : Option Munch.Edge → Value
  | none => .tuple #[.agg #[.int .u8 0, .int .u8 0, .int .i64 0], .bool false]
  | some x => .tuple #[.agg #[.int .u8 x.1, .int .u8 x.2.1, .int .i64 x.2.2], .bool true]

theorem getD_at (s : ByteArray) (k : Nat) (h : k < s.size) : s.data.toList.getD k 0 = s[k] := by
  rw [List.getD_eq_getElem?_getD, List.getElem?_eq_getElem (by simpa using h)]; rfl

theorem numPair_is (v : Int) : ∃ a b, numPair v = .tuple #[.int .i64 a, .bool b] ∧ ((0 ≤ v ∧ a = v ∧ b = true) ∨ (v < 0 ∧ b = false)) := by
  by_cases h : 0 ≤ v
  · exact ⟨v, true, by rw [numPair, if_pos h], Or.inl ⟨h, rfl, rfl⟩⟩
  · exact ⟨0, false, by rw [numPair, if_neg h], Or.inr ⟨by omega, rfl⟩⟩

set_option maxHeartbeats 2000000 in
theorem readEdge_any (s : ByteArray) (w : World) (hs : s.size = 10) :
    Calls Tryd.prog 26 #[.string s] w fun e w' => e = .returned (edgePair (Munch.edgeV s.data.toList)) ∧ Below w.heap.size w w' := by
  have hlo := Munch.num2 (s.data.toList.drop 1)
  have hhi := Munch.num2 (s.data.toList.drop 3)
  have hto := Munch.num4 (s.data.toList.drop 6)
  have p1 := Munch.numV_cut 16 s 1 2
  have p2 := Munch.numV_cut 16 s 3 2
  have p3 := Munch.numV_cut 10 s 6 4
  have z1 : (s.extract 1 3).size = 2 := by simp [hs]
  have z2 : (s.extract 3 5).size = 2 := by simp [hs]
  have z3 : (s.extract 6 10).size = 4 := by simp [hs]
  have c1 := readNumber_any (s.extract 1 3) hexSigns 16 (w.alloc (.cells #[.int .u8 0, .int .u8 0, .int .i64 0] 66)) hexIs (by omega)
  have c2 := readNumber_any (s.extract 3 5) hexSigns 16 (w.alloc (.cells #[.int .u8 0, .int .u8 0, .int .i64 0] 66)) hexIs (by omega)
  have c3 := readNumber_any (s.extract 6 10) digitSigns 10 (w.alloc (.cells #[.int .u8 0, .int .u8 0, .int .i64 0] 66)) digitIs (by omega)
  rw [z1, p1] at c1
  rw [z2, p2] at c2
  rw [z3, p3] at c3
  have he : Munch.edgeV s.data.toList = if s[0].toNat = 44 ∧ s[5].toNat = 62 ∧ 0 ≤ Munch.numV 16 0 (s.data.toList.drop 1) 2 ∧ 0 ≤ Munch.numV 16 0 (s.data.toList.drop 3) 2 ∧ 0 ≤ Munch.numV 10 0 (s.data.toList.drop 6) 4 ∧ Munch.numV 16 0 (s.data.toList.drop 1) 2 ≤ Munch.numV 16 0 (s.data.toList.drop 3) 2 then some (Munch.numV 16 0 (s.data.toList.drop 1) 2, Munch.numV 16 0 (s.data.toList.drop 3) 2, Munch.numV 10 0 (s.data.toList.drop 6) 4) else none := by
    unfold Munch.edgeV; rw [getD_at s 0 (by omega), getD_at s 5 (by omega)]
  clear p1 p2 p3 z1 z2 z3
  generalize Munch.edgeV s.data.toList = R at *
  generalize Munch.numV 16 0 (s.data.toList.drop 1) 2 = lo at *
  generalize Munch.numV 16 0 (s.data.toList.drop 3) 2 = hi at *
  generalize Munch.numV 10 0 (s.data.toList.drop 6) 4 = tt at *
  obtain ⟨a1, b1, e1, k1⟩ := numPair_is lo
  obtain ⟨a2, b2, e2, k2⟩ := numPair_is hi
  obtain ⟨a3, b3, e3, k3⟩ := numPair_is tt
  rw [e1] at c1
  rw [e2] at c2
  rw [e3] at c3
  clear e1 e2 e3
  have HE : Hid _ := he; clear he
  have K1 : Hid _ := k1; clear k1
  have K2 : Hid _ := k2; clear k2
  have K3 : Hid _ := k3; clear k3
  go_enter Tryd.func26, Tryd.ntmps26
  go_wp2_with fail
  refine c1.mono ?_
  rintro e w' ⟨rfl, rfl⟩
  go_wp2_with fail
  refine c2.mono ?_
  rintro e w' ⟨rfl, rfl⟩
  go_wp2_with fail
  refine c3.mono ?_
  rintro e w' ⟨rfl, rfl⟩
  clear c1 c2 c3
  have hbel : Below w.heap.size w (w.alloc (.cells #[.int .u8 0, .int .u8 0, .int .i64 0] 66)) := (Below.refl _ _).alloc (Nat.le_refl _) _
  by_cases h0 : s[0].toNat = 44
  · have h0' : ((s[0].toNat : Int) != 44) = false := by rw [h0]; rfl
    by_cases h5 : s[5].toNat = 62
    · have h5' : ((s[5].toNat : Int) != 62) = false := by rw [h5]; rfl
      rcases K1.out with ⟨q1, rfl, rfl⟩ | ⟨q1, rfl⟩
      · rcases K2.out with ⟨q2, rfl, rfl⟩ | ⟨q2, rfl⟩
        · rcases K3.out with ⟨q3, rfl, rfl⟩ | ⟨q3, rfl⟩
          · by_cases hh : a2 < a1
            · have hR : R = none := by rw [HE.out, if_neg (by omega)]
              subst hR
              clear h0 h5 HE K1 K2 K3
              go_wp2_with fail
              exact bodyPost_ret (v := .tuple #[.agg #[.int .u8 0, .int .u8 0, .int .i64 0], .bool false]) (by simp [results, Tryd.results26, go_sem]) rfl ⟨rfl, hbel⟩
            · have hR : R = some (a1, a2, a3) := by rw [HE.out, if_pos ⟨h0, h5, by omega, by omega, by omega, by omega⟩]
              subst hR
              clear h0 h5 HE K1 K2 K3
              go_wp2_with fail
              exact bodyPost_ret (v := .tuple #[.agg #[.int .u8 a1, .int .u8 a2, .int .i64 a3], .bool true]) (by simp [results, Tryd.results26, go_sem]) rfl ⟨rfl, (Below.refl _ _).alloc (Nat.le_refl _) _⟩
          · have hR : R = none := by rw [HE.out, if_neg (by omega)]
            subst hR
            clear h0 h5 HE K1 K2 K3
            go_wp2_with fail
            exact bodyPost_ret (v := .tuple #[.agg #[.int .u8 0, .int .u8 0, .int .i64 0], .bool false]) (by simp [results, Tryd.results26, go_sem]) rfl ⟨rfl, hbel⟩
        · have hR : R = none := by rw [HE.out, if_neg (by omega)]
          subst hR
          clear h0 h5 HE K1 K2 K3
          go_wp2_with fail
          exact bodyPost_ret (v := .tuple #[.agg #[.int .u8 0, .int .u8 0, .int .i64 0], .bool false]) (by simp [results, Tryd.results26, go_sem]) rfl ⟨rfl, hbel⟩
      · have hR : R = none := by rw [HE.out, if_neg (by omega)]
        subst hR
        clear h0 h5 HE K1 K2 K3
        go_wp2_with fail
        exact bodyPost_ret (v := .tuple #[.agg #[.int .u8 0, .int .u8 0, .int .i64 0], .bool false]) (by simp [results, Tryd.results26, go_sem]) rfl ⟨rfl, hbel⟩
    · have h5' : ((s[5].toNat : Int) != 62) = true := by rw [bne_iff_ne]; omega
      have hR : R = none := by rw [HE.out, if_neg (fun h => h5 h.2.1)]
      subst hR
      clear h0 h5 HE K1 K2 K3
      go_wp2_with fail
      exact bodyPost_ret (v := .tuple #[.agg #[.int .u8 0, .int .u8 0, .int .i64 0], .bool false]) (by simp [results, Tryd.results26, go_sem]) rfl ⟨rfl, hbel⟩
  · have h0' : ((s[0].toNat : Int) != 44) = true := by rw [bne_iff_ne]; omega
    have hR : R = none := by rw [HE.out, if_neg (fun h => h0 h.1)]
    subst hR
    clear h0 HE K1 K2 K3
    go_wp2_with fail
    exact bodyPost_ret (v := .tuple #[.agg #[.int .u8 0, .int .u8 0, .int .i64 0], .bool false]) (by simp [results, Tryd.results26, go_sem]) rfl ⟨rfl, hbel⟩
end Go.Proofs.YtjhopgfgfljcoaaDoor
