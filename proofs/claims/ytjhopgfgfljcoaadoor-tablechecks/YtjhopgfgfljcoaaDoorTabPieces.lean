/-
  THE WALK of munchref.pieces.
-/
import Derived.Test.YtjhopgfgfljcoaaDoorTabNum
namespace Go.Proofs.YtjhopgfgfljcoaaDoor
open Go.RowKit

theorem infoString : (Tryd.prog.info? 9).map (fun i => (i.zero, i.size, i.bytes)) = some (some (.string ByteArray.empty), 1, 16) := by kernel_rfl

/-- One element more in a row that the call owns: nothing old has turned. -/
theorem below_append {B : Nat} {w wr w1 : World} {e : TypeId} {size : Nat} {v : Value} {n : Nat} {xs : List Value} (hnx : Below B w wr) (hB : B ≤ wr.heap.size) (hown : wr.ownsRow B e size v n xs) (o : Obj) (hg : (wr.alloc o).grownBy w1 v.ownBlock) : Below B w w1 :=
  (hnx.alloc hB o).grown hg (by simp; omega) (fun k hk => (hown.lt k hk).1)

set_option maxHeartbeats 1000000 in
theorem pieces_any (t : ByteArray) (w : World) (ht : t.size ≤ 200000) :
    Calls Tryd.prog 15 #[.string t] w fun e w' => ∃ (v : Value) (L : List ByteArray), e = .returned v ∧ w'.ownsRow w.heap.size 9 1 v L.length (L.map Value.string) ∧
      L.map (·.data.toList) = Munch.splitF [] t.data.toList ∧ Below w.heap.size w w' := by
  obtain ⟨i0, hi, hz0, hz1, hz2⟩ := info_parts infoString
  go_enter Tryd.func15, Tryd.ntmps15
  go_wp2_with fail
  go_loopw [3, 4, 5] (fun v f i wr => ∃ (k a : Nat) (L : List ByteArray), k ≤ t.size ∧ a ≤ k ∧ L.length ≤ k ∧ i = .int .i64 k ∧ f = .int .i64 a ∧ wr.ownsRow w.heap.size 9 1 v L.length (L.map Value.string) ∧
      L.map (·.data.toList) ++ Munch.splitF (Munch.seg t a k) (t.data.toList.drop k) = Munch.splitF [] t.data.toList ∧ Below w.heap.size w wr) (fun _ _ i _ => t.size - (intOf i).toNat)
  case atStart => exact ⟨0, 0, [], Nat.zero_le _, Nat.le_refl _, Nat.le_refl _, rfl, rfl, World.ownsRow_nil _ _ _ _, by rw [Munch.seg_self]; rfl, Below.refl _ _⟩
  case round =>
    obtain ⟨k, a, L, hk, hak, hL, rfl, rfl, hown, hS, hnx⟩ := hrel
    have H : Hid _ := hS; clear hS
    have hsz : w.heap.size ≤ wr.heap.size := hnx.size
    by_cases hlt : k < t.size
    · by_cases hc : t[k].toNat = 59
      · have hcb : ((t[k].toNat : Int) == 59) = true := by rw [hc]; rfl
        have HC : Hid _ := hc; clear hc
        go_wp2_with (at_builtin; refine wpList_append_own _ rfl (.tmp 16) (.tmp 21) 48 rfl w.heap.size 9 i0 (.string ByteArray.empty) 1 16 Tryd.underlying48 hi hz0 hz1 hz2 rfl (by decide) _ _ _ rfl (hown.alloc _) ⟨wr.heap.size, 0, none⟩ 1 1 [.string (t.extract a k)] rfl rfl (cell_one_new _ _ _) (by intro u hu; simp at hu; subst hu; rfl) (by unfold maxLen; omega) (by omega) (by simp; omega) ?_)
        intro v' w1 hown' hgrow _
        have hb := below_append hnx hsz hown _ hgrow
        clear hgrow
        go_wp2_with fail
        go_roundw
        case rel =>
          refine ⟨k + 1, k + 1, L ++ [t.extract a k], by omega, by omega, by simp; omega, by go_num, by go_num, by simpa using hown', ?_, hb⟩
          rw [← H.out, Munch.drop_cons t k hlt, Munch.splitF_cut _ _ _ HC.out, Munch.seg_self]
          simp only [List.map_append, List.map_cons, List.map_nil, Munch.extract_seg, List.append_assoc, List.cons_append, List.nil_append]
        case measure => simp [intOf]; omega
      · have hcb : ((t[k].toNat : Int) == 59) = false := by rw [beq_eq_false_iff_ne]; omega
        have HC : Hid _ := hc; clear hc
        go_wp2_with fail
        go_roundw
        case rel =>
          refine ⟨k + 1, a, L, by omega, by omega, by omega, by go_num, rfl, hown, ?_, hnx⟩
          rw [← H.out, Munch.drop_cons t k hlt, Munch.splitF_go _ _ _ HC.out, Munch.seg_snoc t a k hak hlt]
        case measure => simp [intOf]; omega
    · obtain rfl : k = t.size := by omega
      go_wp2_with (at_builtin; refine wpList_append_own _ rfl (.tmp 25) (.tmp 29) 48 rfl w.heap.size 9 i0 (.string ByteArray.empty) 1 16 Tryd.underlying48 hi hz0 hz1 hz2 rfl (by decide) _ _ _ rfl (hown.alloc _) ⟨wr.heap.size, 0, none⟩ 1 1 [.string (t.extract a t.size)] rfl rfl (cell_one_new _ _ _) (by intro u hu; simp at hu; subst hu; rfl) (by unfold maxLen; omega) (by omega) (by simp; omega) ?_)
      intro v' w1 hown' hgrow _
      have hb := below_append hnx hsz hown _ hgrow
      clear hgrow
      go_wp2_with fail
      go_ret
      refine ⟨v', L ++ [t.extract a t.size], rfl, by simpa using hown', ?_, hb⟩
      rw [← H.out, Munch.drop_nil t _ (Nat.le_refl _)]
      simp only [List.map_append, List.map_cons, List.map_nil, Munch.extract_seg, Munch.splitF]
end Go.Proofs.YtjhopgfgfljcoaaDoor
