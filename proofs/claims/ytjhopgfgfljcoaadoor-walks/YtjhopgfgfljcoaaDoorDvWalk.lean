/-
  THE WALKS of (Table).Walk, munch.readTable, munch.CheckTable, munch.Walk.
-/
import Derived.Test.YtjhopgfgfljcoaaDoorDvNext
namespace Go.Proofs.YtjhopgfgfljcoaaDoor
open Go.RowKit

set_option maxHeartbeats 4000000 in
set_option maxRecDepth 100000 in
theorem tableWalk_any (S : List St) (v : Value) (vs : List Value) (s : ByteArray) (base : Nat) (w : World) (hin : StatesInD w base v S vs) (hs : s.size ≤ maxLen) (hS1 : 1 ≤ S.length) (hto : ∀ x ∈ S, ∀ e ∈ x.2, 0 ≤ e.2.2 ∧ e.2.2 < S.length) (hris : ∀ x ∈ S, Munch.Rising (-1) x.2 ∧ x.2.length ≤ 200000) :
    Calls Tryd.prog 12 #[v, .string s] w fun e w' => e = .returned (.int .i64 (Munch.goV S 0 s.data.toList)) ∧ Below w.heap.size w w' := by
  have hs' : s.size ≤ 9223372036854775807 := by unfold maxLen at hs; omega
  have HTO : Hid _ := hto; clear hto
  have HRIS : Hid _ := hris; clear hris
  go_enter Tryd.func12, Tryd.ntmps12
  go_wp2_with fail
  go_loopw [5, 6] (fun kk i wr => ∃ (x : Int) (j : Nat), j ≤ s.size ∧ kk = .int .i64 x ∧ i = .int .i64 j ∧ Below w.heap.size w wr ∧ ((x = -1 ∧ Munch.goV S 0 s.data.toList = -1) ∨ ∃ q : Nat, x = q ∧ q < S.length ∧ Munch.goV S q (s.data.toList.drop j) = Munch.goV S 0 s.data.toList)) (fun _ i _ => s.size - (intOf i).toNat)
  case atStart => exact ⟨0, 0, Nat.zero_le _, rfl, rfl, Below.refl _ _, Or.inr ⟨0, rfl, by omega, rfl⟩⟩
  case round =>
    obtain ⟨x, j, hj, rfl, rfl, hnx, hV⟩ := hrel
    have hinr := hin.keep hnx (Nat.le_refl _)
    have hsz : w.heap.size ≤ wr.heap.size := hnx.size
    rcases hV with ⟨rfl, hV⟩ | ⟨q, rfl, hq, hV⟩
    · have H : Hid _ := hV; clear hV
      have ht := tag_nowhere v wr
      by_cases hlt : j < s.size
      · go_wp2_with fail
        refine ht.mono ?_
        rintro e w' ⟨rfl, rfl⟩
        go_wp2_with fail
        go_ret
        exact ⟨ret_int H.out.symm, hnx⟩
      · obtain rfl : j = s.size := by omega
        go_wp2_with fail
        refine ht.mono ?_
        rintro e w' ⟨rfl, rfl⟩
        go_wp2_with fail
        go_ret
        exact ⟨ret_int H.out.symm, hnx⟩
    · have H : Hid _ := hV; clear hV
      have hne : ((q : Int) != -1) = true := by rw [bne_iff_ne]; omega
      by_cases hlt : j < s.size
      · have hgo : Munch.goV S q (s.data.toList.drop j) = if Munch.stepV S[q].2 (s[j].toNat : Int) < 0 then -1 else Munch.goV S (Munch.stepV S[q].2 (s[j].toNat : Int)) (s.data.toList.drop (j + 1)) := by
          rw [Munch.drop_cons s j hlt]; simp [Munch.goV, hq]
        have HGO : Hid _ := hgo; clear hgo
        have hst := Munch.stepV_to S[q].2 (s[j].toNat : Int) S.length (HTO.out S[q] (List.getElem_mem hq))
        have HST : Hid _ := hst; clear hst
        have hn := next_any S v vs q (s[j].toNat : Int) base wr hinr hq (HRIS.out S[q] (List.getElem_mem hq)).1 (HRIS.out S[q] (List.getElem_mem hq)).2 (HTO.out S[q] (List.getElem_mem hq))
        go_wp2_with fail
        refine hn.mono ?_
        rintro e w' ⟨rfl, hb'⟩
        clear hn
        go_wp2_with fail
        go_roundw
        case rel =>
          refine ⟨Munch.stepV S[q].2 (s[j].toNat : Int), j + 1, by omega, rfl, by go_num, hnx.trans (hb'.mono hsz), ?_⟩
          rcases HST.out with h | ⟨h0, h1⟩
          · exact Or.inl ⟨h, by rw [← H.out, HGO.out, h, if_pos (by decide)]⟩
          · obtain ⟨q', hq'⟩ := Int.eq_ofNat_of_zero_le h0
            rw [hq'] at h1
            exact Or.inr ⟨q', hq', by omega, by rw [← H.out, HGO.out, if_neg (by omega), hq']⟩
        case measure => simp [intOf]; omega
      · obtain rfl : j = s.size := by omega
        have hg : Munch.goV S 0 s.data.toList = S[q].1 := by rw [← H.out, Munch.drop_nil s _ (Nat.le_refl _)]; simp [Munch.goV, hq]
        have HG : Hid _ := hg; clear hg
        have ht := tag_any S v vs q base wr hinr hq
        go_wp2_with fail
        refine ht.mono ?_
        rintro e w' ⟨rfl, rfl⟩
        go_wp2_with fail
        go_ret
        exact ⟨ret_int HG.out.symm, hnx⟩

set_option maxHeartbeats 1000000 in
set_option maxRecDepth 100000 in
theorem readTable_any (t : ByteArray) (m : Int) (w : World) (ht : t.size ≤ maxLen) (hm : w.cell? ⟨0, 0, none⟩ = some (.int .i64 m)) :
    Calls Tryd.prog 10 #[.string t] w fun e w' =>
      (((Munch.checkTableV t.data.toList).1 ≠ 0) ∧ e = .returned (.tuple #[.slice none 0 0, .int .i64 (Munch.checkTableV t.data.toList).1, .int .i64 (Munch.checkTableV t.data.toList).2]) ∧ Below w.heap.size w w') ∨
      (∃ S v vs, Munch.checkTableV t.data.toList = (0, 0) ∧ t.size ≤ 200000 ∧ Munch.tableV t.data.toList = .ok S ∧ e = .returned (.tuple #[v, .int .i64 0, .int .i64 0]) ∧ StatesInD w' w.heap.size v S vs ∧ Below w.heap.size w w') := by
  unfold maxLen at ht
  have hl : t.data.toList.length = t.size := by simp
  by_cases hb : 200000 < t.size
  · have hc := Munch.checkTableV_long t.data.toList (by omega)
    have HC : Hid _ := hc
    have hb' : (200000 : Int) < (t.size : Int) := by omega
    clear hb hl hc
    go_enter Tryd.func10, Tryd.ntmps10
    go_wp2_with fail
    go_ret3
    exact Or.inl ⟨by rw [HC.out]; decide, by rw [HC.out]; rfl, Below.refl _ _⟩
  · have hb' : (t.size : Int) ≤ (200000 : Int) := by omega
    have hl' : t.data.toList.length ≤ 200000 := by omega
    have HL : Hid _ := hl'; clear hb hl hl'
    go_enter Tryd.func10, Tryd.ntmps10
    go_wp2_with fail
    refine (read_any t m _ (by omega) hm).mono ?_
    rintro e w1 (⟨i, hR, rfl, hb1⟩ | ⟨S, v, vs, hR, rfl, hin, hb1⟩)
    · have HR : Hid _ := Munch.checkTableV_bad _ _ HL.out hR
      clear hR
      go_wp2_with fail
      go_ret3
      exact Or.inl ⟨by rw [HR.out]; exact (by decide : (5 : Int) ≠ 0), by rw [HR.out]; rfl, hb1⟩
    · have HR : Hid _ := Munch.checkTableV_ok _ _ HL.out hR
      have HR2 : Hid _ := hR
      clear hR
      go_wp2_with fail
      go_ret3
      exact Or.inr ⟨S, v, vs, HR.out, by omega, HR2.out, rfl, hin, hb1⟩

set_option maxHeartbeats 1000000 in
theorem checkTableD_any (t : ByteArray) (m : Int) (w : World) (ht : t.size ≤ maxLen) (hm : w.cell? ⟨0, 0, none⟩ = some (.int .i64 m)) :
    Calls Tryd.prog 5 #[.string t] w fun e w' => e = .returned (.tuple #[.int .i64 (Munch.checkTableV t.data.toList).1, .int .i64 (Munch.checkTableV t.data.toList).2]) ∧ Below w.heap.size w w' := by
  go_enter Tryd.func5, Tryd.ntmps5
  go_wp2_with fail
  refine (readTable_any t m _ ht hm).mono ?_
  rintro e w1 (⟨_, rfl, hb1⟩ | ⟨S, v, vs, hc, _, _, rfl, _, hb1⟩)
  · go_wp2_with fail
    go_ret2
    exact ⟨rfl, hb1⟩
  · have HC : Hid _ := hc
    clear hc
    go_wp2_with fail
    go_ret2
    exact ⟨by rw [HC.out]; rfl, hb1⟩

set_option maxHeartbeats 1000000 in
theorem walkD_any (t s : ByteArray) (m : Int) (w : World) (ht : t.size ≤ maxLen) (hs : s.size ≤ maxLen) (hm : w.cell? ⟨0, 0, none⟩ = some (.int .i64 m)) :
    Calls Tryd.prog 8 #[.string t, .string s] w fun e w' => e = .returned (.tuple #[.int .i64 (Munch.walkV t.data.toList s.data.toList).1, .int .i64 (Munch.walkV t.data.toList s.data.toList).2.1, .int .i64 (Munch.walkV t.data.toList s.data.toList).2.2]) ∧ Below w.heap.size w w' := by
  go_enter Tryd.func8, Tryd.ntmps8
  go_wp2_with fail
  refine (readTable_any t m _ ht hm).mono ?_
  rintro e w1 (⟨hne, rfl, hb1⟩ | ⟨S, v, vs, hc, ht2, hS, rfl, hin, hb1⟩)
  · have hw : Munch.walkV t.data.toList s.data.toList = (0, Munch.checkTableV t.data.toList) := by unfold Munch.walkV; rw [if_pos hne]
    have HW : Hid _ := hw
    have hne' : ((Munch.checkTableV t.data.toList).1 != 0) = true := by rw [bne_iff_ne]; exact hne
    clear hw hne
    go_wp2_with fail
    go_ret3
    exact ⟨by rw [HW.out]; rfl, hb1⟩
  · have hw : Munch.walkV t.data.toList s.data.toList = (Munch.goV S 0 s.data.toList, 0, 0) := by unfold Munch.walkV; rw [if_neg (by rw [hc]; decide), hS]
    have HW : Hid _ := hw
    have hto := Munch.tableV_to _ _ hS
    have hris := Munch.tableV_rising _ _ hS
    have hl : t.data.toList.length = t.size := by simp
    have hwalk := tableWalk_any S v vs s _ w1 hin hs hto.2 (fun x hx => (hto.1 x hx).1) (fun x hx => ⟨(hris x hx).1, by have := (hris x hx).2; omega⟩)
    clear hto hris hw hc hS hl
    go_wp2_with fail
    refine hwalk.mono ?_
    rintro e w2 ⟨rfl, hb2⟩
    go_wp2_with fail
    go_ret3
    exact ⟨by rw [HW.out]; rfl, hb1.trans (hb2.mono hb1.size)⟩
end Go.Proofs.YtjhopgfgfljcoaaDoor
