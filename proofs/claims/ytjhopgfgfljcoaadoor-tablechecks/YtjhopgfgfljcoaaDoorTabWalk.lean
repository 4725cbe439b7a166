/-
  THE WALK of munchref.Walk.
-/
import Derived.Test.YtjhopgfgfljcoaaDoorTabStep
import Derived.Deep.RegionWith
namespace Go.Proofs.YtjhopgfgfljcoaaDoor
open Go.RowKit

theorem stateCells_at : ∀ (S : List St) (vs : List Value) (_ : vs.length = S.length) (i : Nat) (h : i < S.length) (h' : i < vs.length), (stateCells S vs)[i * 2]? = some (.int .i64 S[i].1) ∧ (stateCells S vs)[i * 2 + 1]? = some vs[i] := by
  intro S
  induction S with
  | nil => intro vs _ i h; simp at h
  | cons x r ih =>
    intro vs hl i h h'
    cases vs with
    | nil => simp at h'
    | cons u us =>
      have e : stateCells (x :: r) (u :: us) = .int .i64 x.1 :: u :: stateCells r us := by simp [stateCells]
      rw [e]
      cases i with
      | zero => simp
      | succ i =>
        have := ih us (by simpa using hl) i (by simpa using h) (by simpa using h')
        rw [show (i + 1) * 2 = i * 2 + 1 + 1 by omega]
        simpa using this

set_option maxHeartbeats 4000000 in
set_option maxRecDepth 100000 in
theorem walk_any (t s : ByteArray) (w : World) (ht : t.size ≤ maxLen) (hs : s.size ≤ maxLen) :
    Calls Tryd.prog 9 #[.string t, .string s] w fun e w' => e = .returned (.tuple #[.int .i64 (Munch.walkV t.data.toList s.data.toList).1, .int .i64 (Munch.walkV t.data.toList s.data.toList).2.1, .int .i64 (Munch.walkV t.data.toList s.data.toList).2.2]) ∧ Below w.heap.size w w' := by
  have hs' : s.size ≤ 9223372036854775807 := by unfold maxLen at hs; omega
  by_cases hc : (Munch.checkTableV t.data.toList).1 = 0
  · -- a table
    have hok : t.size ≤ 200000 ∧ ∃ S, Munch.tableV t.data.toList = .ok S := by
      unfold Munch.checkTableV at hc
      split at hc
      · simp at hc
      · rename_i hlen
        refine ⟨by simpa using hlen, ?_⟩
        split at hc
        · simp at hc
        · rename_i S hS; exact ⟨S, hS⟩
    obtain ⟨ht2, S, hS⟩ := hok
    have hw : Munch.walkV t.data.toList s.data.toList = (Munch.goV S 0 s.data.toList, 0, 0) := by unfold Munch.walkV; rw [if_neg (by omega), hS]
    rw [hw]
    have hto := Munch.tableV_to _ _ hS
    have hc1 := Munch.checkTableV_ok _ _ (by simpa using ht2) hS
    have HC1 : Hid _ := hc1
    have HTO : Hid _ := hto
    have hS1 := hto.2
    have HS : Hid _ := hS
    clear hw hc1 hto hc hS ht
    go_enter Tryd.func9, Tryd.ntmps9
    go_wp2_with fail
    refine (checkTable_any t _ (by unfold maxLen; omega)).mono ?_
    rintro e w1 ⟨rfl, hb1⟩
    rw [HC1.out]
    go_wp2_with fail
    refine (states_any t _ ht2).mono ?_
    rintro e w2 (⟨i, hR, rfl, hb2⟩ | ⟨S', v, vs, hR, rfl, hin, hb2⟩)
    · rw [HS.out] at hR; cases hR
    · rw [HS.out] at hR; cases hR
      obtain ⟨g, cap, rfl⟩ : ∃ g cap, v = .slice (some ⟨g, 0, none⟩) S.length cap := by
        rcases hin.own.2 with ⟨_, h0⟩ | ⟨g, cap, cur, hv, _⟩
        · omega
        · exact ⟨g, cap, hv⟩
      have hgl := (hin.own.lt g rfl).2
      have hvl := hin.len
      have hmax : S.length ≤ 9223372036854775807 := by
        rcases hin.own.2 with ⟨_, h0⟩ | ⟨g, cap', cur, _, _, _, h1, h2, _⟩
        · omega
        · unfold maxLen at h2; omega
      have HVL : Hid _ := hvl; clear hvl
      have hbw : Below w.heap.size w w2 := hb1.trans (hb2.mono hb1.size)
      go_wp2_with fail
      go_loopw [12, 13] (fun kk i wr => ∃ (q j : Nat), q < S.length ∧ j ≤ s.size ∧ kk = .int .i64 q ∧ i = .int .i64 j ∧ Below w2.heap.size w2 wr ∧ Munch.goV S q (s.data.toList.drop j) = Munch.goV S 0 s.data.toList) (fun _ i _ => s.size - (intOf i).toNat)
      case atStart => exact ⟨0, 0, by omega, Nat.zero_le _, rfl, rfl, Below.refl _ _, rfl⟩
      case round =>
        obtain ⟨q, j, hq, hj, rfl, rfl, hnx, hV⟩ := hrel
        have H : Hid _ := hV; clear hV
        have hqv : q < vs.length := by rw [HVL.out]; exact hq
        have hat := stateCells_at S vs HVL.out q hq hqv
        have k0 : wr.cell? ⟨g, q * 2, none⟩ = some (.int .i64 S[q].1) := by rw [hnx.cell (p := ⟨g, q * 2, none⟩) hgl, hin.own.cellAt (q * 2) (by omega)]; exact hat.1
        have k1 : wr.cell? ⟨g, q * 2 + 1, none⟩ = some vs[q] := by rw [hnx.cell (p := ⟨g, q * 2 + 1, none⟩) hgl, hin.own.cellAt (q * 2 + 1) (by omega)]; exact hat.2
        clear hat
        have hsz2 : w.heap.size ≤ w2.heap.size := hbw.size
        have hsz3 : w2.heap.size ≤ wr.heap.size := hnx.size
        by_cases hlt : j < s.size
        · have hu := ownsRow_below (hin.edge q S[q] vs[q] (by simp [hq]) (by simp [hqv])) hnx (Nat.le_refl _)
          have hst := Munch.stepV_to S[q].2 (s[j].toNat : Int) S.length ((HTO.out.1 S[q] (List.getElem_mem hq)).1)
          have hgo : Munch.goV S q (s.data.toList.drop j) = if Munch.stepV S[q].2 (s[j].toNat : Int) < 0 then -1 else Munch.goV S (Munch.stepV S[q].2 (s[j].toNat : Int)) (s.data.toList.drop (j + 1)) := by
            rw [Munch.drop_cons s j hlt]; simp [Munch.goV, hq]
          have HGO : Hid _ := hgo; clear hgo
          generalize vs[q] = u at *
          obtain ⟨ua, uc, rfl⟩ := ownsRow_shape hu
          have hj2 : (s[j].toNat : Int) ≤ 255 := by have := s[j].toNat_lt; omega
          have hwr : IntKind.i64.wrap (s[j].toNat : Int) = (s[j].toNat : Int) := by rw [IntKind.wrap_i64]; omega
          have hnx' := (hnx.alloc hsz3 (.cells #[.int .i64 S[q].1, .slice ua S[q].2.length uc] 45))
          by_cases hneg : Munch.stepV S[q].2 (s[j].toNat : Int) < 0
          · have hg : Munch.goV S 0 s.data.toList = -1 := by rw [← H.out, HGO.out, if_pos hneg]
            have HG : Hid _ := hg; clear hg
            go_wp2_with fail
            go_region_with (go_at_call 13; refine (step_any _ _ S[q].2 _ _ _ hu.drew).mono ?_; rintro e w' ⟨rfl, rfl⟩)
            all_goals
              go_wp2_with fail
              go_ret3
              exact ⟨by rw [HG.out]; rfl, hbw.trans (hnx'.drew.mono hsz2)⟩
          · have hnn : 0 ≤ Munch.stepV S[q].2 (s[j].toNat : Int) := by omega
            obtain ⟨x, hx⟩ := Int.eq_ofNat_of_zero_le hnn
            clear hnn
            have hxl : x < S.length := by omega
            have hg : Munch.goV S x (s.data.toList.drop (j + 1)) = Munch.goV S 0 s.data.toList := by rw [← H.out, HGO.out, if_neg hneg, hx]
            have HG : Hid _ := hg; clear hg
            have HX : Hid _ := hx
            clear hneg hst HGO
            go_wp2_with fail
            go_region_with (go_at_call 13; refine (step_any _ _ S[q].2 _ _ _ hu.drew).mono ?_; rintro e w' ⟨rfl, rfl⟩)
            all_goals
              go_wp2_with fail
              go_roundw
              case rel => exact ⟨x, j + 1, hxl, by omega, rfl, by go_num, hnx'.drew, HG.out⟩
              case measure => simp [intOf]; omega
        · obtain rfl : j = s.size := by omega
          have hg : Munch.goV S 0 s.data.toList = S[q].1 := by rw [← H.out, Munch.drop_nil s _ (Nat.le_refl _)]; simp [Munch.goV, hq]
          have HG : Hid _ := hg; clear hg
          go_wp2_with fail
          go_ret3
          exact ⟨by rw [HG.out]; rfl, hbw.trans (hnx.mono hsz2)⟩
  · have hw : Munch.walkV t.data.toList s.data.toList = (0, Munch.checkTableV t.data.toList) := by unfold Munch.walkV; rw [if_pos hc]
    rw [hw]
    have hne : ((Munch.checkTableV t.data.toList).1 != 0) = true := by rw [bne_iff_ne]; exact hc
    clear hw hc
    go_enter Tryd.func9, Tryd.ntmps9
    go_wp2_with fail
    refine (checkTable_any t _ ht).mono ?_
    rintro e w1 ⟨rfl, hb1⟩
    go_wp2_with fail
    go_ret3
    exact ⟨rfl, hb1⟩
end Go.Proofs.YtjhopgfgfljcoaaDoor
