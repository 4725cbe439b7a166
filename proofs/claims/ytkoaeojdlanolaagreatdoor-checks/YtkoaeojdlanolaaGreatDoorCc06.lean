import Derived.Test.YtkoaeojdlanolaaGreatDoorCc05
import Derived.Lib.SliceRun
import Derived.Deep.RegionWith
/-
  slices.CompactFunc over trees.
-/
namespace Go.Proofs.YtkoaeojdlanolaaGreatDoor
open Go.RowKit

/-- A row of trees: its block, how many cells it has, what its first cells hold. -/
def RowIs (w : World) (g cap : Nat) (ys : List Value) : Prop := ∃ cur : Array Value, Blk w g 72 cur ∧ cur.size = cap ∧ ys.length ≤ cap ∧ cap ≤ maxLen ∧ cur.toList.take ys.length = ys
theorem RowIs.lt {w : World} {g cap : Nat} {ys : List Value} (h : RowIs w g cap ys) : g < w.heap.size := by obtain ⟨cur, h, _⟩ := h; exact h.lt
theorem RowIs.cell {w : World} {g cap : Nat} {ys : List Value} (h : RowIs w g cap ys) (i : Nat) (hi : i < ys.length) : w.cell? ⟨g, i, none⟩ = some ys[i] := by
  obtain ⟨cur, hb, h1, h2, _, h3⟩ := h
  rw [hb.cell i]
  have : ys[i]? = (cur.toList.take ys.length)[i]? := by rw [h3]
  rw [List.getElem?_take, if_pos hi] at this
  rw [← Array.getElem?_toList, ← this]; simp [hi]
theorem RowIs.frozen {w : World} {g cap : Nat} {ys : List Value} (h : RowIs w g cap ys) (i : Nat) : w.frozen? ⟨g, i, none⟩ = false := by obtain ⟨cur, hb, _⟩ := h; exact hb.frozen i
theorem RowIs.set {w : World} {g cap : Nat} {ys : List Value} (h : RowIs w g cap ys) (i : Nat) (v : Value) : RowIs (w.setCell ⟨g, i, none⟩ v) g cap (ys.set i v) := by
  obtain ⟨cur, hb, h1, h2, h3, h4⟩ := h
  refine ⟨_, hb.set i v, by simpa using h1, by simpa using h2, h3, ?_⟩
  rw [List.length_set, Array.toList_setIfInBounds, List.take_set, h4]
theorem RowIs.keep {w w' : World} {g cap : Nat} {ys : List Value} (h : RowIs w g cap ys) (hb : Below w.heap.size w w') : RowIs w' g cap ys := by
  obtain ⟨cur, h0, h1⟩ := h
  exact ⟨cur, h0.below hb h0.lt, h1⟩
theorem RowIs.take {w : World} {g cap : Nat} {ys : List Value} (h : RowIs w g cap ys) (k : Nat) : RowIs w g cap (ys.take k) := by
  obtain ⟨cur, hb, h1, h2, h3, h4⟩ := h
  refine ⟨cur, hb, h1, by simp; omega, h3, ?_⟩
  conv => rhs; rw [← h4]
  rw [List.take_take, List.length_take]

/-- Only the row's block has turned, and blocks are new. -/
structure Turned (g : Nat) (w w' : World) : Prop where
  below : Below g w w'
  keeps : Keeps (· ≠ g) w w'
theorem Turned.refl (g : Nat) (w : World) : Turned g w w := ⟨Below.refl _ _, Keeps.refl _ _⟩
theorem Turned.grew {g : Nat} {w w1 w2 : World} (h : Turned g w w1) (hg : g < w.heap.size) (hb : Below w1.heap.size w1 w2) : Turned g w w2 :=
  ⟨h.below.trans (hb.mono (by have := h.keeps.1; omega)), h.keeps.trans (keeps_below hb)⟩
theorem Turned.set {g : Nat} {w w1 : World} (h : Turned g w w1) (i : Nat) (v : Value) : Turned g w (w1.setCell ⟨g, i, none⟩ v) :=
  ⟨h.below.setCell (Nat.le_refl _) v, h.keeps.trans ⟨by simp [World.setCell], fun b _ hb => Below.heap_setCell w1 ⟨g, i, none⟩ v b hb⟩⟩

theorem RowIs.setCells {w : World} {g cap : Nat} {ys : List Value} (h : RowIs w g cap ys) : ∀ (vs : List Value) (o : Nat), ys.length ≤ o → RowIs (w.setCells g o vs) g cap ys := by
  intro vs
  induction vs generalizing w with
  | nil => intro o _; exact h
  | cons v r ih =>
    intro o ho
    have h1 := h.set o v
    rw [List.set_eq_of_length_le ho] at h1
    exact ih h1 (o + 1) (by omega)
theorem Turned.setCells {g : Nat} {w w1 : World} (h : Turned g w w1) : ∀ (vs : List Value) (o : Nat), Turned g w (w1.setCells g o vs) := by
  intro vs
  induction vs generalizing w1 with
  | nil => intro o; exact h
  | cons v r ih => intro o; exact ih (h.set o v) (o + 1)
theorem take_mono {α : Type} (l : List α) (a b : Nat) (h : a ≤ b) : (l.take a).Sublist (l.take b) := by
  have : l.take a = (l.take b).take a := by rw [List.take_take, Nat.min_eq_left h]
  rw [this]; exact List.take_sublist _ _
theorem set_take {α : Type} (l : List α) (k : Nat) (x : α) (h : k < l.length) : (l.set k x).take (k + 1) = l.take k ++ [x] := by
  rw [List.take_succ_eq_append_getElem (by simpa using h), List.getElem_set_self]
  congr 1
  rw [List.take_set, List.set_eq_of_length_le (by simp; omega)]

set_option maxHeartbeats 4000000 in
set_option maxRecDepth 100000 in
theorem compact_any (ts : List Tr) (g cap : Nat) (w : World) (hK : ∀ t ∈ ts, Keyed t.v t.k) (hR : RowIs w g cap (ts.map (·.v))) :
    Calls Tryz.prog 103 #[.slice (some ⟨g, 0, none⟩) ts.length cap, .func (.func 104) #[] #[]] w fun e w' =>
      ∃ us : List Tr, e = .returned (.slice (some ⟨g, 0, none⟩) us.length cap) ∧ us.Sublist ts ∧ (∀ t ∈ ts, ∃ u ∈ us, u.k = t.k) ∧ RowIs w' g cap (us.map (·.v)) ∧ Turned g w w' := by
  have hmax : ts.length ≤ cap ∧ cap ≤ 9223372036854775807 := by
    obtain ⟨cur, _, _, h2, h3, _⟩ := hR
    unfold maxLen at h3
    simp at h2
    omega
  have HK : Hid _ := hK; clear hK
  by_cases h2 : ts.length < 2
  · have h2' : (ts.length : Int) < 2 := by omega
    go_enter Tryz.func103, Tryz.ntmps103
    go_wp2_with fail
    go_ret
    exact ⟨ts, rfl, List.Sublist.refl _, fun t ht => ⟨t, ht, rfl⟩, hR, Turned.refl _ _⟩
  · have h2' : ¬ (ts.length : Int) < 2 := by omega
    have hgl := hR.lt
    have HR : Hid _ := hR; clear hR
    go_enter Tryz.func103, Tryz.ntmps103
    go_wp2_with fail
    go_loopw [5] (fun i wr => ∃ k : Nat, 1 ≤ k ∧ k ≤ ts.length ∧ i = .int .i64 k ∧ RowIs wr g cap (ts.map (·.v)) ∧ Turned g w wr) (fun i _ => ts.length - (intOf i).toNat)
    case atStart => exact ⟨1, Nat.le_refl _, by omega, rfl, HR.out, Turned.refl _ _⟩
    case round =>
      obtain ⟨k, hk1, hk, rfl, hrow, htn⟩ := hrel
      by_cases hlt : k < ts.length
      · obtain ⟨j, rfl⟩ : ∃ j, k = j + 1 := ⟨k - 1, by omega⟩
        have c1 := hrow.cell (j + 1) (by simpa using hlt)
        have c0 := hrow.cell j (by simp; omega)
        rw [List.getElem_map] at c1 c0
        have hgr := hrow.lt
        have hq := fun W => eq_call ts[j + 1].v ts[j].v ts[j + 1].k ts[j].k W (HK.out _ (List.getElem_mem hlt)) (HK.out _ (List.getElem_mem (by omega)))
        have b1 : (0 : Int) ≤ (j : Int) + 1 := by omega
        have b2 : (j : Int) + 1 < (ts.length : Int) := by omega
        have b3 : (j : Int) < (ts.length : Int) := by omega
        have b4 : IntKind.i64.wrap ((j : Int) + 1 - 1) = (j : Int) := by rw [IntKind.wrap_i64]; omega
        have b5 : IntKind.i64.wrap (j : Int) = (j : Int) := by rw [IntKind.wrap_i64]; omega
        have b6 : j < ts.length := by omega
        cases hkk : (ts[j + 1].k == ts[j].k) with
        | false =>
          rw [hkk] at hq
          go_wp2_with fail
          go_region_with (go_at_call 104; refine (hq _).mono ?_; rintro e w1 ⟨rfl, hgw⟩)
          all_goals
            have hb1 : Below wr.heap.size wr w1 := by first | exact hgw.below | exact ((Below.refl _ _).drew).trans hgw.below | exact (((Below.refl _ _).drew).drew).trans hgw.below
            go_wp2_with fail
            go_roundw
            case rel => exact ⟨j + 2, by omega, by omega, by go_num, hrow.keep hb1, htn.grew hgl hb1⟩
            case measure => simp [intOf]; omega
        | true =>
          rw [hkk] at hq
          go_wp2_with fail
          go_region_with (go_at_call 104; refine (hq _).mono ?_; rintro e w1 ⟨rfl, hgw⟩)
          all_goals
            have hb1 : Below wr.heap.size wr w1 := by first | exact hgw.below | exact ((Below.refl _ _).drew).trans hgw.below | exact (((Below.refl _ _).drew).drew).trans hgw.below
            have hrow1 := hrow.keep hb1
            have htn1 := htn.grew hgl hb1
            have hk' : ts[j + 1].k = ts[j].k := by simpa using hkk
            have HKK : Hid _ := hk'
            clear hk' hq hrow htn c0 c1 b1 b2 b3 b4 b5 hgw
            go_wp2_with fail
            generalize hm : ts.length - (j + 1) = m
            go_loopw [5, 7] (fun a b wi => ∃ (kk p : Nat) (ys : List Tr), a = .int .i64 kk ∧ b = .int .i64 (p + 1 : Nat) ∧ p + 1 ≤ m ∧ j + 1 ≤ kk ∧ kk ≤ j + p + 1 ∧ ys.length = ts.length ∧ RowIs wi g cap (ys.map (·.v)) ∧ Turned g w wi ∧
              ys.drop (j + p + 1) = ts.drop (j + p + 1) ∧ (ys.take kk).Sublist (ts.take (j + p + 2)) ∧ ∀ t ∈ ts.take (j + p + 2), ∃ u ∈ ys.take kk, u.k = t.k) (fun _ b _ => ts.length - (intOf b).toNat)
            case atStart =>
              refine ⟨j + 1, 0, ts, rfl, rfl, by omega, Nat.le_refl _, Nat.le_refl _, rfl, hrow1, htn1, rfl, ?_, ?_⟩
              · rw [List.take_succ_eq_append_getElem hlt]; exact List.sublist_append_left _ _
              · intro t ht
                rw [List.take_succ_eq_append_getElem hlt] at ht
                rcases List.mem_append.1 ht with ht | ht
                · exact ⟨t, ht, rfl⟩
                · simp only [List.mem_singleton] at ht
                  subst ht
                  exact ⟨ts[j], by rw [List.take_succ_eq_append_getElem b6]; exact List.mem_append_right _ (List.mem_singleton.2 rfl), HKK.out.symm⟩
            case round =>
              obtain ⟨kk, p, ys, rfl, rfl, hp, hkk1, hkk2, hyl, hrow, htn, hdr, hsub, hcov⟩ := hrel
              have HDR : Hid _ := hdr; clear hdr
              have HSUB : Hid _ := hsub; clear hsub
              have HCOV : Hid _ := hcov; clear hcov
              by_cases hend : p + 1 < m
              · have hy1 : ys[j + 1 + (p + 1)]'(by omega) = ts[j + 1 + (p + 1)]'(by omega) := by
                  have e := congrArg (fun l => l[1]?) HDR.out
                  simp only [List.getElem?_drop] at e
                  rw [List.getElem?_eq_getElem (by omega), List.getElem?_eq_getElem (by omega)] at e
                  have e2 := Option.some.inj e
                  simp only [show j + p + 1 + 1 = j + 1 + (p + 1) by omega] at e2
                  exact e2
                have hy0 : ys[j + 1 + p]'(by omega) = ts[j + 1 + p]'(by omega) := by
                  have e := congrArg (fun l => l[0]?) HDR.out
                  simp only [List.getElem?_drop] at e
                  rw [List.getElem?_eq_getElem (by omega), List.getElem?_eq_getElem (by omega)] at e
                  have e2 := Option.some.inj e
                  simp only [show j + p + 1 + 0 = j + 1 + p by omega] at e2
                  exact e2
                have c1 := hrow.cell (j + 1 + (p + 1)) (by simp; omega)
                have c0 := hrow.cell (j + 1 + p) (by simp; omega)
                rw [List.getElem_map, hy1] at c1
                rw [List.getElem_map, hy0] at c0
                have hl1 : j + 1 + (p + 1) < ts.length := by omega
                have hl0 : j + 1 + p < ts.length := by omega
                have hq := fun W => eq_call ts[j + 1 + (p + 1)].v ts[j + 1 + p].v ts[j + 1 + (p + 1)].k ts[j + 1 + p].k W (HK.out _ (List.getElem_mem hl1)) (HK.out _ (List.getElem_mem hl0))
                have hgr2 := hrow.lt
                have b1 : (0 : Int) ≤ (p : Int) + 1 := by omega
                have b2 : (p : Int) + 1 < (m : Int) := by omega
                have b3 : (p : Int) < (m : Int) := by omega
                have b4 : IntKind.i64.wrap ((p : Int) + 1 - 1) = (p : Int) := by rw [IntKind.wrap_i64]; omega
                have b5 : IntKind.i64.wrap (p : Int) = (p : Int) := by rw [IntKind.wrap_i64]; omega
                have b7 : p < m := by omega
                cases hee : (ts[j + 1 + (p + 1)].k == ts[j + 1 + p].k) with
                | true =>
                  rw [hee] at hq
                  go_wp2_with fail
                  go_region_with (go_at_call 104; refine (hq _).mono ?_; rintro e w2 ⟨rfl, hgw⟩)
                  all_goals
                    have hb2 : Below wr.heap.size wr w2 := by first | exact hgw.below | exact ((Below.refl _ _).drew).trans hgw.below | exact (((Below.refl _ _).drew).drew).trans hgw.below
                    have hrow2 := hrow.keep hb2
                    have htn2 := htn.grew hgl hb2
                    go_wp2_with fail
                    go_roundw
                    case rel =>
                      refine ⟨kk, p + 1, ys, rfl, by go_num, by omega, hkk1, by omega, hyl, hrow2, htn2, ?_, ?_, ?_⟩
                      · have := congrArg (fun l => l.drop 1) HDR.out
                        simpa [List.drop_drop, Nat.add_assoc] using this
                      · exact HSUB.out.trans (take_mono ts _ _ (by omega))
                      · intro t ht
                        rw [show j + (p + 1) + 2 = (j + p + 2) + 1 by omega, List.take_succ_eq_append_getElem (by omega)] at ht
                        rcases List.mem_append.1 ht with ht | ht
                        · exact HCOV.out t ht
                        · simp only [List.mem_singleton] at ht
                          subst ht
                          have hin : ts[j + 1 + p] ∈ ts.take (j + p + 2) := by
                            rw [show j + p + 2 = (j + 1 + p) + 1 by omega, List.take_succ_eq_append_getElem hl0]; exact List.mem_append_right _ (List.mem_singleton.2 rfl)
                          obtain ⟨u, hu, huk⟩ := HCOV.out _ hin
                          refine ⟨u, hu, ?_⟩
                          rw [huk]
                          have := beq_iff_eq.1 hee
                          simp only [show j + p + 2 = j + 1 + (p + 1) by omega]
                          exact this.symm
                    case measure => simp [intOf]; omega
                | false =>
                  rw [hee] at hq
                  go_wp2_with fail
                  go_region_with (go_at_call 104; refine (hq _).mono ?_; rintro e w2 ⟨rfl, hgw⟩)
                  all_goals
                    have hb2 : Below wr.heap.size wr w2 := by first | exact hgw.below | exact ((Below.refl _ _).drew).trans hgw.below | exact (((Below.refl _ _).drew).drew).trans hgw.below
                    have hrow2 := hrow.keep hb2
                    have htn2 := htn.grew hgl hb2
                    have e1 := hrow2.cell (j + 1 + (p + 1)) (by simp; omega)
                    rw [List.getElem_map, hy1] at e1
                    have e2 := hrow2.cell kk (by simp; omega)
                    have e3 := hrow2.frozen kk
                    have hset := hrow2.set kk ts[j + 1 + (p + 1)].v
                    have hts := htn2.set kk ts[j + 1 + (p + 1)].v
                    have hkl : kk < ts.length := by omega
                    obtain ⟨T, pv, _, _, hv, _⟩ := HK.out _ (List.getElem_mem hl1)
                    rw [hv] at e1 hset hts
                    have HSET : Hid _ := hset; clear hset
                    have HTS : Hid _ := hts; clear hts
                    have HV : Hid _ := hv; clear hv
                    have m1 : (kk : Int) < (ts.length : Int) := by omega
                    go_wp2_with fail
                    go_roundw
                    case rel =>
                      have hst := set_take ys kk ts[j + 1 + (p + 1)] (by omega)
                      have htk : ts.take (j + (p + 1) + 2) = ts.take (j + p + 2) ++ [ts[j + 1 + (p + 1)]] := by
                        rw [show j + (p + 1) + 2 = (j + 1 + (p + 1)) + 1 by omega, List.take_succ_eq_append_getElem hl1, show List.take (j + 1 + (p + 1)) ts = List.take (j + p + 2) ts by congr 1; omega]
                      refine ⟨kk + 1, p + 1, ys.set kk ts[j + 1 + (p + 1)], by go_num, by go_num, by omega, by omega, by omega, by simpa using hyl, ?_, HTS.out, ?_, ?_, ?_⟩
                      · rw [List.map_set, HV.out]; exact HSET.out
                      · rw [List.drop_set_of_lt (by omega)]
                        have := congrArg (fun l => l.drop 1) HDR.out
                        simpa [List.drop_drop, Nat.add_assoc] using this
                      · rw [hst, htk]; exact HSUB.out.append (List.Sublist.refl _)
                      · intro t ht
                        rw [htk] at ht
                        rw [hst]
                        rcases List.mem_append.1 ht with ht | ht
                        · obtain ⟨u, hu, huk⟩ := HCOV.out t ht
                          exact ⟨u, List.mem_append_left _ hu, huk⟩
                        · exact ⟨t, List.mem_append_right _ ht, rfl⟩
                    case measure => simp [intOf]; omega
              · obtain rfl : m = p + 1 := by omega
                have hkl : kk < ts.length := by omega
                have hclr : ∀ ty, (Builtin.clear_ #[34] ty #[.slice (some ⟨g, kk, none⟩) (ts.length - kk) (cap - kk)]).run Tryz.prog wr = .ok (.tuple #[]) (wr.setCells g kk (List.replicate (ts.length - kk) .nilIface)) := fun ty =>
                  Lib.run_clear_slice wr 34 72 ty .nilIface Tryz.underlying34 (fun w => by kernel_rfl) rfl rfl g kk (ts.length - kk) (cap - kk) (by omega)
                    (fun q hq => by rw [hrow.cell (kk + q) (by simp; omega)]; rfl) (fun q hq => hrow.frozen (kk + q))
                have hfin : RowIs (wr.setCells g kk (List.replicate (ts.length - kk) .nilIface)) g cap ((ys.take kk).map (·.v)) := by
                  have := (hrow.take kk).setCells (List.replicate (ts.length - kk) .nilIface) kk (by simp; omega)
                  rwa [← List.map_take] at this
                have hfin2 := htn.setCells (List.replicate (ts.length - kk) .nilIface) kk
                have HF : Hid _ := hfin; clear hfin
                have HF2 : Hid _ := hfin2; clear hfin2
                have m1 : (kk : Int) ≤ (ts.length : Int) := by omega
                have htake : ts.take (j + p + 2) = ts := List.take_of_length_le (by omega)
                have hlk : (ys.take kk).length = kk := by simp; omega
                rw [htake] at HSUB HCOV
                go_wp2_with fail
                go_ret
                exact ⟨ys.take kk, by rw [hlk]; rfl, HSUB.out, HCOV.out, HF.out, HF2.out⟩
      · obtain rfl : k = ts.length := by omega
        go_wp2_with fail
        go_ret
        exact ⟨ts, rfl, List.Sublist.refl _, fun t ht => ⟨t, ht, rfl⟩, hrow, htn⟩
end Go.Proofs.YtkoaeojdlanolaaGreatDoor
