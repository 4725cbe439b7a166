/-
  THE WALKS of munchref.States, munchref.CheckTable.
-/
import Derived.Test.YtjhopgfgfljcoaaDoorTabState
namespace Go.Proofs.YtjhopgfgfljcoaaDoor
open Go.RowKit

theorem infoState : (Tryd.prog.info? 45).map (fun i => (i.zero, i.size, i.bytes)) = some (some (.agg #[.int .i64 0, .slice none 0 0]), 2, 32) := by kernel_rfl

abbrev St := Int × List Munch.Edge

def stateCells (S : List St) (vs : List Value) : List Value := (S.zip vs).flatMap fun x => [.int .i64 x.1.1, x.2]

/-- The slice v holds the states S: each its tag and the slice of its edges, all in rows of the call's own, from block 'base' on. -/
structure StatesIn (w : World) (base : Nat) (v : Value) (S : List St) (vs : List Value) : Prop where
  len : vs.length = S.length
  own : w.ownsRow base 45 2 v S.length (stateCells S vs)
  edge : ∀ (j : Nat) (x : St) (u : Value), S[j]? = some x → vs[j]? = some u → w.ownsRow base 55 3 u x.2.length (edgeCells x.2)

theorem StatesIn.nil (w : World) (base : Nat) : StatesIn w base (.slice none 0 0) [] [] := ⟨rfl, World.ownsRow_nil _ _ _ _, fun j x u h => by simp at h⟩

theorem stateCells_snoc (S : List St) (vs : List Value) (x : St) (u : Value) (h : vs.length = S.length) : stateCells (S ++ [x]) (vs ++ [u]) = stateCells S vs ++ [.int .i64 x.1, u] := by
  unfold stateCells; rw [List.zip_append (by omega)]; simp

/-- Rows of two element types are never one block. -/
theorem ownBlock_ne {w : World} {base base' : Nat} {e e' : TypeId} {size size' : Nat} {v v' : Value} {n n' : Nat} {xs xs' : List Value} (h : w.ownsRow base e size v n xs) (h' : w.ownsRow base' e' size' v' n' xs') (hne : e ≠ e') : v.ownBlock = none ∨ v.ownBlock ≠ v'.ownBlock := by
  rcases h.2 with ⟨rfl, _⟩ | ⟨g, cap, cur, rfl, _, hg, _⟩
  · exact Or.inl rfl
  · right
    rcases h'.2 with ⟨rfl, _⟩ | ⟨g', cap', cur', rfl, _, hg', _⟩
    · simp [Value.ownBlock]
    · simp only [Value.ownBlock]
      intro hh
      obtain rfl : g = g' := by simpa using hh
      rw [hg] at hg'
      simp at hg'
      exact hne hg'.2

theorem ownsRow_below {w w' : World} {base B : Nat} {e : TypeId} {size : Nat} {v : Value} {n : Nat} {xs : List Value} (h : w.ownsRow base e size v n xs) (hb : Below B w w') (hB : w.heap.size ≤ B) : w'.ownsRow base e size v n xs := by
  obtain ⟨h1, h2⟩ := h
  refine ⟨h1, ?_⟩
  rcases h2 with h2 | ⟨g, cap, cur, hv, hg, hh, r⟩
  · exact Or.inl h2
  · exact Or.inr ⟨g, cap, cur, hv, hg, by rw [hb.block g (by have := lt_of_block hh; omega)]; exact hh, r⟩

theorem StatesIn.alloc {w : World} {base : Nat} {v : Value} {S : List St} {vs : List Value} (h : StatesIn w base v S vs) (o : Obj) : StatesIn (w.alloc o) base v S vs :=
  ⟨h.len, h.own.alloc o, fun j x u hj hu => (h.edge j x u hj hu).alloc o⟩
theorem StatesIn.base {w : World} {base base' : Nat} {v : Value} {S : List St} {vs : List Value} (h : StatesIn w base v S vs) (hb : base' ≤ base) : StatesIn w base' v S vs :=
  ⟨h.len, ownsRow_base h.own hb, fun j x u hj hu => ownsRow_base (h.edge j x u hj hu) hb⟩
theorem StatesIn.keep {w w' : World} {base B : Nat} {v : Value} {S : List St} {vs : List Value} (h : StatesIn w base v S vs) (hb : Below B w w') (hB : w.heap.size ≤ B) : StatesIn w' base v S vs :=
  ⟨h.len, ownsRow_below h.own hb hB, fun j x u hj hu => ownsRow_below (h.edge j x u hj hu) hb hB⟩

theorem StatesIn.snoc {w w1 : World} {base : Nat} {v v' u : Value} {S : List St} {vs : List Value} {x : St} (h : StatesIn w base v S vs) (hu : w.ownsRow base 55 3 u x.2.length (edgeCells x.2))
    (hown : w1.ownsRow base 45 2 v' (S.length + 1) (stateCells S vs ++ [.int .i64 x.1, u])) (hg : w.grownBy w1 v.ownBlock) : StatesIn w1 base v' (S ++ [x]) (vs ++ [u]) := by
  refine ⟨by simp [h.len], by rw [stateCells_snoc _ _ _ _ h.len]; simpa using hown, ?_⟩
  intro j y z hj hz
  by_cases hlt : j < S.length
  · rw [List.getElem?_append_left hlt] at hj
    rw [List.getElem?_append_left (by rw [h.len]; exact hlt)] at hz
    have := h.edge j y z hj hz
    exact this.kept hg (ownBlock_ne this h.own (by decide))
  · rw [List.getElem?_append_right (by omega)] at hj
    rw [List.getElem?_append_right (by rw [h.len]; omega)] at hz
    by_cases h0 : j - S.length = 0
    · rw [h0] at hj; rw [h.len, h0] at hz
      simp at hj hz
      subst hj; subst hz
      exact hu.kept hg (ownBlock_ne hu h.own (by decide))
    · rw [List.getElem?_eq_none (by simp; omega)] at hj; cases hj

def StatesPost (R : Except Nat (List St)) (w : World) (e : Ending) (w' : World) : Prop :=
  (∃ i : Nat, R = .error i ∧ e = .returned (.tuple #[.slice none 0 0, .int .i64 i, .bool false]) ∧ Below w.heap.size w w') ∨
  (∃ S v vs, R = .ok S ∧ e = .returned (.tuple #[v, .int .i64 0, .bool true]) ∧ StatesIn w' w.heap.size v S vs ∧ Below w.heap.size w w')

set_option maxHeartbeats 2000000 in
set_option maxRecDepth 100000 in
theorem states_any (t : ByteArray) (w : World) (ht : t.size ≤ 200000) :
    Calls Tryd.prog 11 #[.string t] w fun e w' => StatesPost (Munch.tableV t.data.toList) w e w' := by
  obtain ⟨i0, hi, hz0, hz1, hz2⟩ := info_parts infoState
  go_enter Tryd.func11, Tryd.ntmps11
  go_wp2_with fail
  refine (pieces_any t _ ht).mono ?_
  rintro e wp ⟨pv, L, rfl, hpo, hLs, hbp⟩
  have hLn := Munch.splitF_length t.data.toList []
  have hlen : L.length = (Munch.splitF [] t.data.toList).length := by rw [← hLs]; simp
  rw [← hlen] at hLn
  have hLn' : L.length ≤ t.size + 1 := by have := hLn.2; simpa using this
  obtain ⟨g, cap, hpv⟩ : ∃ g cap, pv = .slice (some ⟨g, 0, none⟩) L.length cap := by
    rcases hpo.2 with ⟨_, h0⟩ | ⟨g, cap, cur, hv, _⟩
    · omega
    · exact ⟨g, cap, hv⟩
  subst hpv
  have hLsz : ∀ p ∈ L, p.size ≤ 200000 := by
    intro p hp
    have hm : p.data.toList ∈ Munch.splitF [] t.data.toList := by rw [← hLs]; exact List.mem_map_of_mem hp
    have := Munch.splitF_size _ _ _ hm
    simp at this; have h2 : p.data.size = p.size := rfl; omega
  have hgsz := (hpo.lt g rfl)
  have HLS : Hid _ := hLs; clear hLs
  have HLEN : Hid _ := hlen; clear hlen
  have HLSZ : Hid _ := hLsz; clear hLsz
  go_wp2_with fail
  go_loopw [6, 7] (fun v i wr => ∃ (k : Nat) (S : List St) (vs : List Value), k ≤ L.length ∧ S.length = k ∧ i = .int .i64 k ∧ StatesIn wr wp.heap.size v S vs ∧ Below wp.heap.size wp wr ∧
      Munch.statesV L.length k ((L.drop k).map (·.data.toList)) S = Munch.tableV t.data.toList) (fun _ i _ => L.length - (intOf i).toNat)
  case atStart => exact ⟨0, [], [], Nat.zero_le _, rfl, rfl, StatesIn.nil _ _, Below.refl _ _, by rw [List.drop_zero, HLS.out, HLEN.out]; rfl⟩
  case round =>
    obtain ⟨k, S, vs, hk, hS, rfl, hin, hnx, hV⟩ := hrel
    have H : Hid _ := hV; clear hV
    have HS : Hid _ := hS; clear hS
    have hsz : w.heap.size ≤ wp.heap.size := hbp.size
    have hsz' : wp.heap.size ≤ wr.heap.size := hnx.size
    by_cases hlt : k < L.length
    · have hd : (L.drop k).map (·.data.toList) = L[k].data.toList :: (L.drop (k + 1)).map (·.data.toList) := by rw [List.drop_eq_getElem_cons hlt]; rfl
      have HD : Hid _ := hd; clear hd
      have hp := HLSZ.out L[k] (List.getElem_mem hlt)
      have hc : wr.cell? ⟨g, k, none⟩ = some (.string L[k]) := by
        rw [hnx.cell (p := ⟨g, k, none⟩) hgsz.2, hpo.cellAt k (by omega)]; simp [hlt]
      by_cases h9 : 9999 ≤ k
      · have H9 : Hid _ := h9
        have h9' : (9999 : Int) ≤ (k : Int) := by omega
        clear h9
        go_wp2_with fail
        go_ret3
        exact Or.inl ⟨k, by rw [← H.out, HD.out, Munch.statesV_many _ _ _ _ _ H9.out], rfl, hbp.trans (hnx.mono hsz)⟩
      · have H9 : Hid _ := h9
        have h9' : (k : Int) < (9999 : Int) := by omega
        clear h9
        go_wp2_with fail
        refine (state_any L[k] L.length _ hp (by omega) (by omega)).mono ?_
        rintro e w1 (⟨hR, rfl, hb1⟩ | ⟨tag, E, u, hR, rfl, hu, hb1⟩)
        · have HR : Hid _ := hR; clear hR
          go_wp2_with fail
          go_ret3
          exact Or.inl ⟨k, by rw [← H.out, HD.out, Munch.statesV_bad _ _ _ _ _ HR.out], rfl, (hbp.trans ((hnx.mono hsz).trans (hb1.mono (by omega)))).alloc (by have := hb1.size; omega) _⟩
        · have HR : Hid _ := hR; clear hR
          obtain ⟨ua, uc, rfl⟩ := ownsRow_shape hu
          have hs1 : wr.heap.size ≤ w1.heap.size := hb1.size
          have hin1 := (hin.keep hb1 (Nat.le_refl _)).alloc (.cells #[.int .i64 tag, .slice ua E.length uc] 45)
          have hin2 := hin1.alloc (.cells #[.int .i64 tag, .slice ua E.length uc] 45)
          have hu2 := ((ownsRow_base hu (by omega : wp.heap.size ≤ wr.heap.size)).alloc (.cells #[.int .i64 tag, .slice ua E.length uc] 45)).alloc (.cells #[.int .i64 tag, .slice ua E.length uc] 45)
          go_wp2_with (at_builtin; refine wpList_append_own _ rfl (.tmp 34) (.tmp 36) 38 rfl wp.heap.size 45 i0 (.agg #[.int .i64 0, .slice none 0 0]) 2 32 Tryd.underlying38 hi hz0 hz1 hz2 rfl (by decide) _ _ _ rfl hin2.own ⟨(w1.alloc (.cells #[.int .i64 tag, .slice ua E.length uc] 45)).heap.size, 0, none⟩ 1 1 [.int .i64 tag, .slice ua E.length uc] (by simp [Act.eval]) rfl (cell_two_new _ _ _ _) (by intro x hx; simp at hx; rcases hx with rfl | rfl <;> rfl) (by unfold maxLen; have := HS.out; omega) (by have := HS.out; omega) (by simp; omega) ?_)
          intro v' w2 hown' hgrow _
          have hin' := hin2.snoc (x := (tag, E)) hu2 hown' hgrow
          have hb2 : Below wp.heap.size wp w2 := ((((hnx.trans (hb1.mono hsz')).alloc (by omega) _).alloc (by simp; omega) _).grown hgrow (by simp; omega) (fun q hq => (hin2.own.lt q hq).1))
          clear hgrow hown'
          go_wp2_with fail
          go_roundw
          case rel => exact ⟨k + 1, S ++ [(tag, E)], vs ++ [.slice ua E.length uc], by omega, by have := HS.out; simp; omega, by go_num, hin', hb2, by rw [← H.out, HD.out, Munch.statesV_good _ _ _ _ _ _ (by omega) HR.out]⟩
          case measure => simp [intOf]; omega
    · go_wp2_with fail
      go_ret3
      exact Or.inr ⟨S, _, vs, by rw [← H.out, List.drop_of_length_le (by omega)]; rfl, rfl, hin.base hsz, hbp.trans (hnx.mono hsz)⟩
end Go.Proofs.YtjhopgfgfljcoaaDoor
