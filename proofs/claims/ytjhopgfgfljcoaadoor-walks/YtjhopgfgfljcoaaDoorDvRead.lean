/-
  THE WALK of table.Read.
-/
import Derived.Test.YtjhopgfgfljcoaaDoorDvState
import Derived.Lib.CountLaws
import Derived.Lib.Split
namespace Munch
open Go
def semi : ByteArray := ⟨#[59]⟩

theorem index_cons (b : UInt8) (l : List UInt8) : Lib.index (b :: l) [59] = if b = 59 then 0 else if Lib.index l [59] = -1 then -1 else Lib.index l [59] + 1 := by
  rw [Lib.index]
  by_cases h : b = 59
  · subst h; rfl
  · have h' : ([59] : List UInt8).isPrefixOf (b :: l) = false := by simp [List.isPrefixOf, Ne.symm h]
    rw [h', if_neg h, if_neg (by decide)]
    by_cases hm : Lib.index l [59] = -1
    · rw [if_pos (by rw [hm]; decide), if_pos hm]
    · rw [if_neg (fun e => hm (by simpa using e)), if_neg hm]
theorem splitF_miss : ∀ (l cur : List UInt8), Lib.index l [59] = -1 → splitF cur l = [cur ++ l] := by
  intro l
  induction l with
  | nil => intro cur _; simp [splitF]
  | cons b r ih =>
    intro cur h
    rw [index_cons] at h
    have hge := Lib.index_ge r [59]
    by_cases hb : b = 59
    · rw [if_pos hb] at h; omega
    · rw [if_neg hb] at h
      have hr : Lib.index r [59] = -1 := by
        by_cases hr : Lib.index r [59] = -1
        · exact hr
        · rw [if_neg hr] at h; omega
      rw [splitF_go _ _ _ (fun e => hb (UInt8.toNat_inj.1 (by simpa using e))), ih _ hr]; simp
theorem splitF_hit : ∀ (l cur : List UInt8) (i : Nat), Lib.index l [59] = i → splitF cur l = (cur ++ l.take i) :: splitF [] (l.drop (i + 1)) := by
  intro l
  induction l with
  | nil => intro cur i h; have : Lib.index [] [59] = -1 := rfl; omega
  | cons b r ih =>
    intro cur i h
    rw [index_cons] at h
    have hge := Lib.index_ge r [59]
    by_cases hb : b = 59
    · rw [if_pos hb] at h
      obtain rfl : i = 0 := by omega
      rw [splitF_cut _ _ _ (by rw [hb]; rfl)]; simp
    · rw [if_neg hb] at h
      by_cases hr : Lib.index r [59] = -1
      · rw [if_pos hr] at h; omega
      · rw [if_neg hr] at h
        obtain ⟨j, rfl⟩ : ∃ j, i = j + 1 := ⟨i - 1, by omega⟩
        rw [splitF_go _ _ _ (fun e => hb (UInt8.toNat_inj.1 (by simpa using e))), ih _ j (by omega)]
        simp
theorem split_same : ∀ (n : Nat) (l : List UInt8), l.length ≤ n → Lib.splitK [59] 0 (Lib.count l [59]) l = splitF [] l := by
  intro n
  induction n with
  | zero =>
    intro l h
    have : l = [] := List.eq_nil_of_length_eq_zero (by omega)
    subst this; rfl
  | succ n ih =>
    intro l h
    have hge := Lib.index_ge l [59]
    by_cases hm : Lib.index l [59] = -1
    · rw [Lib.count_miss hm, splitF_miss _ _ hm]; rfl
    · obtain ⟨i, hi⟩ : ∃ i : Nat, Lib.index l [59] = i := ⟨(Lib.index l [59]).toNat, by omega⟩
      rw [Lib.count_hit (by simp) hi, splitF_hit _ _ i hi, Nat.add_comm, Lib.splitK]
      have hne : ¬ (Lib.index l [59] == -1) = true := fun e => hm (by simpa using e)
      have hd := Lib.drop_shorter (s := l) (sub := [59]) (by simp) hne
      rw [if_neg hne]
      have e : (Lib.index l [59]).toNat = i := by omega
      rw [e] at hd ⊢
      simp only [List.length_cons, List.length_nil, Nat.zero_add, Nat.add_zero, List.nil_append] at hd ⊢
      rw [ih _ (by omega)]
theorem split_all (s : ByteArray) : (Lib.splitB semi 0 (Lib.countB s semi) s).map (·.data.toList) = splitF [] s.data.toList := by
  rw [Lib.splitB_data]; exact split_same _ _ (Nat.le_refl _)
theorem split_count (s : ByteArray) : Lib.countB s semi + 1 = (Lib.splitB semi 0 (Lib.countB s semi) s).length := by
  have : ∀ (n : Nat) (l : List UInt8), l.length ≤ n → Lib.count l [59] + 1 = (splitF [] l).length := by
    intro n
    induction n with
    | zero =>
      intro l h
      have : l = [] := List.eq_nil_of_length_eq_zero (by omega)
      subst this; rfl
    | succ n ih =>
      intro l h
      have hge := Lib.index_ge l [59]
      by_cases hm : Lib.index l [59] = -1
      · rw [Lib.count_miss hm, splitF_miss _ _ hm]; rfl
      · obtain ⟨i, hi⟩ : ∃ i : Nat, Lib.index l [59] = i := ⟨(Lib.index l [59]).toNat, by omega⟩
        have hne : ¬ (Lib.index l [59] == -1) = true := fun e => hm (by simpa using e)
        have hd := Lib.drop_shorter (s := l) (sub := [59]) (by simp) hne
        have e : (Lib.index l [59]).toNat = i := by omega
        rw [e] at hd
        simp only [List.length_cons, List.length_nil, Nat.zero_add] at hd
        rw [Lib.count_hit (by simp) hi, splitF_hit _ _ i hi]
        have h2 := ih (l.drop (i + 1)) (by omega)
        simp only [List.length_cons, List.length_nil, Nat.zero_add]
        omega
  have h := split_all s
  have h2 := congrArg List.length h
  rw [List.length_map] at h2
  rw [h2]; exact this _ _ (Nat.le_refl _)
end Munch
namespace Go.Proofs.YtjhopgfgfljcoaaDoor
open Go.RowKit

theorem infoStateD : (Tryd.prog.info? 59).map (fun i => (i.zero, i.size, i.bytes)) = some (some (.agg #[.int .i64 0, .slice none 0 0]), 2, 32) := by kernel_rfl

/-- The slice v holds the states S: each its tag and the slice of its edges, all in rows of the call's own, from block 'base' on. -/
structure StatesInD (w : World) (base : Nat) (v : Value) (S : List St) (vs : List Value) : Prop where
  len : vs.length = S.length
  own : w.ownsRow base 59 2 v S.length (stateCells S vs)
  edge : ∀ (j : Nat) (x : St) (u : Value), S[j]? = some x → vs[j]? = some u → w.ownsRow base 66 3 u x.2.length (edgeCellsD x.2)

theorem StatesInD.alloc {w : World} {base : Nat} {v : Value} {S : List St} {vs : List Value} (h : StatesInD w base v S vs) (o : Obj) : StatesInD (w.alloc o) base v S vs :=
  ⟨h.len, h.own.alloc o, fun j x u hj hu => (h.edge j x u hj hu).alloc o⟩
theorem StatesInD.base {w : World} {base base' : Nat} {v : Value} {S : List St} {vs : List Value} (h : StatesInD w base v S vs) (hb : base' ≤ base) : StatesInD w base' v S vs :=
  ⟨h.len, ownsRow_base h.own hb, fun j x u hj hu => ownsRow_base (h.edge j x u hj hu) hb⟩
theorem StatesInD.keep {w w' : World} {base B : Nat} {v : Value} {S : List St} {vs : List Value} (h : StatesInD w base v S vs) (hb : Below B w w') (hB : w.heap.size ≤ B) : StatesInD w' base v S vs :=
  ⟨h.len, ownsRow_below h.own hb hB, fun j x u hj hu => ownsRow_below (h.edge j x u hj hu) hb hB⟩
theorem StatesInD.snoc {w w1 : World} {base : Nat} {v v' u : Value} {S : List St} {vs : List Value} {x : St} (h : StatesInD w base v S vs) (hu : w.ownsRow base 66 3 u x.2.length (edgeCellsD x.2))
    (hown : w1.ownsRow base 59 2 v' (S.length + 1) (stateCells S vs ++ [.int .i64 x.1, u])) (hg : w.grownBy w1 v.ownBlock) : StatesInD w1 base v' (S ++ [x]) (vs ++ [u]) := by
  refine ⟨by simp [h.len], by rw [stateCells_snoc _ _ _ _ h.len]; simpa using hown, ?_⟩
  intro j y z hj hz
  by_cases hlt : j < S.length
  · rw [List.getElem?_append_left hlt] at hj
    rw [List.getElem?_append_left (by rw [h.len]; exact hlt)] at hz
    have := h.edge j y z hj hz
    exact this.kept hg (ownBlock_ne this h.own (by decide))
  · rw [List.getElem?_append_right (by omega)] at hj
    rw [List.getElem?_append_right (by rw [h.len]; omega)] at hz
    by_cases h0 : j - S.length = 0
    · rw [h0] at hj; rw [h.len, h0] at hz
      simp at hj hz
      subst hj; subst hz
      exact hu.kept hg (ownBlock_ne hu h.own (by decide))
    · rw [List.getElem?_eq_none (by simp; omega)] at hj; cases hj

def StatesPostD (R : Except Nat (List St)) (w : World) (e : Ending) (w' : World) : Prop :=
  (∃ i : Nat, R = .error i ∧ e = .returned (.tuple #[.slice none 0 0, .int .i64 i, .bool false]) ∧ Below w.heap.size w w') ∨
  (∃ S v vs, R = .ok S ∧ e = .returned (.tuple #[v, .int .i64 0, .bool true]) ∧ StatesInD w' w.heap.size v S vs ∧ Below w.heap.size w w')

set_option maxHeartbeats 4000000 in
set_option maxRecDepth 100000 in
theorem read_any (t : ByteArray) (m : Int) (w : World) (ht : t.size ≤ 200000) (hm : w.cell? ⟨0, 0, none⟩ = some (.int .i64 m)) :
    Calls Tryd.prog 14 #[.string t] w fun e w' => StatesPostD (Munch.tableV t.data.toList) w e w' := by
  obtain ⟨i0, hi, hz0, hz1, hz2⟩ := info_parts infoStateD
  have hspl := Tryd.strings_Split t Munch.semi m w (by omega) hm (by decide)
  have hLs := Munch.split_all t
  have hLc := Munch.split_count t
  rw [hLc] at hspl
  generalize Lib.splitB Munch.semi 0 (Lib.countB t Munch.semi) t = L at *
  clear hLc
  have hLn := Munch.splitF_length t.data.toList []
  have hlen : L.length = (Munch.splitF [] t.data.toList).length := by rw [← hLs]; simp
  rw [← hlen] at hLn
  have hLn' : L.length ≤ t.size + 1 := by have := hLn.2; simpa using this
  have hLsz : ∀ p ∈ L, p.size ≤ 200000 := by
    intro p hp
    have hm : p.data.toList ∈ Munch.splitF [] t.data.toList := by rw [← hLs]; exact List.mem_map_of_mem hp
    have := Munch.splitF_size _ _ _ hm
    simp at this; have h2 : p.data.size = p.size := rfl; omega
  have HLS : Hid _ := hLs; clear hLs
  have HLEN : Hid _ := hlen; clear hlen
  have HLSZ : Hid _ := hLsz; clear hLsz
  have hb0 : Below w.heap.size w (w.alloc (.cells (L.map Value.string).toArray 9)) := (Below.refl _ _).alloc (Nat.le_refl _) _
  have hpb : Blk (w.alloc (.cells (L.map Value.string).toArray 9)) w.heap.size 9 (L.map Value.string).toArray := Blk.new _ _ _
  have hsw : (w.alloc (.cells (L.map Value.string).toArray 9)).heap.size = w.heap.size + 1 := by simp
  go_enter Tryd.func14, Tryd.ntmps14
  go_wp2_with fail
  refine hspl.mono ?_
  rintro e w1 ⟨rfl, rfl⟩
  clear hspl
  generalize w.alloc (.cells (L.map Value.string).toArray 9) = wa at *
  go_wp2_with (at_make; refine wpList_make_own _ rfl (.const (.int .i64 0)) (.tmp 15) 35 rfl (w.heap.size + 1) 59 i0 (.agg #[.int .i64 0, .slice none 0 0]) 2 Tryd.underlying35 hi hz0 hz1 .i64 .i64 (min (L.length : Int) 9999) (min L.length 9999) rfl rfl (by omega) (by rw [hz2]; omega) (by unfold maxLen; omega) (by omega) ?_)
  intro w2 hown hgrow
  have hb2 : Below wa.heap.size wa w2 := (Below.refl _ _).grown hgrow (Nat.le_refl _) (fun k hk => by cases hk)
  have hin0 : StatesInD w2 wa.heap.size (.slice (some ⟨wa.heap.size, 0, none⟩) 0 (min L.length 9999)) [] [] := ⟨rfl, by rw [hsw]; exact hown, fun j x u h => by simp at h⟩
  clear hown hgrow
  rw [hsw] at hin0 hb2
  go_wp2_with fail
  go_loopw [6, 19] (fun v i wr => ∃ (k : Nat) (S : List St) (vs : List Value), k ≤ L.length ∧ k ≤ 9999 ∧ S.length = k ∧ i = .int .i64 k ∧ StatesInD wr (w.heap.size + 1) v S vs ∧ Below (w.heap.size + 1) wa wr ∧
      Munch.statesV L.length k ((L.drop k).map (·.data.toList)) S = Munch.tableV t.data.toList) (fun _ i _ => L.length - (intOf i).toNat)
  case atStart => exact ⟨0, [], [], Nat.zero_le _, Nat.zero_le _, rfl, rfl, hin0, hb2, by rw [List.drop_zero, HLS.out, HLEN.out]; rfl⟩
  case round =>
    obtain ⟨k, S, vs, hk, hk9, hS, rfl, hin, hnx, hV⟩ := hrel
    have H : Hid _ := hV; clear hV
    have HS : Hid _ := hS; clear hS
    have hsz' : w.heap.size + 1 ≤ wr.heap.size := by have := hnx.size; omega
    have hbw : Below w.heap.size w wr := hb0.trans (hnx.mono (by omega))
    by_cases hlt : k < L.length
    · have hd : (L.drop k).map (·.data.toList) = L[k].data.toList :: (L.drop (k + 1)).map (·.data.toList) := by rw [List.drop_eq_getElem_cons hlt]; rfl
      have HD : Hid _ := hd; clear hd
      have hp := HLSZ.out L[k] (List.getElem_mem hlt)
      have hc : wr.cell? ⟨w.heap.size, k, none⟩ = some (.string L[k]) := by
        have := (hpb.below hnx (by omega)).cell k
        rw [this]; simp [hlt]
      by_cases h9 : k = 9999
      · have H9 : Hid _ := Munch.statesV_many L.length k L[k].data.toList ((L.drop (k + 1)).map (·.data.toList)) S (by omega)
        have h9' : ((k : Int) == 9999) = true := by rw [beq_iff_eq]; omega
        clear h9
        go_wp2_with fail
        go_ret3
        exact Or.inl ⟨k, by rw [← H.out, HD.out, H9.out], rfl, hbw⟩
      · have h9' : ((k : Int) == 9999) = false := by rw [beq_eq_false_iff_ne]; omega
        have hk9' : k < 9999 := by omega
        clear h9
        go_wp2_with fail
        refine (readState_any L[k] L.length _ hp).mono ?_
        rintro e w1 (⟨hR, rfl, hb1⟩ | ⟨tag, E, u, hR, rfl, hu, hb1⟩)
        · have HR : Hid _ := hR; clear hR
          have hfin := (hbw.trans (hb1.mono (by omega))).alloc (by have := hb1.size; omega) (.cells #[.int .i64 0, .slice none 0 0] 59)
          go_wp2_with fail
          go_ret3
          exact Or.inl ⟨k, by rw [← H.out, HD.out, Munch.statesV_bad _ _ _ _ _ HR.out], rfl, hfin⟩
        · have HR : Hid _ := hR; clear hR
          obtain ⟨ua, uc, rfl⟩ := ownsRow_shape hu
          have hs1 : wr.heap.size ≤ w1.heap.size := hb1.size
          have hin1 := (hin.keep hb1 (Nat.le_refl _)).alloc (.cells #[.int .i64 tag, .slice ua E.length uc] 59)
          have hin2 := hin1.alloc (.cells #[.int .i64 tag, .slice ua E.length uc] 59)
          have hu2 := ((ownsRow_base hu (by omega : w.heap.size + 1 ≤ wr.heap.size)).alloc (.cells #[.int .i64 tag, .slice ua E.length uc] 59)).alloc (.cells #[.int .i64 tag, .slice ua E.length uc] 59)
          go_wp2_with (at_builtin; refine wpList_append_own _ rfl (.tmp 37) (.tmp 39) 35 rfl (w.heap.size + 1) 59 i0 (.agg #[.int .i64 0, .slice none 0 0]) 2 32 Tryd.underlying35 hi hz0 hz1 hz2 rfl (by decide) _ _ _ rfl hin2.own ⟨(w1.alloc (.cells #[.int .i64 tag, .slice ua E.length uc] 59)).heap.size, 0, none⟩ 1 1 [.int .i64 tag, .slice ua E.length uc] (by simp [Act.eval]) rfl (cell_two_new _ _ _ _) (by intro x hx; simp at hx; rcases hx with rfl | rfl <;> rfl) (by unfold maxLen; have := HS.out; omega) (by have := HS.out; omega) (by simp; omega) ?_)
          intro v' w2 hown' hgrow _
          have hin' := hin2.snoc (x := (tag, E)) hu2 hown' hgrow
          have hb2 : Below (w.heap.size + 1) wa w2 := ((((hnx.trans (hb1.mono hsz')).alloc (by omega) _).alloc (by simp; omega) _).grown hgrow (by simp; omega) (fun q hq => (hin2.own.lt q hq).1))
          clear hgrow hown'
          go_wp2_with fail
          go_roundw
          case rel => exact ⟨k + 1, S ++ [(tag, E)], vs ++ [.slice ua E.length uc], by omega, by omega, by have := HS.out; simp; omega, by go_num, hin', hb2, by rw [← H.out, HD.out, Munch.statesV_good _ _ _ _ _ _ (by omega) HR.out]⟩
          case measure => simp [intOf]; omega
    · go_wp2_with fail
      go_ret3
      exact Or.inr ⟨S, _, vs, by rw [← H.out, List.drop_of_length_le (by omega)]; rfl, rfl, hin.base (by omega), hbw⟩
end Go.Proofs.YtjhopgfgfljcoaaDoor
