import Derived.Test.YtkoaeojdlanolaaGreatDoorCb07
/-
  PATTERNS IN MEMORY: lists of parts, lists of patterns; the contract of form at every fuel.
-/
namespace Go.Proofs.YtkoaeojdlanolaaGreatDoor
open Go.RowKit

theorem form_all : ∀ N, FormSaid N := by
  intro N
  induction N using Nat.strongRecOn with
  | _ N ih =>
    refine form_any N (fun m hm => ?_)
    match m, hm with
    | 0, _ => exact piece_zero
    | 1, _ => exact refPiece_any 0 atom_zero
    | m + 2, hm => exact refPiece_any (m + 1) (refAtom_any m (ih m (by omega)))

abbrev Sense (α : Type) := World → (Nat → Prop) → α → List Value → Prop
def KeepsP {α : Type} (P : Sense α) : Prop := ∀ {w w' : World} {ok : Nat → Prop} {n : α} {c : List Value}, (∀ b, b < w.heap.size → ok b → w'.heap[b]? = w.heap[b]?) → P w ok n c → P w' ok n c
def Monos {α : Type} (P : Sense α) : Prop := ∀ {w : World} {ok ok' : Nat → Prop} {n : α} {c : List Value}, (∀ b, b < w.heap.size → ok b → ok' b) → P w ok n c → P w ok' n c

structure SubsG {α : Type} (P : Sense α) (T : TypeId) (size : Nat) (w : World) (ok : Nat → Prop) (v : Value) (l : List α) (cs : List (List Value)) : Prop where
  len : cs.length = l.length
  row : RowAt w ok T size v l.length cs.flatten
  sub : ∀ (i : Nat) n c, l[i]? = some n → cs[i]? = some c → P w (fun b => ok b ∧ v.ownBlock ≠ some b) n c
namespace SubsG
variable {α : Type} {P : Sense α} {T : TypeId} {size : Nat} {w w' : World} {ok ok' : Nat → Prop} {v v' : Value} {l : List α} {cs : List (List Value)}
theorem nil (P : Sense α) (T : TypeId) (size : Nat) (w : World) (ok : Nat → Prop) : SubsG P T size w ok (.slice none 0 0) [] [] := ⟨rfl, RowAt.nil _ _ _ _, fun i n c h => by simp at h⟩
theorem keep (hP : KeepsP P) (h : SubsG P T size w ok v l cs) (hk : ∀ b, b < w.heap.size → ok b → w'.heap[b]? = w.heap[b]?) : SubsG P T size w' ok v l cs :=
  ⟨h.len, h.row.keep hk, fun i n c hi hc => hP (fun b hb hok => hk b hb hok.1) (h.sub i n c hi hc)⟩
theorem mono (hP : Monos P) (h : SubsG P T size w ok v l cs) (hk : ∀ b, b < w.heap.size → ok b → ok' b) : SubsG P T size w ok' v l cs :=
  ⟨h.len, h.row.mono hk, fun i n c hi hc => hP (fun b hb hok => ⟨hk b hb hok.1, hok.2⟩) (h.sub i n c hi hc)⟩
theorem children (hP : Monos P) (h : SubsG P T size w ok v l cs) : ∀ (i : Nat) n c, l[i]? = some n → cs[i]? = some c → P w ok n c :=
  fun i n c hi hc => hP (fun _ _ hok => hok.1) (h.sub i n c hi hc)
theorem append (hM : Monos P) (hP : KeepsP P) {n : α} {c : List Value} (h : SubsG P T size w ok v l cs) (hc : P w (fun b => ok b ∧ v.ownBlock ≠ some b) n c)
    (ha : Appended w w' T size v v' (l.length + 1) (cs.flatten ++ c)) (hnew : ∀ g, w.heap.size ≤ g → ok g) : SubsG P T size w' ok v' (l ++ [n]) (cs ++ [c]) := by
  have hk : ∀ b, b < w.heap.size → (ok b ∧ v.ownBlock ≠ some b) → w'.heap[b]? = w.heap[b]? := fun b hb hok => ha.grown.block b hb (fun e => hok.2 e.symm)
  have up : ∀ m x, P w (fun b => ok b ∧ v.ownBlock ≠ some b) m x → P w' (fun b => ok b ∧ v'.ownBlock ≠ some b) m x := by
    intro m x hx
    have h1 : P w (fun b => (ok b ∧ v.ownBlock ≠ some b) ∧ v'.ownBlock ≠ some b) m x := hM (fun b hb hok => ⟨hok, by
      rcases ha.place with hp | hp
      · rw [hp]; exact hok.2
      · intro e; have := hp b e; omega⟩) hx
    exact hM (fun b _ hok => ⟨hok.1.1, hok.2⟩) (hP (fun b hb hok => hk b hb hok.1) h1)
  refine ⟨by simp [h.len], ?_, ?_⟩
  · have := ha.row h.row hnew
    simpa using this
  · intro i m x hi hx
    by_cases hlt : i < l.length
    · rw [List.getElem?_append_left hlt] at hi
      rw [List.getElem?_append_left (by rw [h.len]; exact hlt)] at hx
      exact up _ _ (h.sub i m x hi hx)
    · rw [List.getElem?_append_right (by omega)] at hi
      rw [List.getElem?_append_right (by rw [h.len]; omega)] at hx
      by_cases h0 : i - l.length = 0
      · rw [h0] at hi; rw [h.len, h0] at hx
        simp at hi hx
        subst hi; subst hx
        exact up _ _ hc
      · rw [List.getElem?_eq_none (by simp; omega)] at hi; cases hi
end SubsG

/-- A part: is it denied; its form. -/
def PartIn : Sense Munch.Part := fun w ok p c => ∃ cn, c = .bool p.1 :: cn ∧ NodeIn w ok p.2 cn
theorem partKeeps : KeepsP PartIn := fun hk ⟨cn, hc, hn⟩ => ⟨cn, hc, hn.keep hk⟩
theorem partMonos : Monos PartIn := fun hk ⟨cn, hc, hn⟩ => ⟨cn, hc, hn.mono hk⟩
/-- A pattern: the slice of its parts. -/
def PatIn : Sense (List Munch.Part) := fun w ok p c => ∃ v cs, c = [v] ∧ SubsG PartIn 59 6 w ok v p cs
theorem patKeeps : KeepsP PatIn := fun hk ⟨v, cs, hc, hs⟩ => ⟨v, cs, hc, hs.keep partKeeps hk⟩
theorem patMonos : Monos PatIn := fun hk ⟨v, cs, hc, hs⟩ => ⟨v, cs, hc, hs.mono partMonos hk⟩

theorem infoPart : (Tryz.prog.info? 59).map (fun i => (i.zero, i.size, i.bytes)) = some (some (.agg #[.bool false, .int .i64 0, .slice none 0 0, .slice none 0 0, .int .i64 0, .int .i64 0]), 6, 80) := by kernel_rfl

theorem cell_six_new (w : World) (a b c d e f : Value) (t : TypeId) : ∀ j u, [a, b, c, d, e, f][j]? = some u → (w.alloc (.cells #[a, b, c, d, e, f] t)).cell? ((⟨w.heap.size, 0, none⟩ : Addr).add j) = some u := by
  intro j u hj
  match j, hj with
  | 0, hj => simp at hj; subst hj; simp [Addr.add]
  | 1, hj => simp at hj; subst hj; simp [Addr.add]
  | 2, hj => simp at hj; subst hj; simp [Addr.add]
  | 3, hj => simp at hj; subst hj; simp [Addr.add]
  | 4, hj => simp at hj; subst hj; simp [Addr.add]
  | 5, hj => simp at hj; subst hj; simp [Addr.add]
theorem shape_part (no : Bool) (k : Int) (sa : Option Addr) (sn sc : Nat) (ba : Option Addr) (bn bc : Nat) (lo hi : Int) : ∀ u ∈ [Value.bool no, .int .i64 k, .slice sa sn sc, .slice ba bn bc, .int .i64 lo, .int .i64 hi], u.oneCell' = true := by
  intro u hu; simp at hu; rcases hu with rfl | rfl | rfl | rfl | rfl | rfl <;> rfl

def PatPost (r : Munch.Res (List Munch.Part × Nat × Option Nat)) (R : Nat) (s : ByteArray) (bad opn : Int) (w : World) (e : Ending) (w' : World) : Prop :=
  (∃ ps j d v cs, r = .ok (ps, j, d) ∧ e = .returned v ∧ SubsG PartIn 59 6 w' (w.heap.size ≤ ·) v ps cs ∧ Rd w' R s (j : Nat) bad (deepI d) opn ∧ Kept R w w') ∨
  (∃ (p : Nat) (d : Int) (v : Value) (n : Nat) (xs : List Value), r = .bad p ∧ e = .returned v ∧ RowAt w' (w.heap.size ≤ ·) 59 6 v n xs ∧ Rd w' R s (p : Nat) (p : Nat) d opn ∧ Kept R w w')

/-- The loop over the parts. -/
def PLoop (R : Nat) (s : ByteArray) (bad : Int) (w : World) (R0 : Munch.Res (List Munch.Part × Nat × Option Nat)) (k : Nat) (v more : Value) (wr : World) : Prop :=
  Kept R w wr ∧
  ((more = .bool true ∧ ∃ i d l cs, Rd wr R s (i : Nat) bad (deepI d) (0 : Nat) ∧ i ≤ s.size ∧ l.length ≤ i ∧ SubsG PartIn 59 6 wr (w.heap.size ≤ ·) v l cs ∧ Munch.patternF s k i d l = R0) ∨
   (more = .bool false ∧ ∃ i d l cs, Rd wr R s (i : Nat) bad (deepI d) (0 : Nat) ∧ SubsG PartIn 59 6 wr (w.heap.size ≤ ·) v l cs ∧ R0 = .ok (l, i, d)) ∨
   (more = .bool false ∧ ∃ (p : Nat) (d : Int) (n : Nat) (xs : List Value), Rd wr R s (p : Nat) (p : Nat) d (0 : Nat) ∧ RowAt wr (w.heap.size ≤ ·) 59 6 v n xs ∧ R0 = .bad p))
end Go.Proofs.YtkoaeojdlanolaaGreatDoor
/-
  THE WALK of the reader's pattern.
-/
namespace Go.Proofs.YtkoaeojdlanolaaGreatDoor
open Go.RowKit

theorem partsKeep {w w' : World} {ok : Nat → Prop} {v : Value} {l : List Munch.Part} {cs : List (List Value)} (h : SubsG PartIn 59 6 w ok v l cs) (hk : ∀ b, b < w.heap.size → ok b → w'.heap[b]? = w.heap[b]?) : SubsG PartIn 59 6 w' ok v l cs := SubsG.keep (P := PartIn) partKeeps h hk
theorem partsDrewN {w : World} {ok : Nat → Prop} {v : Value} {l : List Munch.Part} {cs : List (List Value)} (h : SubsG PartIn 59 6 w ok v l cs) (n : Nat) : SubsG PartIn 59 6 (w.drewN n) ok v l cs := partsKeep (w := w) (w' := w.drewN n) h (fun _ _ _ => rfl)
theorem partsAppend {w w' : World} {ok : Nat → Prop} {v v' : Value} {l : List Munch.Part} {cs : List (List Value)} {n : Munch.Part} {c : List Value} (h : SubsG PartIn 59 6 w ok v l cs) (hc : PartIn w (fun b => ok b ∧ v.ownBlock ≠ some b) n c)
    (ha : Appended w w' 59 6 v v' (l.length + 1) (cs.flatten ++ c)) (hnew : ∀ g, w.heap.size ≤ g → ok g) : SubsG PartIn 59 6 w' ok v' (l ++ [n]) (cs ++ [c]) := SubsG.append (P := PartIn) partMonos partKeeps h hc ha hnew

set_option maxHeartbeats 4000000 in
theorem pattern_any (N : Nat) (R : Nat) (s : ByteArray) (i : Nat) (bad : Int) (d : Option Nat) (w : World) (hr : Rd w R s i bad (deepI d) (0 : Nat)) (hb : bad < 0) (hs : s.size ≤ 1000) (hi : i ≤ s.size) (hout : Munch.patternF s N i d [] ≠ .out) :
    Calls Tryz.prog 16 #[ptr R] w fun e w' => PatPost (Munch.patternF s N i d []) R s bad (0 : Nat) w e w' := by
  have hRB := hr.lt
  obtain ⟨i0, hi0, hz0, hz1, hz2⟩ := info_parts infoPart
  have HOUT : Hid _ := hout; clear hout
  go_enter Tryz.func16, Tryz.ntmps16
  go_wp2_with fail
  go_loopg [3, 4] N (fun k v more wr => k ≤ N ∧ PLoop R s bad w (Munch.patternF s N i d []) k v more wr)
  case atStart => exact ⟨Nat.le_refl _, Kept.refl _ _, Or.inl ⟨rfl, i, d, [], [], hr, hi, by simp, SubsG.nil _ _ _ _ _, rfl⟩⟩
  case round =>
    obtain ⟨hgN, hK, hcase⟩ := hrel
    rcases hcase with ⟨rfl, i1, d1, l, cs, hr0, hi1, hll, hsub, hpa⟩ | ⟨rfl, i1, d1, l, cs, hr0, hsub, hR⟩ | ⟨rfl, p, d1, n, xs, hr0, hrow, hR⟩
    · obtain ⟨K, rfl⟩ : ∃ K, gk = K + 1 := by
        cases gk with
        | zero => exact absurd (by rw [← hpa, Munch.patternF]) HOUT.out
        | succ K => exact ⟨K, rfl⟩
      have hpa' := hpa
      rw [Munch.patternF] at hpa'
      clear hpa
      have hv : ∃ va vn vc, u3 = .slice va vn vc := by obtain ⟨a, c, h⟩ := hsub.row.shape; exact ⟨a, _, c, h⟩
      obtain ⟨v, hvv⟩ : ∃ v, v = u3 := ⟨_, rfl⟩
      subst hvv
      go_wp2_with fail
      refine (here_ok R s i1 bad (deepI d1) (0 : Nat) 33 _ hr0 hb).mono ?_
      rintro e w2 ⟨rfl, n1, rfl⟩
      have hR0 := hr0.lt
      have c1 := hr0.c1
      have f1 := hr0.fr 1
      by_cases h33 : Munch.hasAt s i1 33 = true
      · have hj1 := Munch.hasAt_true _ _ _ h33
        rw [h33] at hpa'
        have HPA : Hid (Munch.patternF s N i d [] = (Munch.formF s K (i1 + 1) 0 d1 []).bind fun x => if Munch.hasAt s x.2.1 38 then Munch.patternF s K (x.2.1 + 1) x.2.2 (l ++ [(true, x.1)]) else .ok (l ++ [(true, x.1)], x.2)) := hpa'.symm
        have HFO : Hid (Munch.formF s K (i1 + 1) 0 d1 [] ≠ .out) := fun h => HOUT.out (by rw [HPA.out, h]; rfl)
        clear hpa'
        rw [h33]
        clear h33
        go_wp2_with fail
        have hr1 : Rd ((wr.drewN n1).setCell ⟨R, 1, none⟩ (.int .i64 (i1 + 1))) R s (i1 + 1 : Nat) bad (deepI d1) (0 : Nat) := ((hr0.drewN n1).set1 _).at_ (by omega) rfl
        have hk1 : Kept R w ((wr.drewN n1).setCell ⟨R, 1, none⟩ (.int .i64 (i1 + 1))) := (hK.drewN n1).setR _ _
        have hsub1 : SubsG PartIn 59 6 ((wr.drewN n1).setCell ⟨R, 1, none⟩ (.int .i64 (i1 + 1))) (w.heap.size ≤ ·) v l cs := partsKeep hsub (fun b _ hok => Below.heap_setCell _ _ _ b (by have : w.heap.size ≤ b := hok; simp <;> omega))
        have hz1' : w.heap.size ≤ ((wr.drewN n1).setCell ⟨R, 1, none⟩ (.int .i64 (i1 + 1))).heap.size := hk1.size
        clear hr0 hsub c1 f1
        generalize ((wr.drewN n1).setCell ⟨R, 1, none⟩ (.int .i64 (i1 + 1))) = W1 at *
        refine (form_all K R s (i1 + 1) bad d1 0 _ hr1 hb hs (by omega) (by omega) HFO.out).mono ?_
        rintro e w3 (⟨nd, j, d3, cN, hpf, rfl, hn, hr3, hk3⟩ | ⟨p, d3, cN, hpf, rfl, hsh, hr3, hk3⟩)
        · have hjb := (Munch.bounds s K).1 _ _ _ _ _ _ _ (by omega) hpf
          have HPF : Hid _ := hpf; clear hpf
          obtain ⟨k, sa, sn, sc, ba, bn, bc, lo, hi', rfl⟩ := hn.shape
          have hz3 := hk3.size
          have hrX := (hr3.alloc (.cells #[.int .i64 k, .slice sa sn sc, .slice ba bn bc, .int .i64 lo, .int .i64 hi'] 57)).alloc (.cells #[.bool true, .int .i64 k, .slice sa sn sc, .slice ba bn bc, .int .i64 lo, .int .i64 hi'] 59)
          have hkX := ((hk1.trans hk3).alloc (.cells #[.int .i64 k, .slice sa sn sc, .slice ba bn bc, .int .i64 lo, .int .i64 hi'] 57)).alloc (.cells #[.bool true, .int .i64 k, .slice sa sn sc, .slice ba bn bc, .int .i64 lo, .int .i64 hi'] 59)
          have hsX : SubsG PartIn 59 6 ((w3.alloc (.cells #[.int .i64 k, .slice sa sn sc, .slice ba bn bc, .int .i64 lo, .int .i64 hi'] 57)).alloc (.cells #[.bool true, .int .i64 k, .slice sa sn sc, .slice ba bn bc, .int .i64 lo, .int .i64 hi'] 59)) (w.heap.size ≤ ·) v l cs := partsKeep (partsKeep (partsKeep hsub1 (fun b hb hok => hk3.block b hb (by have : w.heap.size ≤ b := hok; omega))) (fun b hb _ => Below.heap_alloc w3 _ b hb)) (fun b hb _ => Below.heap_alloc _ _ b hb)
          have hX2 : ((w3.alloc (.cells #[.int .i64 k, .slice sa sn sc, .slice ba bn bc, .int .i64 lo, .int .i64 hi'] 57)).alloc (.cells #[.bool true, .int .i64 k, .slice sa sn sc, .slice ba bn bc, .int .i64 lo, .int .i64 hi'] 59)).heap.size = w3.heap.size + 1 + 1 := by rw [size_alloc, size_alloc]
          have hpX : PartIn ((w3.alloc (.cells #[.int .i64 k, .slice sa sn sc, .slice ba bn bc, .int .i64 lo, .int .i64 hi'] 57)).alloc (.cells #[.bool true, .int .i64 k, .slice sa sn sc, .slice ba bn bc, .int .i64 lo, .int .i64 hi'] 59)) (fun b => w.heap.size ≤ b ∧ v.ownBlock ≠ some b) (true, nd) [.bool true, .int .i64 k, .slice sa sn sc, .slice ba bn bc, .int .i64 lo, .int .i64 hi'] := ⟨[.int .i64 k, .slice sa sn sc, .slice ba bn bc, .int .i64 lo, .int .i64 hi'], rfl, ((hn.mono (ok' := fun b => w.heap.size ≤ b ∧ v.ownBlock ≠ some b) (fun b _ hok => by have h1 : W1.heap.size ≤ b := hok; exact ⟨by omega, fun e => by have := hsub1.row.lt b e; omega⟩)).keep (fun b hb _ => Below.heap_alloc w3 _ b hb)).keep (fun b hb _ => Below.heap_alloc _ _ b hb)⟩
          have hR3 := hr3.lt
          go_wp2_with (at_builtin; refine wpList_append_sep _ rfl (.tmp 20) (.tmp 24) 50 rfl 59 i0 (.agg #[.bool false, .int .i64 0, .slice none 0 0, .slice none 0 0, .int .i64 0, .int .i64 0]) 6 80 Tryz.underlying50 hi0 hz0 hz1 hz2 rfl (by decide) _ l.length cs.flatten rfl hsX.row.own ⟨w3.heap.size + 1, 0, none⟩ 1 1 [.bool true, .int .i64 k, .slice sa sn sc, .slice ba bn bc, .int .i64 lo, .int .i64 hi'] rfl rfl (by have := cell_six_new (w3.alloc (.cells #[.int .i64 k, .slice sa sn sc, .slice ba bn bc, .int .i64 lo, .int .i64 hi'] 57)) (.bool true) (.int .i64 k) (.slice sa sn sc) (.slice ba bn bc) (.int .i64 lo) (.int .i64 hi') 59; rw [size_alloc] at this; exact this) (shape_part _ _ _ _ _ _ _ _ _ _) (by unfold maxLen; omega) (by omega) ?_)
          intro v' w4 hap
          have hown : ∀ b, b < w.heap.size → some b ≠ v.ownBlock := fun b hb e => by have h1 : w.heap.size ≤ b := hsX.row.blk b e.symm; omega
          have hr4 : Rd w4 R s _ _ _ _ := hrX.grown hap.grown (hown _ (by omega))
          have hk4 : Kept R w w4 := hkX.grown hap.grown (fun g hg => Or.inr (hsX.row.blk g hg))
          have hs4 : SubsG PartIn 59 6 w4 (w.heap.size ≤ ·) v' (l ++ [(true, nd)]) (cs ++ [[.bool true, .int .i64 k, .slice sa sn sc, .slice ba bn bc, .int .i64 lo, .int .i64 hi']]) := partsAppend hsX hpX hap (fun g hg => by rw [hX2] at hg; show w.heap.size ≤ g; omega)
          have hsh4 : ∃ va vn vc, v' = .slice va vn vc := by obtain ⟨a, c, h⟩ := hs4.row.shape; exact ⟨a, _, c, h⟩
          obtain ⟨va, vn, vc, rfl⟩ := hsh4
          clear hap hsX hrX hkX
          go_wp2_with fail
          refine (here_ok R s j bad (deepI d3) (0 : Nat) 38 _ hr4 hb).mono ?_
          rintro e w5 ⟨rfl, n5, rfl⟩
          have m1 := hr4.c1
          have mf := hr4.fr 1
          have hR4 := hr4.lt
          by_cases h38 : Munch.hasAt s j 38 = true
          · have hj := Munch.hasAt_true _ _ _ h38
            have HNX : Hid (Munch.patternF s K (j + 1) d3 (l ++ [(true, nd)]) = Munch.patternF s N i d []) := by show _ = _; rw [HPA.out, HPF.out]; simp [h38]
            rw [h38]
            clear h38
            go_wp2_with fail
            go_roundg K
            case measure => omega
            case rel => exact ⟨by omega, (hk4.drewN n5).setR _ _, Or.inl ⟨rfl, j + 1, d3, _, cs ++ [[.bool true, .int .i64 k, .slice sa sn sc, .slice ba bn bc, .int .i64 lo, .int .i64 hi']], ((hr4.drewN n5).set1 _).at_ (by omega) rfl, by omega, by simp; omega, partsKeep (partsDrewN hs4 n5) (fun b _ hok => Below.heap_setCell _ _ _ b (by have : w.heap.size ≤ b := hok; simp <;> omega)), HNX.out⟩⟩
          · have h38' : Munch.hasAt s j 38 = false := by simpa using h38
            have HNX : Hid (Munch.patternF s N i d [] = .ok (l ++ [(true, nd)], j, d3)) := by show _ = _; rw [HPA.out, HPF.out]; simp [h38']
            rw [h38']
            clear h38 h38'
            go_wp2_with fail
            go_roundg K
            case measure => omega
            case rel => exact ⟨by omega, hk4.drewN n5, Or.inr (Or.inl ⟨rfl, j, d3, _, cs ++ [[.bool true, .int .i64 k, .slice sa sn sc, .slice ba bn bc, .int .i64 lo, .int .i64 hi']], hr4.drewN n5, partsDrewN hs4 n5, HNX.out⟩)⟩
        · have HNX : Hid (Munch.patternF s N i d [] = .bad p) := by show _ = _; rw [HPA.out, hpf]; rfl
          clear hpf
          obtain ⟨k, sa, sn, sc, ba, bn, bc, lo, hi', rfl⟩ := hsh
          have hz3 := hk3.size
          have hrX := (hr3.alloc (.cells #[.int .i64 k, .slice sa sn sc, .slice ba bn bc, .int .i64 lo, .int .i64 hi'] 57)).alloc (.cells #[.bool true, .int .i64 k, .slice sa sn sc, .slice ba bn bc, .int .i64 lo, .int .i64 hi'] 59)
          have hkX := ((hk1.trans hk3).alloc (.cells #[.int .i64 k, .slice sa sn sc, .slice ba bn bc, .int .i64 lo, .int .i64 hi'] 57)).alloc (.cells #[.bool true, .int .i64 k, .slice sa sn sc, .slice ba bn bc, .int .i64 lo, .int .i64 hi'] 59)
          have hsX : SubsG PartIn 59 6 ((w3.alloc (.cells #[.int .i64 k, .slice sa sn sc, .slice ba bn bc, .int .i64 lo, .int .i64 hi'] 57)).alloc (.cells #[.bool true, .int .i64 k, .slice sa sn sc, .slice ba bn bc, .int .i64 lo, .int .i64 hi'] 59)) (w.heap.size ≤ ·) v l cs := partsKeep (partsKeep (partsKeep hsub1 (fun b hb hok => hk3.block b hb (by have : w.heap.size ≤ b := hok; omega))) (fun b hb _ => Below.heap_alloc w3 _ b hb)) (fun b hb _ => Below.heap_alloc _ _ b hb)
          have hX2 : ((w3.alloc (.cells #[.int .i64 k, .slice sa sn sc, .slice ba bn bc, .int .i64 lo, .int .i64 hi'] 57)).alloc (.cells #[.bool true, .int .i64 k, .slice sa sn sc, .slice ba bn bc, .int .i64 lo, .int .i64 hi'] 59)).heap.size = w3.heap.size + 1 + 1 := by rw [size_alloc, size_alloc]
          have hR3 := hr3.lt
          go_wp2_with (at_builtin; refine wpList_append_sep _ rfl (.tmp 20) (.tmp 24) 50 rfl 59 i0 (.agg #[.bool false, .int .i64 0, .slice none 0 0, .slice none 0 0, .int .i64 0, .int .i64 0]) 6 80 Tryz.underlying50 hi0 hz0 hz1 hz2 rfl (by decide) _ l.length cs.flatten rfl hsX.row.own ⟨w3.heap.size + 1, 0, none⟩ 1 1 [.bool true, .int .i64 k, .slice sa sn sc, .slice ba bn bc, .int .i64 lo, .int .i64 hi'] rfl rfl (by have := cell_six_new (w3.alloc (.cells #[.int .i64 k, .slice sa sn sc, .slice ba bn bc, .int .i64 lo, .int .i64 hi'] 57)) (.bool true) (.int .i64 k) (.slice sa sn sc) (.slice ba bn bc) (.int .i64 lo) (.int .i64 hi') 59; rw [size_alloc] at this; exact this) (shape_part _ _ _ _ _ _ _ _ _ _) (by unfold maxLen; omega) (by omega) ?_)
          intro v' w4 hap
          have hown : ∀ b, b < w.heap.size → some b ≠ v.ownBlock := fun b hb e => by have h1 : w.heap.size ≤ b := hsX.row.blk b e.symm; omega
          have hr4 : Rd w4 R s _ _ _ _ := hrX.grown hap.grown (hown _ (by omega))
          have hk4 : Kept R w w4 := hkX.grown hap.grown (fun g hg => Or.inr (hsX.row.blk g hg))
          have hrow4 : RowAt w4 (w.heap.size ≤ ·) 59 6 v' (l.length + 1) (cs.flatten ++ [.bool true, .int .i64 k, .slice sa sn sc, .slice ba bn bc, .int .i64 lo, .int .i64 hi']) := hap.row hsX.row (fun g hg => by rw [hX2] at hg; show w.heap.size ≤ g; omega)
          have hsh4 : ∃ va vn vc, v' = .slice va vn vc := by obtain ⟨a, c, h⟩ := hrow4.shape; exact ⟨a, _, c, h⟩
          obtain ⟨va, vn, vc, rfl⟩ := hsh4
          clear hap hsX hrX hkX
          go_wp2_with fail
          refine (here_no R s p p d3 (0 : Nat) _ _ hr4 (by omega)).mono ?_
          rintro e w5 ⟨rfl, n5, rfl⟩
          go_wp2_with fail
          go_roundg K
          case measure => omega
          case rel => exact ⟨by omega, hk4.drewN n5, Or.inr (Or.inr ⟨rfl, p, d3, _, _, hr4.drewN n5, RowAt.keep hrow4 (fun _ _ _ => rfl), HNX.out⟩)⟩
      · have h33' : Munch.hasAt s i1 33 = false := by simpa using h33
        rw [h33'] at hpa'
        have HPA : Hid (Munch.patternF s N i d [] = (Munch.formF s K i1 0 d1 []).bind fun x => if Munch.hasAt s x.2.1 38 then Munch.patternF s K (x.2.1 + 1) x.2.2 (l ++ [(false, x.1)]) else .ok (l ++ [(false, x.1)], x.2)) := hpa'.symm
        have HFO : Hid (Munch.formF s K i1 0 d1 [] ≠ .out) := fun h => HOUT.out (by rw [HPA.out, h]; rfl)
        clear hpa'
        rw [h33']
        clear h33 h33'
        go_wp2_with fail
        have hr1 : Rd (wr.drewN n1) R s i1 bad (deepI d1) (0 : Nat) := hr0.drewN n1
        have hk1 : Kept R w (wr.drewN n1) := hK.drewN n1
        have hsub1 : SubsG PartIn 59 6 (wr.drewN n1) (w.heap.size ≤ ·) v l cs := partsKeep hsub (fun _ _ _ => rfl)
        have hz1' : w.heap.size ≤ (wr.drewN n1).heap.size := hk1.size
        clear hr0 hsub c1 f1
        generalize wr.drewN n1 = W1 at *
        refine (form_all K R s (i1) bad d1 0 _ hr1 hb hs (by omega) (by omega) HFO.out).mono ?_
        rintro e w3 (⟨nd, j, d3, cN, hpf, rfl, hn, hr3, hk3⟩ | ⟨p, d3, cN, hpf, rfl, hsh, hr3, hk3⟩)
        · have hjb := (Munch.bounds s K).1 _ _ _ _ _ _ _ (by omega) hpf
          have HPF : Hid _ := hpf; clear hpf
          obtain ⟨k, sa, sn, sc, ba, bn, bc, lo, hi', rfl⟩ := hn.shape
          have hz3 := hk3.size
          have hrX := (hr3.alloc (.cells #[.int .i64 k, .slice sa sn sc, .slice ba bn bc, .int .i64 lo, .int .i64 hi'] 57)).alloc (.cells #[.bool false, .int .i64 k, .slice sa sn sc, .slice ba bn bc, .int .i64 lo, .int .i64 hi'] 59)
          have hkX := ((hk1.trans hk3).alloc (.cells #[.int .i64 k, .slice sa sn sc, .slice ba bn bc, .int .i64 lo, .int .i64 hi'] 57)).alloc (.cells #[.bool false, .int .i64 k, .slice sa sn sc, .slice ba bn bc, .int .i64 lo, .int .i64 hi'] 59)
          have hsX : SubsG PartIn 59 6 ((w3.alloc (.cells #[.int .i64 k, .slice sa sn sc, .slice ba bn bc, .int .i64 lo, .int .i64 hi'] 57)).alloc (.cells #[.bool false, .int .i64 k, .slice sa sn sc, .slice ba bn bc, .int .i64 lo, .int .i64 hi'] 59)) (w.heap.size ≤ ·) v l cs := partsKeep (partsKeep (partsKeep hsub1 (fun b hb hok => hk3.block b hb (by have : w.heap.size ≤ b := hok; omega))) (fun b hb _ => Below.heap_alloc w3 _ b hb)) (fun b hb _ => Below.heap_alloc _ _ b hb)
          have hX2 : ((w3.alloc (.cells #[.int .i64 k, .slice sa sn sc, .slice ba bn bc, .int .i64 lo, .int .i64 hi'] 57)).alloc (.cells #[.bool false, .int .i64 k, .slice sa sn sc, .slice ba bn bc, .int .i64 lo, .int .i64 hi'] 59)).heap.size = w3.heap.size + 1 + 1 := by rw [size_alloc, size_alloc]
          have hpX : PartIn ((w3.alloc (.cells #[.int .i64 k, .slice sa sn sc, .slice ba bn bc, .int .i64 lo, .int .i64 hi'] 57)).alloc (.cells #[.bool false, .int .i64 k, .slice sa sn sc, .slice ba bn bc, .int .i64 lo, .int .i64 hi'] 59)) (fun b => w.heap.size ≤ b ∧ v.ownBlock ≠ some b) (false, nd) [.bool false, .int .i64 k, .slice sa sn sc, .slice ba bn bc, .int .i64 lo, .int .i64 hi'] := ⟨[.int .i64 k, .slice sa sn sc, .slice ba bn bc, .int .i64 lo, .int .i64 hi'], rfl, ((hn.mono (ok' := fun b => w.heap.size ≤ b ∧ v.ownBlock ≠ some b) (fun b _ hok => by have h1 : W1.heap.size ≤ b := hok; exact ⟨by omega, fun e => by have := hsub1.row.lt b e; omega⟩)).keep (fun b hb _ => Below.heap_alloc w3 _ b hb)).keep (fun b hb _ => Below.heap_alloc _ _ b hb)⟩
          have hR3 := hr3.lt
          go_wp2_with (at_builtin; refine wpList_append_sep _ rfl (.tmp 20) (.tmp 24) 50 rfl 59 i0 (.agg #[.bool false, .int .i64 0, .slice none 0 0, .slice none 0 0, .int .i64 0, .int .i64 0]) 6 80 Tryz.underlying50 hi0 hz0 hz1 hz2 rfl (by decide) _ l.length cs.flatten rfl hsX.row.own ⟨w3.heap.size + 1, 0, none⟩ 1 1 [.bool false, .int .i64 k, .slice sa sn sc, .slice ba bn bc, .int .i64 lo, .int .i64 hi'] rfl rfl (by have := cell_six_new (w3.alloc (.cells #[.int .i64 k, .slice sa sn sc, .slice ba bn bc, .int .i64 lo, .int .i64 hi'] 57)) (.bool false) (.int .i64 k) (.slice sa sn sc) (.slice ba bn bc) (.int .i64 lo) (.int .i64 hi') 59; rw [size_alloc] at this; exact this) (shape_part _ _ _ _ _ _ _ _ _ _) (by unfold maxLen; omega) (by omega) ?_)
          intro v' w4 hap
          have hown : ∀ b, b < w.heap.size → some b ≠ v.ownBlock := fun b hb e => by have h1 : w.heap.size ≤ b := hsX.row.blk b e.symm; omega
          have hr4 : Rd w4 R s _ _ _ _ := hrX.grown hap.grown (hown _ (by omega))
          have hk4 : Kept R w w4 := hkX.grown hap.grown (fun g hg => Or.inr (hsX.row.blk g hg))
          have hs4 : SubsG PartIn 59 6 w4 (w.heap.size ≤ ·) v' (l ++ [(false, nd)]) (cs ++ [[.bool false, .int .i64 k, .slice sa sn sc, .slice ba bn bc, .int .i64 lo, .int .i64 hi']]) := partsAppend hsX hpX hap (fun g hg => by rw [hX2] at hg; show w.heap.size ≤ g; omega)
          have hsh4 : ∃ va vn vc, v' = .slice va vn vc := by obtain ⟨a, c, h⟩ := hs4.row.shape; exact ⟨a, _, c, h⟩
          obtain ⟨va, vn, vc, rfl⟩ := hsh4
          clear hap hsX hrX hkX
          go_wp2_with fail
          refine (here_ok R s j bad (deepI d3) (0 : Nat) 38 _ hr4 hb).mono ?_
          rintro e w5 ⟨rfl, n5, rfl⟩
          have m1 := hr4.c1
          have mf := hr4.fr 1
          have hR4 := hr4.lt
          by_cases h38 : Munch.hasAt s j 38 = true
          · have hj := Munch.hasAt_true _ _ _ h38
            have HNX : Hid (Munch.patternF s K (j + 1) d3 (l ++ [(false, nd)]) = Munch.patternF s N i d []) := by show _ = _; rw [HPA.out, HPF.out]; simp [h38]
            rw [h38]
            clear h38
            go_wp2_with fail
            go_roundg K
            case measure => omega
            case rel => exact ⟨by omega, (hk4.drewN n5).setR _ _, Or.inl ⟨rfl, j + 1, d3, _, cs ++ [[.bool false, .int .i64 k, .slice sa sn sc, .slice ba bn bc, .int .i64 lo, .int .i64 hi']], ((hr4.drewN n5).set1 _).at_ (by omega) rfl, by omega, by simp; omega, partsKeep (partsDrewN hs4 n5) (fun b _ hok => Below.heap_setCell _ _ _ b (by have : w.heap.size ≤ b := hok; simp <;> omega)), HNX.out⟩⟩
          · have h38' : Munch.hasAt s j 38 = false := by simpa using h38
            have HNX : Hid (Munch.patternF s N i d [] = .ok (l ++ [(false, nd)], j, d3)) := by show _ = _; rw [HPA.out, HPF.out]; simp [h38']
            rw [h38']
            clear h38 h38'
            go_wp2_with fail
            go_roundg K
            case measure => omega
            case rel => exact ⟨by omega, hk4.drewN n5, Or.inr (Or.inl ⟨rfl, j, d3, _, cs ++ [[.bool false, .int .i64 k, .slice sa sn sc, .slice ba bn bc, .int .i64 lo, .int .i64 hi']], hr4.drewN n5, partsDrewN hs4 n5, HNX.out⟩)⟩
        · have HNX : Hid (Munch.patternF s N i d [] = .bad p) := by show _ = _; rw [HPA.out, hpf]; rfl
          clear hpf
          obtain ⟨k, sa, sn, sc, ba, bn, bc, lo, hi', rfl⟩ := hsh
          have hz3 := hk3.size
          have hrX := (hr3.alloc (.cells #[.int .i64 k, .slice sa sn sc, .slice ba bn bc, .int .i64 lo, .int .i64 hi'] 57)).alloc (.cells #[.bool false, .int .i64 k, .slice sa sn sc, .slice ba bn bc, .int .i64 lo, .int .i64 hi'] 59)
          have hkX := ((hk1.trans hk3).alloc (.cells #[.int .i64 k, .slice sa sn sc, .slice ba bn bc, .int .i64 lo, .int .i64 hi'] 57)).alloc (.cells #[.bool false, .int .i64 k, .slice sa sn sc, .slice ba bn bc, .int .i64 lo, .int .i64 hi'] 59)
          have hsX : SubsG PartIn 59 6 ((w3.alloc (.cells #[.int .i64 k, .slice sa sn sc, .slice ba bn bc, .int .i64 lo, .int .i64 hi'] 57)).alloc (.cells #[.bool false, .int .i64 k, .slice sa sn sc, .slice ba bn bc, .int .i64 lo, .int .i64 hi'] 59)) (w.heap.size ≤ ·) v l cs := partsKeep (partsKeep (partsKeep hsub1 (fun b hb hok => hk3.block b hb (by have : w.heap.size ≤ b := hok; omega))) (fun b hb _ => Below.heap_alloc w3 _ b hb)) (fun b hb _ => Below.heap_alloc _ _ b hb)
          have hX2 : ((w3.alloc (.cells #[.int .i64 k, .slice sa sn sc, .slice ba bn bc, .int .i64 lo, .int .i64 hi'] 57)).alloc (.cells #[.bool false, .int .i64 k, .slice sa sn sc, .slice ba bn bc, .int .i64 lo, .int .i64 hi'] 59)).heap.size = w3.heap.size + 1 + 1 := by rw [size_alloc, size_alloc]
          have hR3 := hr3.lt
          go_wp2_with (at_builtin; refine wpList_append_sep _ rfl (.tmp 20) (.tmp 24) 50 rfl 59 i0 (.agg #[.bool false, .int .i64 0, .slice none 0 0, .slice none 0 0, .int .i64 0, .int .i64 0]) 6 80 Tryz.underlying50 hi0 hz0 hz1 hz2 rfl (by decide) _ l.length cs.flatten rfl hsX.row.own ⟨w3.heap.size + 1, 0, none⟩ 1 1 [.bool false, .int .i64 k, .slice sa sn sc, .slice ba bn bc, .int .i64 lo, .int .i64 hi'] rfl rfl (by have := cell_six_new (w3.alloc (.cells #[.int .i64 k, .slice sa sn sc, .slice ba bn bc, .int .i64 lo, .int .i64 hi'] 57)) (.bool false) (.int .i64 k) (.slice sa sn sc) (.slice ba bn bc) (.int .i64 lo) (.int .i64 hi') 59; rw [size_alloc] at this; exact this) (shape_part _ _ _ _ _ _ _ _ _ _) (by unfold maxLen; omega) (by omega) ?_)
          intro v' w4 hap
          have hown : ∀ b, b < w.heap.size → some b ≠ v.ownBlock := fun b hb e => by have h1 : w.heap.size ≤ b := hsX.row.blk b e.symm; omega
          have hr4 : Rd w4 R s _ _ _ _ := hrX.grown hap.grown (hown _ (by omega))
          have hk4 : Kept R w w4 := hkX.grown hap.grown (fun g hg => Or.inr (hsX.row.blk g hg))
          have hrow4 : RowAt w4 (w.heap.size ≤ ·) 59 6 v' (l.length + 1) (cs.flatten ++ [.bool false, .int .i64 k, .slice sa sn sc, .slice ba bn bc, .int .i64 lo, .int .i64 hi']) := hap.row hsX.row (fun g hg => by rw [hX2] at hg; show w.heap.size ≤ g; omega)
          have hsh4 : ∃ va vn vc, v' = .slice va vn vc := by obtain ⟨a, c, h⟩ := hrow4.shape; exact ⟨a, _, c, h⟩
          obtain ⟨va, vn, vc, rfl⟩ := hsh4
          clear hap hsX hrX hkX
          go_wp2_with fail
          refine (here_no R s p p d3 (0 : Nat) _ _ hr4 (by omega)).mono ?_
          rintro e w5 ⟨rfl, n5, rfl⟩
          go_wp2_with fail
          go_roundg K
          case measure => omega
          case rel => exact ⟨by omega, hk4.drewN n5, Or.inr (Or.inr ⟨rfl, p, d3, _, _, hr4.drewN n5, RowAt.keep hrow4 (fun _ _ _ => rfl), HNX.out⟩)⟩
    · have HR : Hid _ := hR; clear hR
      go_wp2_with fail
      go_ret
      exact Or.inl ⟨_, _, _, _, _, HR.out, rfl, hsub, hr0, hK⟩
    · have HR : Hid _ := hR; clear hR
      go_wp2_with fail
      go_ret
      exact Or.inr ⟨_, _, _, _, _, HR.out, rfl, hrow, hr0, hK⟩
end Go.Proofs.YtkoaeojdlanolaaGreatDoor
/-
  THE WALK of munchref.Read.
-/
namespace Go.Proofs.YtkoaeojdlanolaaGreatDoor
open Go.RowKit

theorem infoParts : (Tryz.prog.info? 50).map (fun i => (i.zero, i.size, i.bytes)) = some (some (.slice none 0 0), 1, 24) := by kernel_rfl
theorem patsKeep {w w' : World} {ok : Nat → Prop} {v : Value} {l : List (List Munch.Part)} {cs : List (List Value)} (h : SubsG PatIn 50 1 w ok v l cs) (hk : ∀ b, b < w.heap.size → ok b → w'.heap[b]? = w.heap[b]?) : SubsG PatIn 50 1 w' ok v l cs := SubsG.keep (P := PatIn) patKeeps h hk
theorem patsDrewN {w : World} {ok : Nat → Prop} {v : Value} {l : List (List Munch.Part)} {cs : List (List Value)} (h : SubsG PatIn 50 1 w ok v l cs) (n : Nat) : SubsG PatIn 50 1 (w.drewN n) ok v l cs := patsKeep (w := w) (w' := w.drewN n) h (fun _ _ _ => rfl)

def ReadPost (r : Munch.Res (List (List Munch.Part) × Option Nat)) (s : ByteArray) (w : World) (e : Ending) (w' : World) : Prop :=
  (∃ l d v cs j, r = .ok (l, d) ∧ e = .returned (.tuple #[v, ptr w.heap.size]) ∧ SubsG PatIn 50 1 w' (w.heap.size + 1 ≤ ·) v l cs ∧ Rd w' w.heap.size s (j : Nat) (-1) (deepI d) (0 : Nat) ∧ Below w.heap.size w w') ∨
  (∃ (p : Nat) (d : Int) (v : Value) (i : Nat), r = .bad p ∧ e = .returned (.tuple #[v, ptr w.heap.size]) ∧ Rd w' w.heap.size s (i : Nat) (p : Nat) d (0 : Nat) ∧ Below w.heap.size w w')

/-- The loop over the patterns. -/
def LLoop (s : ByteArray) (w W0 : World) (R0 : Munch.Res (List (List Munch.Part) × Option Nat)) (k : Nat) (v more : Value) (wr : World) : Prop :=
  Kept w.heap.size W0 wr ∧
  ((more = .bool true ∧ ∃ i d l cs, Rd wr w.heap.size s (i : Nat) (-1) (deepI d) (0 : Nat) ∧ i ≤ s.size ∧ l.length < 5 ∧ SubsG PatIn 50 1 wr (w.heap.size + 1 ≤ ·) v l cs ∧ Munch.listF s k i d l = R0) ∨
   (more = .bool false ∧ ∃ i d l cs, Rd wr w.heap.size s (i : Nat) (-1) (deepI d) (0 : Nat) ∧ SubsG PatIn 50 1 wr (w.heap.size + 1 ≤ ·) v l cs ∧ R0 = if i < s.size then .bad i else .ok (l, d)) ∨
   (more = .bool false ∧ ∃ (p : Nat) (d : Int) (n : Nat) (xs : List Value), Rd wr w.heap.size s (p : Nat) (p : Nat) d (0 : Nat) ∧ RowAt wr (w.heap.size + 1 ≤ ·) 50 1 v n xs ∧ R0 = .bad p))

set_option maxHeartbeats 4000000 in
theorem read_any (N : Nat) (s : ByteArray) (w : World) (hs : s.size ≤ 1000) (hout : Munch.listF s N 0 none [] ≠ .out) :
    Calls Tryz.prog 11 #[.string s] w fun e w' => ReadPost (Munch.listF s N 0 none []) s w e w' := by
  obtain ⟨i0, hi0, hz0, hz1, hz2⟩ := info_parts infoParts
  have HOUT : Hid _ := hout; clear hout
  have hneg : (-1 : Int) < 0 := by omega
  go_enter Tryz.func11, Tryz.ntmps11
  go_wp2_with fail
  go_loopg [5, 6] N (fun k v more wr => k ≤ N ∧ LLoop s w (w.alloc (.cells #[.string s, .int .i64 0, .int .i64 (-1), .int .i64 (-1), .int .i64 0] 42)) (Munch.listF s N 0 none []) k v more wr)
  case atStart => exact ⟨Nat.le_refl _, Kept.refl _ _, Or.inl ⟨rfl, 0, none, [], [], Blk.new w #[.string s, .int .i64 0, .int .i64 (-1), .int .i64 (-1), .int .i64 0] 42, by omega, by simp, SubsG.nil _ _ _ _ _, rfl⟩⟩
  case round =>
    obtain ⟨hgN, hK, hcase⟩ := hrel
    have hK1 := hK.size
    rw [size_alloc] at hK1
    rcases hcase with ⟨rfl, i1, d1, l, cs, hr0, hi1, hll, hsub, hpa⟩ | ⟨rfl, i1, d1, l, cs, hr0, hsub, hR⟩ | ⟨rfl, p, d1, n, xs, hr0, hrow, hR⟩
    · obtain ⟨K, rfl⟩ : ∃ K, gk = K + 1 := by
        cases gk with
        | zero => exact absurd (by rw [← hpa, Munch.listF]) HOUT.out
        | succ K => exact ⟨K, rfl⟩
      have hpa' := hpa.symm
      rw [Munch.listF] at hpa'
      have HPA : Hid _ := hpa'
      have HPO : Hid (Munch.patternF s K i1 d1 [] ≠ .out) := fun h => HOUT.out (by rw [hpa', h]; rfl)
      clear hpa hpa'
      obtain ⟨v, hvv⟩ : ∃ v, v = u5 := ⟨_, rfl⟩
      subst hvv
      go_wp2_with fail
      refine (pattern_any K w.heap.size s i1 (-1) d1 _ hr0 hneg hs hi1 HPO.out).mono ?_
      rintro e w3 (⟨ps, j, d3, vp, pcs, hpf, rfl, hps, hr3, hk3⟩ | ⟨p, d3, vp, pn0, pxs, hpf, rfl, hprow, hr3, hk3⟩)
      · have HPF : Hid _ := hpf; clear hpf
        have hshp : ∃ pa pn pc, vp = .slice pa pn pc := by obtain ⟨a, c, h⟩ := hps.row.shape; exact ⟨a, _, c, h⟩
        obtain ⟨pa, pn, pc, rfl⟩ := hshp
        have hz3 := hk3.size
        have hrX := hr3.alloc (.cells #[.slice pa pn pc] 50)
        have hkX := (hK.trans hk3).alloc (.cells #[.slice pa pn pc] 50)
        have hsX : SubsG PatIn 50 1 (w3.alloc (.cells #[.slice pa pn pc] 50)) (w.heap.size + 1 ≤ ·) v l cs := patsKeep (patsKeep hsub (fun b hb hok => hk3.block b hb (by have : w.heap.size + 1 ≤ b := hok; omega))) (fun b hb _ => Below.heap_alloc w3 _ b hb)
        have hpX : PatIn (w3.alloc (.cells #[.slice pa pn pc] 50)) (fun b => w.heap.size + 1 ≤ b ∧ v.ownBlock ≠ some b) ps [.slice pa pn pc] := ⟨_, pcs, rfl, partsKeep (SubsG.mono (P := PartIn) partMonos (ok' := fun b => w.heap.size + 1 ≤ b ∧ v.ownBlock ≠ some b) hps (fun b _ hok => by have h1 : wr.heap.size ≤ b := hok; exact ⟨by omega, fun e => by have := hsub.row.lt b e; omega⟩)) (fun b hb _ => Below.heap_alloc w3 _ b hb)⟩
        have hR3 := hr3.lt
        go_wp2_with (at_builtin; refine wpList_append_sep _ rfl (.tmp 14) (.tmp 16) 37 rfl 50 i0 (.slice none 0 0) 1 24 Tryz.underlying37 hi0 hz0 hz1 hz2 rfl (by decide) _ l.length cs.flatten rfl hsX.row.own ⟨w3.heap.size, 0, none⟩ 1 1 [.slice pa pn pc] rfl rfl (cell_one_new _ _ _) (by intro u hu; simp at hu; subst hu; rfl) (by unfold maxLen; omega) (by omega) ?_)
        intro v' w4 hap
        have hown : ∀ b, b < w.heap.size + 1 → some b ≠ v.ownBlock := fun b hb e => by have h1 : w.heap.size + 1 ≤ b := hsX.row.blk b e.symm; omega
        have hr4 : Rd w4 w.heap.size s _ _ _ _ := hrX.grown hap.grown (hown _ (by omega))
        have hk4 : Kept w.heap.size (w.alloc (.cells #[.string s, .int .i64 0, .int .i64 (-1), .int .i64 (-1), .int .i64 0] 42)) w4 := hkX.grown hap.grown (fun g hg => Or.inr (by have h1 : w.heap.size + 1 ≤ g := hsX.row.blk g hg; rw [size_alloc]; omega))
        have hs4 : SubsG PatIn 50 1 w4 (w.heap.size + 1 ≤ ·) v' (l ++ [ps]) (cs ++ [[.slice pa pn pc]]) := SubsG.append (P := PatIn) patMonos patKeeps hsX hpX hap (fun g hg => by rw [size_alloc] at hg; show w.heap.size + 1 ≤ g; omega)
        have hsh4 : ∃ va vc, v' = .slice va (l.length + 1) vc := by have := hs4.row.shape; simpa using this
        obtain ⟨va, vc, rfl⟩ := hsh4
        clear hap hsX hrX hkX
        go_wp2_with fail
        refine (here_ok w.heap.size s j (-1) (deepI d3) (0 : Nat) 10 _ hr4 hneg).mono ?_
        rintro e w5 ⟨rfl, n5, rfl⟩
        have m1 := hr4.c1
        have mf := hr4.fr 1
        have hR4 := hr4.lt
        have hpa2 := HPA.out
        rw [HPF.out] at hpa2
        simp only [Munch.Res.bind_ok] at hpa2
        by_cases h10 : Munch.hasAt s j 10 = true
        · have hj := Munch.hasAt_true _ _ _ h10
          by_cases h5 : l.length + 1 < 5
          · have HNX : Hid (Munch.listF s K (j + 1) d3 (l ++ [ps]) = Munch.listF s N 0 none []) := by show _ = _; rw [hpa2]; simp [h10, h5]
            have h5' : ((l.length : Int) + 1 < 5) := by omega
            rw [h10]
            clear h10 hpa2
            go_wp2_with fail
            go_roundg K
            case measure => omega
            case rel => exact ⟨by omega, (hk4.drewN n5).setR _ _, Or.inl ⟨rfl, j + 1, d3, _, cs ++ [[.slice pa pn pc]], ((hr4.drewN n5).set1 _).at_ (by omega) rfl, by omega, by simp; omega, patsKeep (patsDrewN hs4 n5) (fun b _ hok => Below.heap_setCell _ _ _ b (by have : w.heap.size + 1 ≤ b := hok; simp <;> omega)), HNX.out⟩⟩
          · have HNX : Hid (Munch.listF s N 0 none [] = if j < s.size then .bad j else .ok (l ++ [ps], d3)) := by show _ = _; rw [hpa2]; simp [h5]
            have h5' : decide ((l.length : Int) + 1 < 5) = false := by simp; omega
            rw [h10]
            clear h10 hpa2
            go_wp2_with fail
            go_roundg K
            case measure => omega
            case rel => exact ⟨by omega, hk4.drewN n5, Or.inr (Or.inl ⟨rfl, j, d3, _, cs ++ [[.slice pa pn pc]], hr4.drewN n5, patsDrewN hs4 n5, HNX.out⟩)⟩
        · have h10' : Munch.hasAt s j 10 = false := by simpa using h10
          have HNX : Hid (Munch.listF s N 0 none [] = if j < s.size then .bad j else .ok (l ++ [ps], d3)) := by show _ = _; rw [hpa2]; simp [h10']
          rw [h10']
          clear h10 h10' hpa2
          go_wp2_with fail
          go_roundg K
          case measure => omega
          case rel => exact ⟨by omega, hk4.drewN n5, Or.inr (Or.inl ⟨rfl, j, d3, _, cs ++ [[.slice pa pn pc]], hr4.drewN n5, patsDrewN hs4 n5, HNX.out⟩)⟩
      · have HNX : Hid (Munch.listF s N 0 none [] = .bad p) := by show _ = _; rw [HPA.out, hpf]; rfl
        clear hpf
        have hshp : ∃ pa pn pc, vp = .slice pa pn pc := by obtain ⟨a, c, h⟩ := hprow.shape; exact ⟨a, _, c, h⟩
        obtain ⟨pa, pn, pc, rfl⟩ := hshp
        have hz3 := hk3.size
        have hrX := hr3.alloc (.cells #[.slice pa pn pc] 50)
        have hkX := (hK.trans hk3).alloc (.cells #[.slice pa pn pc] 50)
        have hsX : SubsG PatIn 50 1 (w3.alloc (.cells #[.slice pa pn pc] 50)) (w.heap.size + 1 ≤ ·) v l cs := patsKeep (patsKeep hsub (fun b hb hok => hk3.block b hb (by have : w.heap.size + 1 ≤ b := hok; omega))) (fun b hb _ => Below.heap_alloc w3 _ b hb)
        have hR3 := hr3.lt
        go_wp2_with (at_builtin; refine wpList_append_sep _ rfl (.tmp 14) (.tmp 16) 37 rfl 50 i0 (.slice none 0 0) 1 24 Tryz.underlying37 hi0 hz0 hz1 hz2 rfl (by decide) _ l.length cs.flatten rfl hsX.row.own ⟨w3.heap.size, 0, none⟩ 1 1 [.slice pa pn pc] rfl rfl (cell_one_new _ _ _) (by intro u hu; simp at hu; subst hu; rfl) (by unfold maxLen; omega) (by omega) ?_)
        intro v' w4 hap
        have hown : ∀ b, b < w.heap.size + 1 → some b ≠ v.ownBlock := fun b hb e => by have h1 : w.heap.size + 1 ≤ b := hsX.row.blk b e.symm; omega
        have hr4 : Rd w4 w.heap.size s _ _ _ _ := hrX.grown hap.grown (hown _ (by omega))
        have hk4 : Kept w.heap.size (w.alloc (.cells #[.string s, .int .i64 0, .int .i64 (-1), .int .i64 (-1), .int .i64 0] 42)) w4 := hkX.grown hap.grown (fun g hg => Or.inr (by have h1 : w.heap.size + 1 ≤ g := hsX.row.blk g hg; rw [size_alloc]; omega))
        have hrow4 : RowAt w4 (w.heap.size + 1 ≤ ·) 50 1 v' (l.length + 1) (cs.flatten ++ [.slice pa pn pc]) := hap.row hsX.row (fun g hg => by rw [size_alloc] at hg; show w.heap.size + 1 ≤ g; omega)
        obtain ⟨va, vc, rfl⟩ := hrow4.shape
        clear hap hsX hrX hkX
        go_wp2_with fail
        refine (here_no w.heap.size s p p d3 (0 : Nat) _ _ hr4 (by omega)).mono ?_
        rintro e w5 ⟨rfl, n5, rfl⟩
        go_wp2_with fail
        go_roundg K
        case measure => omega
        case rel => exact ⟨by omega, hk4.drewN n5, Or.inr (Or.inr ⟨rfl, p, d3, _, _, hr4.drewN n5, RowAt.keep hrow4 (fun _ _ _ => rfl), HNX.out⟩)⟩
    · have c1 := hr0.c1
      have hbel : Below w.heap.size w wr := ((Below.refl _ w).alloc (Nat.le_refl _) _).trans (hK.toBelow (Nat.le_refl _) (by rw [size_alloc]; omega))
      by_cases hj : i1 < s.size
      · have HR : Hid (Munch.listF s N 0 none [] = .bad i1) := by show _ = _; rw [hR, if_pos hj]
        clear hR
        go_wp2_with fail
        refine (fail_any w.heap.size s i1 (-1) (deepI d1) (0 : Nat) _ hr0).mono ?_
        rintro e w3 ⟨rfl, hr3, hk3⟩
        rw [if_pos hneg] at hr3
        go_wp2_with fail
        go_ret2
        exact Or.inr ⟨_, _, _, _, HR.out, rfl, hr3, hbel.trans (hk3.toBelow (Nat.le_refl _) (by omega))⟩
      · have HR : Hid (Munch.listF s N 0 none [] = .ok (l, d1)) := by show _ = _; rw [hR, if_neg hj]
        clear hR
        go_wp2_with fail
        go_ret2
        exact Or.inl ⟨_, _, _, _, _, HR.out, rfl, hsub, hr0, hbel⟩
    · have c1 := hr0.c1
      have HR : Hid _ := hR; clear hR
      have hbel : Below w.heap.size w wr := ((Below.refl _ w).alloc (Nat.le_refl _) _).trans (hK.toBelow (Nat.le_refl _) (by rw [size_alloc]; omega))
      by_cases hj : p < s.size
      · go_wp2_with fail
        refine (fail_any w.heap.size s p p d1 (0 : Nat) _ hr0).mono ?_
        rintro e w3 ⟨rfl, hr3, hk3⟩
        rw [if_neg (by omega)] at hr3
        go_wp2_with fail
        go_ret2
        exact Or.inr ⟨_, _, _, _, HR.out, rfl, hr3, hbel.trans (hk3.toBelow (Nat.le_refl _) (by omega))⟩
      · go_wp2_with fail
        go_ret2
        exact Or.inr ⟨_, _, _, _, HR.out, rfl, hr0, hbel⟩
end Go.Proofs.YtkoaeojdlanolaaGreatDoor
