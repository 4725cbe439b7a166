import Derived.Test.YtkoaeojdlanolaaGreatDoorCc05
import Derived.Test.YtkoaeojdlanolaaGreatDoorCc01
import Derived.Test.YtkoaeojdlanolaaGreatDoorCc09
import Derived.Deep.DeepCutAuto
import Derived.Deep.Cut
import Derived.Deep.CutRange
/-
  GROUPS of rows (tree.mergeHeads): how they lie in memory.
-/
namespace Go.Proofs.YtkoaeojdlanolaaGreatDoor
open Go.RowKit
open Munch (Words Wempty Wbytes Wcat Wany Wall Wnot KeyF Times numText)

theorem row_cells {w : World} {base : Nat} {e : TypeId} {size : Nat} {v : Value} {n : Nat} {xs : List Value} (h : w.ownsRow base e size v n xs) {g : Nat} (hg : v.ownBlock = some g) : ∃ cur, w.heap[g]? = some (.cells cur e (0, 0)) := by
  rcases h.2 with ⟨rfl, _⟩ | ⟨g', cap, cur, rfl, _, hh, _⟩
  · simp [Value.ownBlock] at hg
  · obtain rfl : g' = g := by simpa [Value.ownBlock] using hg
    exact ⟨cur, hh⟩
theorem row_ne {w : World} {base : Nat} {e : TypeId} {size : Nat} {v : Value} {n : Nat} {xs : List Value} (h : w.ownsRow base e size v n xs) {b : Nat} {t : TypeId} {c : Array Value} (hb : w.heap[b]? = some (.cells c t (0, 0))) (hne : e ≠ t) {g : Nat} (hg : v.ownBlock = some g) : g ≠ b := by
  obtain ⟨cur, hc⟩ := row_cells h hg
  intro he; subst he
  rw [hc] at hb; simp at hb
  exact hne hb.2
theorem row_ne_map {w : World} {base : Nat} {e : TypeId} {size : Nat} {v : Value} {n : Nat} {xs : List Value} (h : w.ownsRow base e size v n xs) {k : TypeId} {b m : Nat} {P : Value → Value → Prop} (hb : MapIs w k b m P) {g : Nat} (hg : v.ownBlock = some g) : g ≠ b := by
  obtain ⟨cur, hc⟩ := row_cells h hg
  obtain ⟨es, cl, hm, _⟩ := hb
  intro he; subst he
  rw [hc] at hm; simp at hm
theorem blk_ne_map {w : World} {t : TypeId} {c : Array Value} {a : Nat} (h : Blk w a t c) {k : TypeId} {b m : Nat} {P : Value → Value → Prop} (hb : MapIs w k b m P) : a ≠ b := by
  obtain ⟨es, cl, hm, _⟩ := hb
  intro he; subst he
  unfold Blk at h
  rw [h] at hm; simp at hm
theorem blk_ne {w : World} {t t' : TypeId} {c c' : Array Value} {a b : Nat} (h : Blk w a t c) (h' : Blk w b t' c') (hne : t ≠ t') : a ≠ b := by
  intro he; subst he
  unfold Blk at h h'
  rw [h] at h'; simp at h'
  exact hne h'.2
theorem rows_ne {w : World} {base base' : Nat} {e e' : TypeId} {size size' : Nat} {v v' : Value} {n n' : Nat} {xs xs' : List Value} (h : w.ownsRow base e size v n xs) (h' : w.ownsRow base' e' size' v' n' xs') (hne : e ≠ e') {g : Nat} (hg : v.ownBlock = some g) : some g ≠ v'.ownBlock := by
  intro he
  obtain ⟨cur, hc⟩ := row_cells h' he.symm
  exact row_ne h hc hne hg rfl

theorem keeps_grown {w w' : World} {row : Option Nat} (h : w.grownBy w' row) : Keeps (fun k => some k ≠ row) w w' := ⟨h.size, fun k hk hne => h.block k hk hne⟩
theorem keeps_set (w : World) (a : Addr) (v : Value) : Keeps (fun k => k ≠ a.block) w (w.setCell a v) := ⟨by simp [World.setCell], fun k _ hne => Below.heap_setCell w a v k hne⟩
theorem keeps_both {w w1 w2 : World} {p q : Nat → Prop} (h : Keeps p w w1) (h' : Keeps q w1 w2) : Keeps (fun k => p k ∧ q k) w w2 :=
  (h.mono (fun _ _ x => x.1)).trans (h'.mono (fun _ _ x => x.2))

theorem row_set {w : World} {base : Nat} {e : TypeId} {size : Nat} {g n cap : Nat} {xs : List Value} (h : w.ownsRow base e size (.slice (some ⟨g, 0, none⟩) n cap) n xs) (i : Nat) (u : Value) (_hi : i < n * size) :
    (w.setCell ⟨g, i, none⟩ u).ownsRow base e size (.slice (some ⟨g, 0, none⟩) n cap) n (xs.set i u) := by
  obtain ⟨h1, h2⟩ := h
  refine ⟨by simp [h1], ?_⟩
  rcases h2 with ⟨hv, _⟩ | ⟨g', cap', cur, hv, hg, hh, r1, r2, r3, r4⟩
  · cases hv
  · cases hv
    refine Or.inr ⟨g, cap, cur.setIfInBounds i u, rfl, hg, (Blk.set (t := e) (c := cur) hh i u), r1, r2, by simp [r3], ?_⟩
    rw [← r4]
    simp [List.take_set]

structure Grp where
  rows : List Tr
  heads : List (Nat → Bool)
  hvs : List Value
  rest : Tr
  rv : Value
  hv : Value

def Grp.cells (g : Grp) : List Value := [g.rv, g.hv, g.rest.v]
def grpCells : List Grp → List Value
  | [] => []
  | g :: gs => g.rv :: g.hv :: g.rest.v :: grpCells gs
theorem grpCells_len : ∀ (gs : List Grp), (grpCells gs).length = gs.length * 3
  | [] => rfl
  | g :: gs => by simp [grpCells, grpCells_len gs]; omega
theorem grpCells_snoc : ∀ (gs : List Grp) (g : Grp), grpCells (gs ++ [g]) = grpCells gs ++ [g.rv, g.hv, g.rest.v]
  | [], g => rfl
  | x :: gs, g => by simp [grpCells, grpCells_snoc gs g]
theorem grpCells_at : ∀ (gs : List Grp) (j : Nat) (g : Grp), gs[j]? = some g → (grpCells gs)[j * 3]? = some g.rv ∧ (grpCells gs)[j * 3 + 1]? = some g.hv ∧ (grpCells gs)[j * 3 + 2]? = some g.rest.v
  | [], j, g, h => by simp at h
  | x :: gs, 0, g, h => by simp at h; subst h; simp [grpCells]
  | x :: gs, j + 1, g, h => by
    have h' : gs[j]? = some g := by simpa using h
    have := grpCells_at gs j g h'
    have e : (j + 1) * 3 = j * 3 + 3 := by omega
    rw [e]
    simpa [grpCells] using this
theorem grpCells_rv : ∀ (gs : List Grp) (j : Nat) (g : Grp) (v : Value) (ts : List Tr), gs[j]? = some g → grpCells (gs.set j { g with rows := ts, rv := v }) = (grpCells gs).set (j * 3) v
  | [], j, g, v, ts, h => by simp at h
  | x :: gs, 0, g, v, ts, h => by simp at h; subst h; simp [grpCells]
  | x :: gs, j + 1, g, v, ts, h => by
    have h' : gs[j]? = some g := by simpa using h
    have := grpCells_rv gs j g v ts h'
    have e : (j + 1) * 3 = j * 3 + 3 := by omega
    rw [e]
    simpa [grpCells] using this
theorem grpCells_hv : ∀ (gs : List Grp) (j : Nat) (g : Grp) (v : Value) (Ss : List (Nat → Bool)) (vs : List Value), gs[j]? = some g → grpCells (gs.set j { g with heads := Ss, hvs := vs, hv := v }) = (grpCells gs).set (j * 3 + 1) v
  | [], j, g, v, Ss, vs, h => by simp at h
  | x :: gs, 0, g, v, Ss, vs, h => by simp at h; subst h; simp [grpCells]
  | x :: gs, j + 1, g, v, Ss, vs, h => by
    have h' : gs[j]? = some g := by simpa using h
    have := grpCells_hv gs j g v Ss vs h'
    have e : (j + 1) * 3 + 1 = j * 3 + 1 + 3 := by omega
    rw [e]
    simpa [grpCells] using this

/-- Where a rest's key leads. -/
def places (gs : List Grp) (x : ByteArray) (i : Int) : Prop := ∃ (j : Nat) (g : Grp), i = (j : Int) ∧ gs[j]? = some g ∧ g.rest.k = x.data.toList

/-- mergeHeads' memory: its variables 'groups' (at Gb) and 'places' (at s, its map at b), the slice 'out'. 'own' tells rows of one element type apart. -/
structure MH (w0 w : World) (Gb s b n : Nat) (own : Nat → Nat) (ov gv : Value) (out : List Tr) (gs : List Grp) : Prop where
  gblk : Blk w Gb 211 #[gv]
  row : w.ownsRow w0.heap.size 215 3 gv gs.length (grpCells gs)
  rows : ∀ (j : Nat) (g : Grp), gs[j]? = some g → w.ownsRow w0.heap.size 72 1 g.rv g.rows.length (g.rows.map (·.v))
  rown : ∀ (j : Nat) (g : Grp), gs[j]? = some g → ∀ k, g.rv.ownBlock = some k → own k = j + 1
  heads : ∀ (j : Nat) (g : Grp), gs[j]? = some g → w.ownsRow w0.heap.size 149 1 g.hv g.hvs.length g.hvs
  hown : ∀ (j : Nat) (g : Grp), gs[j]? = some g → ∀ k, g.hv.ownBlock = some k → own k = j + 1
  out : w.ownsRow w0.heap.size 72 1 ov out.length (out.map (·.v))
  oown : ∀ k, ov.ownBlock = some k → own k = 0
  store : StoreIs w s b n (places gs)
  below : Below w0.heap.size w0 w
  gge : w0.heap.size ≤ Gb
  sge : w0.heap.size ≤ s
  bge : w0.heap.size ≤ b

section
variable {w0 w w1 : World} {Gb s b n : Nat} {own : Nat → Nat} {ov gv : Value} {out : List Tr} {gs : List Grp}

/-- Nothing of it is written. -/
theorem MH.keep (h : MH w0 w Gb s b n own ov gv out gs) (hb : Below w.heap.size w w1) : MH w0 w1 Gb s b n own ov gv out gs where
  gblk := h.gblk.below hb h.gblk.lt
  row := ownsRow_keep h.row hb
  rows := fun j g hj => ownsRow_keep (h.rows j g hj) hb
  rown := h.rown
  heads := fun j g hj => ownsRow_keep (h.heads j g hj) hb
  hown := h.hown
  out := ownsRow_keep h.out hb
  oown := h.oown
  store := h.store.below hb
  below := h.below.trans (hb.mono h.below.size)
  gge := h.gge
  sge := h.sge
  bge := h.bge

theorem below_keeps {B : Nat} {p : Nat → Prop} (h : Below B w0 w) (hk : Keeps p w w1) (ho : w1.os = w.os ∧ w1.tape = w.tape ∧ w1.output = w.output) (hp : ∀ k, k < B → p k) (hB : B ≤ w.heap.size) : Below B w0 w1 :=
  ⟨ho.1.trans h.os, ho.2.1.trans h.tape, ho.2.2.trans h.output, Nat.le_trans h.size hk.1, fun k hkB => (hk.2 k (by omega) (hp k hkB)).trans (h.block k hkB)⟩

/-- One more in 'out'. -/
theorem MH.outSnoc (h : MH w0 w Gb s b n own ov gv out gs) {ov' : Value} {t : Tr} (hown' : w1.ownsRow w0.heap.size 72 1 ov' (out.length + 1) (out.map (·.v) ++ [t.v])) (hg : w.grownBy w1 ov.ownBlock) (hat : ov'.ownBlock = ov.ownBlock ∨ ov'.ownBlock = some w.heap.size) :
    ∃ own', MH w0 w1 Gb s b n own' ov' gv (out ++ [t]) gs := by
  have hk := keeps_grown hg
  have lt : ∀ {e size v m xs k}, w.ownsRow w0.heap.size e size v m xs → v.ownBlock = some k → k ≠ w.heap.size := fun hr hv => by have := (hr.lt _ hv).2; omega
  refine ⟨fun k => if k = w.heap.size then 0 else own k, ?_, ?_, ?_, ?_, ?_, ?_, ?_, ?_, ?_, ?_, h.gge, h.sge, h.bge⟩
  · exact h.gblk.grown hg (fun e => row_ne h.out h.gblk (by decide) e.symm rfl)
  · exact ownsRow_keeps h.row hk (fun k hv => rows_ne h.row h.out (by decide) hv)
  · intro j g hj
    refine ownsRow_keeps (h.rows j g hj) hk (fun k hv e => ?_)
    have := h.rown j g hj k hv
    have := h.oown k e.symm
    omega
  · intro j g hj k hv
    rw [if_neg (lt (h.rows j g hj) hv)]
    exact h.rown j g hj k hv
  · intro j g hj
    exact ownsRow_keeps (h.heads j g hj) hk (fun k hv => rows_ne (h.heads j g hj) h.out (by decide) hv)
  · intro j g hj k hv
    rw [if_neg (lt (h.heads j g hj) hv)]
    exact h.hown j g hj k hv
  · simpa using hown'
  · intro k hv
    rcases hat with hat | hat
    · rw [hat] at hv
      rw [if_neg (lt h.out hv)]
      exact h.oown k hv
    · rw [hat] at hv
      simp at hv
      rw [if_pos hv.symm]
  · exact h.store.keep (hg.block s h.store.blk.lt (fun e => row_ne h.out h.store.blk (by decide) e.symm rfl)) (hg.block b h.store.map.lt (fun e => row_ne_map h.out h.store.map e.symm rfl))
  · exact h.below.grown hg h.below.size (fun k hk => (h.out.lt k hk).1)

/-- Another map under the store. -/
theorem MH.stored (h : MH w0 w Gb s b n own ov gv out gs) {n' : Nat} (hg : w.grownBy w1 (some b)) (hS : StoreIs w1 s b n' (places gs)) : MH w0 w1 Gb s b n' own ov gv out gs where
  gblk := h.gblk.grown hg (fun e => blk_ne_map h.gblk h.store.map (by simpa using e))
  row := ownsRow_keeps h.row (keeps_grown hg) (fun k hv e => row_ne_map h.row h.store.map hv (by simpa using e))
  rows := fun j g hj => ownsRow_keeps (h.rows j g hj) (keeps_grown hg) (fun k hv e => row_ne_map (h.rows j g hj) h.store.map hv (by simpa using e))
  rown := h.rown
  heads := fun j g hj => ownsRow_keeps (h.heads j g hj) (keeps_grown hg) (fun k hv e => row_ne_map (h.heads j g hj) h.store.map hv (by simpa using e))
  hown := h.hown
  out := ownsRow_keeps h.out (keeps_grown hg) (fun k hv e => row_ne_map h.out h.store.map hv (by simpa using e))
  oown := h.oown
  store := hS
  below := h.below.grown hg h.below.size (fun k hk => by cases hk; exact h.bge)
  gge := h.gge
  sge := h.sge
  bge := h.bge

/-- A new group: none of its rows is there yet. -/
def newGrp (rest : Tr) : Grp := ⟨[], [], [], rest, .slice none 0 0, .slice none 0 0⟩
theorem places_snoc (gs : List Grp) (g : Grp) (x : ByteArray) (i : Int) (h : places gs x i) : places (gs ++ [g]) x i := by
  obtain ⟨j, g', h1, h2, h3⟩ := h
  refine ⟨j, g', h1, ?_, h3⟩
  have : j < gs.length := by
    rcases Nat.lt_or_ge j gs.length with hh | hh
    · exact hh
    · rw [List.getElem?_eq_none hh] at h2; cases h2
  rw [List.getElem?_append_left this]; exact h2
theorem snoc_case {α : Type} {gs : List α} {g g' : α} {j : Nat} (h : (gs ++ [g])[j]? = some g') : gs[j]? = some g' ∨ (j = gs.length ∧ g' = g) := by
  rcases Nat.lt_or_ge j gs.length with hh | hh
  · rw [List.getElem?_append_left hh] at h; exact Or.inl h
  · rw [List.getElem?_append_right hh] at h
    by_cases e : j - gs.length = 0
    · rw [e] at h; simp at h; exact Or.inr ⟨by omega, h.symm⟩
    · rw [List.getElem?_eq_none (by simp; omega)] at h; cases h

theorem MH.newGroup (h : MH w0 w Gb s b n own ov gv out gs) {gv' : Value} {rest : Tr} (hown' : w1.ownsRow w0.heap.size 215 3 gv' (gs.length + 1) (grpCells gs ++ [.slice none 0 0, .slice none 0 0, rest.v])) (hg : w.grownBy w1 gv.ownBlock) :
    MH w0 (w1.setCell ⟨Gb, 0, none⟩ gv') Gb s b n own ov gv' out (gs ++ [newGrp rest]) := by
  have hgb1 : Blk w1 Gb 211 #[gv] := h.gblk.grown hg (fun e => row_ne h.row h.gblk (by decide) e.symm rfl)
  have hk := keeps_both (keeps_grown hg) (keeps_set w1 ⟨Gb, 0, none⟩ gv')
  have hnil : ∀ (e : TypeId), (w1.setCell ⟨Gb, 0, none⟩ gv').ownsRow w0.heap.size e 1 (.slice none 0 0) 0 [] := fun e => World.ownsRow_nil _ _ _ _
  refine ⟨?_, ?_, ?_, ?_, ?_, ?_, ?_, h.oown, ?_, ?_, h.gge, h.sge, h.bge⟩
  · have := hgb1.set 0 gv'
    simpa using this
  · rw [grpCells_snoc]
    have := ownsRow_keeps hown' (keeps_set w1 ⟨Gb, 0, none⟩ gv') (fun k hv => row_ne hown' hgb1 (by decide) hv)
    simpa [newGrp] using this
  · intro j g hj
    rcases snoc_case hj with hj | ⟨_, rfl⟩
    · exact ownsRow_keeps (h.rows j g hj) hk (fun k hv => ⟨rows_ne (h.rows j g hj) h.row (by decide) hv, row_ne (h.rows j g hj) h.gblk (by decide) hv⟩)
    · exact hnil _
  · intro j g hj k hv
    rcases snoc_case hj with hj | ⟨_, rfl⟩
    · exact h.rown j g hj k hv
    · simp [newGrp, Value.ownBlock] at hv
  · intro j g hj
    rcases snoc_case hj with hj | ⟨_, rfl⟩
    · exact ownsRow_keeps (h.heads j g hj) hk (fun k hv => ⟨rows_ne (h.heads j g hj) h.row (by decide) hv, row_ne (h.heads j g hj) h.gblk (by decide) hv⟩)
    · exact hnil _
  · intro j g hj k hv
    rcases snoc_case hj with hj | ⟨_, rfl⟩
    · exact h.hown j g hj k hv
    · simp [newGrp, Value.ownBlock] at hv
  · exact ownsRow_keeps h.out hk (fun k hv => ⟨rows_ne h.out h.row (by decide) hv, row_ne h.out h.gblk (by decide) hv⟩)
  · have hs : StoreIs (w1.setCell ⟨Gb, 0, none⟩ gv') s b n (places gs) :=
      h.store.keep (hk.2 s h.store.blk.lt ⟨fun e => row_ne h.row h.store.blk (by decide) e.symm rfl, blk_ne h.store.blk h.gblk (by decide)⟩)
        (hk.2 b h.store.map.lt ⟨fun e => row_ne_map h.row h.store.map e.symm rfl, fun e => blk_ne_map h.gblk h.store.map e.symm⟩)
    exact hs.mono (Nat.le_refl _) (places_snoc gs _)
  · exact (h.below.grown hg h.below.size (fun k hk => (h.row.lt k hk).1)).setCell h.gge _
end
end Go.Proofs.YtkoaeojdlanolaaGreatDoor
/-
  GROUPS of rows (tree.mergeHeads): one row more in a group.
-/
namespace Go.Proofs.YtkoaeojdlanolaaGreatDoor
open Go.RowKit
open Munch (Words Wempty Wbytes Wcat Wany Wall Wnot KeyF Times numText)

section
variable {w0 w w1 : World} {Gb s b n : Nat} {own : Nat → Nat} {ov gv : Value} {out : List Tr} {gs : List Grp}

theorem set_case {α : Type} {gs : List α} {g' x : α} {i j : Nat} (h : (gs.set i g')[j]? = some x) : (j = i ∧ x = g') ∨ (j ≠ i ∧ gs[j]? = some x) := by
  by_cases e : i = j
  · subst e
    rw [List.getElem?_set_self' ] at h
    cases hh : gs[i]? with
    | none => rw [hh] at h; simp at h
    | some y => rw [hh] at h; simp at h; exact Or.inl ⟨rfl, h.symm⟩
  · rw [List.getElem?_set_ne e] at h
    exact Or.inr ⟨fun e' => e e'.symm, h⟩
theorem places_set (gs : List Grp) (at_ : Nat) (g g' : Grp) (hj : gs[at_]? = some g) (hr : g'.rest = g.rest) (x : ByteArray) (i : Int) (h : places gs x i) : places (gs.set at_ g') x i := by
  obtain ⟨j, y, h1, h2, h3⟩ := h
  by_cases e : at_ = j
  · subst e
    rw [hj] at h2
    cases h2
    exact ⟨at_, g', h1, by
      rw [List.getElem?_set_self (by
        rcases Nat.lt_or_ge at_ gs.length with hh | hh
        · exact hh
        · rw [List.getElem?_eq_none hh] at hj; cases hj)], by rw [hr]; exact h3⟩
  · exact ⟨j, y, h1, by rw [List.getElem?_set_ne e]; exact h2, h3⟩
theorem lt_of_at {α : Type} {gs : List α} {j : Nat} {g : α} (h : gs[j]? = some g) : j < gs.length := by
  rcases Nat.lt_or_ge j gs.length with hh | hh
  · exact hh
  · rw [List.getElem?_eq_none hh] at h; cases h

theorem MH.addRow {gB gcap at_ : Nat} {g : Grp} {t : Tr} {rv' : Value} (h : MH w0 w Gb s b n own ov (.slice (some ⟨gB, 0, none⟩) gs.length gcap) out gs) (hj : gs[at_]? = some g)
    (hown' : w1.ownsRow w0.heap.size 72 1 rv' (g.rows.length + 1) (g.rows.map (·.v) ++ [t.v])) (hg : w.grownBy w1 g.rv.ownBlock) (hat : rv'.ownBlock = g.rv.ownBlock ∨ rv'.ownBlock = some w.heap.size) :
    ∃ own', MH w0 (w1.setCell ⟨gB, at_ * 3, none⟩ rv') Gb s b n own' ov (.slice (some ⟨gB, 0, none⟩) gs.length gcap) out (gs.set at_ { g with rows := g.rows ++ [t], rv := rv' }) := by
  have hlt := lt_of_at hj
  have hgB := (h.row.lt gB rfl)
  obtain ⟨gcur, hgc⟩ := row_cells h.row (g := gB) rfl
  have hrow1 : w1.ownsRow w0.heap.size 215 3 (.slice (some ⟨gB, 0, none⟩) gs.length gcap) gs.length (grpCells gs) :=
    ownsRow_keeps h.row (keeps_grown hg) (fun k hv => rows_ne h.row (h.rows at_ g hj) (by decide) hv)
  obtain ⟨gcur1, hgc1⟩ := row_cells hrow1 (g := gB) rfl
  have hk := keeps_both (keeps_grown hg) (keeps_set w1 ⟨gB, at_ * 3, none⟩ rv')
  have ltb : ∀ {e size v m xs k}, w.ownsRow w0.heap.size e size v m xs → v.ownBlock = some k → k ≠ w.heap.size := fun hr hv => by have := (hr.lt _ hv).2; omega
  have hrne := h.rows at_ g hj
  refine ⟨fun k => if k = w.heap.size then at_ + 1 else own k, ?_, ?_, ?_, ?_, ?_, ?_, ?_, ?_, ?_, ?_, h.gge, h.sge, h.bge⟩
  · exact (h.gblk.grown hg (fun e => row_ne hrne h.gblk (by decide) e.symm rfl)).setOther (a := ⟨gB, at_ * 3, none⟩) (fun e => row_ne h.row h.gblk (by decide) rfl e.symm) _
  · rw [grpCells_rv gs at_ g rv' _ hj]
    simpa using row_set hrow1 (at_ * 3) rv' (by omega)
  · intro j x hx
    rcases set_case hx with ⟨rfl, rfl⟩ | ⟨hne, hx⟩
    · have := ownsRow_keeps hown' (keeps_set w1 ⟨gB, j * 3, none⟩ rv') (fun k hv => row_ne hown' hgc1 (by decide) hv)
      simpa using this
    · refine ownsRow_keeps (h.rows j x hx) hk (fun k hv => ⟨fun e => ?_, row_ne (h.rows j x hx) hgc (by decide) hv⟩)
      have e1 := h.rown j x hx k hv
      have e2 := h.rown at_ g hj k e.symm
      omega
  · intro j x hx k hv
    rcases set_case hx with ⟨rfl, rfl⟩ | ⟨hne, hx⟩
    · rcases hat with hat | hat
      · have hv' : g.rv.ownBlock = some k := by rw [← hat]; exact hv
        rw [if_neg (ltb hrne hv')]
        exact h.rown j g hj k hv'
      · have hv' : rv'.ownBlock = some k := hv
        rw [hat] at hv'; simp at hv'
        rw [if_pos hv'.symm]
    · rw [if_neg (ltb (h.rows j x hx) hv)]
      exact h.rown j x hx k hv
  · intro j x hx
    rcases set_case hx with ⟨rfl, rfl⟩ | ⟨hne, hx⟩
    · exact ownsRow_keeps (h.heads j g hj) hk (fun k hv => ⟨rows_ne (h.heads j g hj) hrne (by decide) hv, row_ne (h.heads j g hj) hgc (by decide) hv⟩)
    · exact ownsRow_keeps (h.heads j x hx) hk (fun k hv => ⟨rows_ne (h.heads j x hx) hrne (by decide) hv, row_ne (h.heads j x hx) hgc (by decide) hv⟩)
  · intro j x hx k hv
    rcases set_case hx with ⟨rfl, rfl⟩ | ⟨hne, hx⟩
    · rw [if_neg (ltb (h.heads j g hj) hv)]
      exact h.hown j g hj k hv
    · rw [if_neg (ltb (h.heads j x hx) hv)]
      exact h.hown j x hx k hv
  · refine ownsRow_keeps h.out hk (fun k hv => ⟨fun e => ?_, row_ne h.out hgc (by decide) hv⟩)
    have e1 := h.oown k hv
    have e2 := h.rown at_ g hj k e.symm
    omega
  · intro k hv
    rw [if_neg (ltb h.out hv)]
    exact h.oown k hv
  · have hs : StoreIs (w1.setCell ⟨gB, at_ * 3, none⟩ rv') s b n (places gs) :=
      h.store.keep (hk.2 s h.store.blk.lt ⟨fun e => row_ne hrne h.store.blk (by decide) e.symm rfl, fun e => row_ne h.row h.store.blk (by decide) rfl e.symm⟩)
        (hk.2 b h.store.map.lt ⟨fun e => row_ne_map hrne h.store.map e.symm rfl, fun e => row_ne_map h.row h.store.map rfl e.symm⟩)
    exact hs.mono (Nat.le_refl _) (places_set gs at_ g _ hj rfl)
  · exact (h.below.grown hg h.below.size (fun k hk => (hrne.lt k hk).1)).setCell hgB.1 _

theorem MH.addHead {gB gcap at_ : Nat} {g : Grp} {S : Nat → Bool} {f hv' : Value} (h : MH w0 w Gb s b n own ov (.slice (some ⟨gB, 0, none⟩) gs.length gcap) out gs) (hj : gs[at_]? = some g)
    (hown' : w1.ownsRow w0.heap.size 149 1 hv' (g.hvs.length + 1) (g.hvs ++ [f])) (hg : w.grownBy w1 g.hv.ownBlock) (hat : hv'.ownBlock = g.hv.ownBlock ∨ hv'.ownBlock = some w.heap.size) :
    ∃ own', MH w0 (w1.setCell ⟨gB, at_ * 3 + 1, none⟩ hv') Gb s b n own' ov (.slice (some ⟨gB, 0, none⟩) gs.length gcap) out (gs.set at_ { g with heads := g.heads ++ [S], hvs := g.hvs ++ [f], hv := hv' }) := by
  have hlt := lt_of_at hj
  have hgB := (h.row.lt gB rfl)
  obtain ⟨gcur, hgc⟩ := row_cells h.row (g := gB) rfl
  have hrow1 : w1.ownsRow w0.heap.size 215 3 (.slice (some ⟨gB, 0, none⟩) gs.length gcap) gs.length (grpCells gs) :=
    ownsRow_keeps h.row (keeps_grown hg) (fun k hv => rows_ne h.row (h.heads at_ g hj) (by decide) hv)
  obtain ⟨gcur1, hgc1⟩ := row_cells hrow1 (g := gB) rfl
  have hk := keeps_both (keeps_grown hg) (keeps_set w1 ⟨gB, at_ * 3 + 1, none⟩ hv')
  have ltb : ∀ {e size v m xs k}, w.ownsRow w0.heap.size e size v m xs → v.ownBlock = some k → k ≠ w.heap.size := fun hr hv => by have := (hr.lt _ hv).2; omega
  have hrne := h.heads at_ g hj
  refine ⟨fun k => if k = w.heap.size then at_ + 1 else own k, ?_, ?_, ?_, ?_, ?_, ?_, ?_, ?_, ?_, ?_, h.gge, h.sge, h.bge⟩
  · exact (h.gblk.grown hg (fun e => row_ne hrne h.gblk (by decide) e.symm rfl)).setOther (a := ⟨gB, at_ * 3 + 1, none⟩) (fun e => row_ne h.row h.gblk (by decide) rfl e.symm) _
  · rw [grpCells_hv gs at_ g hv' _ _ hj]
    simpa using row_set hrow1 (at_ * 3 + 1) hv' (by omega)
  · intro j x hx
    rcases set_case hx with ⟨rfl, rfl⟩ | ⟨hne, hx⟩
    · exact ownsRow_keeps (h.rows j g hj) hk (fun k hv => ⟨rows_ne (h.rows j g hj) hrne (by decide) hv, row_ne (h.rows j g hj) hgc (by decide) hv⟩)
    · exact ownsRow_keeps (h.rows j x hx) hk (fun k hv => ⟨rows_ne (h.rows j x hx) hrne (by decide) hv, row_ne (h.rows j x hx) hgc (by decide) hv⟩)
  · intro j x hx k hv
    rcases set_case hx with ⟨rfl, rfl⟩ | ⟨hne, hx⟩
    · rw [if_neg (ltb (h.rows j g hj) hv)]
      exact h.rown j g hj k hv
    · rw [if_neg (ltb (h.rows j x hx) hv)]
      exact h.rown j x hx k hv
  · intro j x hx
    rcases set_case hx with ⟨rfl, rfl⟩ | ⟨hne, hx⟩
    · have := ownsRow_keeps hown' (keeps_set w1 ⟨gB, j * 3 + 1, none⟩ hv') (fun k hv => row_ne hown' hgc1 (by decide) hv)
      simpa using this
    · refine ownsRow_keeps (h.heads j x hx) hk (fun k hv => ⟨fun e => ?_, row_ne (h.heads j x hx) hgc (by decide) hv⟩)
      have e1 := h.hown j x hx k hv
      have e2 := h.hown at_ g hj k e.symm
      omega
  · intro j x hx k hv
    rcases set_case hx with ⟨rfl, rfl⟩ | ⟨hne, hx⟩
    · rcases hat with hat | hat
      · have hv2 : g.hv.ownBlock = some k := by rw [← hat]; exact hv
        rw [if_neg (ltb hrne hv2)]
        exact h.hown j g hj k hv2
      · have hv2 : hv'.ownBlock = some k := hv
        rw [hat] at hv2; simp at hv2
        rw [if_pos hv2.symm]
    · rw [if_neg (ltb (h.heads j x hx) hv)]
      exact h.hown j x hx k hv
  · exact ownsRow_keeps h.out hk (fun k hv => ⟨rows_ne h.out hrne (by decide) hv, row_ne h.out hgc (by decide) hv⟩)
  · intro k hv
    rw [if_neg (ltb h.out hv)]
    exact h.oown k hv
  · have hs : StoreIs (w1.setCell ⟨gB, at_ * 3 + 1, none⟩ hv') s b n (places gs) :=
      h.store.keep (hk.2 s h.store.blk.lt ⟨fun e => row_ne hrne h.store.blk (by decide) e.symm rfl, fun e => row_ne h.row h.store.blk (by decide) rfl e.symm⟩)
        (hk.2 b h.store.map.lt ⟨fun e => row_ne_map hrne h.store.map e.symm rfl, fun e => row_ne_map h.row h.store.map rfl e.symm⟩)
    exact hs.mono (Nat.le_refl _) (places_set gs at_ g _ hj rfl)
  · exact (h.below.grown hg h.below.size (fun k hk => (hrne.lt k hk).1)).setCell hgB.1 _
end

theorem infoHeaded : (Tryz.prog.info? 215).map (fun i => (i.zero, i.size, i.bytes)) = some (some (.agg #[.slice none 0 0, .slice none 0 0, .nilIface]), 3, 64) := by kernel_rfl
theorem infoTree : (Tryz.prog.info? 72).map (fun i => (i.zero, i.size, i.bytes)) = some (some .nilIface, 1, 16) := by kernel_rfl
theorem infoSet : (Tryz.prog.info? 149).map (fun i => (i.zero, i.size, i.bytes)) = some (some .nilFunc, 1, 8) := by kernel_rfl
end Go.Proofs.YtkoaeojdlanolaaGreatDoor
/-
  tree.mergeHeads' function that makes a group.
-/
namespace Go.Proofs.YtkoaeojdlanolaaGreatDoor
open Go.RowKit

theorem enters_grp : Enters 128 := enters_of Tryz.func128 (by kernel_rfl) (by kernel_rfl)

set_option maxHeartbeats 2000000 in
set_option maxRecDepth 100000 in
theorem grp_call {w0 w : World} {Gb s b n : Nat} {own : Nat → Nat} {ov gv : Value} {out : List Tr} {gs : List Grp} (h : MH w0 w Gb s b n own ov gv out gs) (Rb : Nat) (rest : Tr) (T : TypeId) (p : Value) (hv : rest.v = .iface T p) (hR : w.cell? ⟨Rb, 0, none⟩ = some rest.v) (hlen : gs.length ≤ 1000000) :
    Calls Tryz.prog 128 #[.pointer (some ⟨Gb, 0, none⟩), .pointer (some ⟨Rb, 0, none⟩)] w fun e w' => e = .returned (.int .i64 gs.length) ∧ ∃ gv', MH w0 w' Gb s b n own ov gv' out (gs ++ [newGrp rest]) := by
  obtain ⟨i0, hi, hz0, hz1, hz2⟩ := info_parts infoHeaded
  have hc0 : w.cell? ⟨Gb, 0, none⟩ = some gv := h.gblk.cell 0
  have hgl := h.gblk.lt
  have hbs := h.below.size
  rw [hv] at hR
  obtain ⟨ga, gc, rfl⟩ : ∃ ga gc, gv = .slice ga gs.length gc := by
    rcases h.row.2 with ⟨rfl, h0⟩ | ⟨g, cap, cur, rfl, _⟩
    · exact ⟨none, 0, by rw [h0]⟩
    · exact ⟨_, _, rfl⟩
  have hb1 : Below w.heap.size w (w.alloc (.cells #[.slice none 0 0, .slice none 0 0, .iface T p] 215)) := (Below.refl _ _).alloc (Nat.le_refl _) _
  have h1 := h.keep hb1
  go_enter Tryz.func128, Tryz.ntmps128
  have hb2 : w0.heap.size ≤ (w.alloc (.cells #[.slice none 0 0, .slice none 0 0, .iface T p] 215)).heap.size := by simp; omega
  go_wp2_with (at_builtin; go_must (refine wpList_append_lies _ rfl (.tmp 3) (.tmp 6) 211 rfl w0.heap.size 215 i0 (.agg #[.slice none 0 0, .slice none 0 0, .nilIface]) 3 64 Tryz.underlying211 hi hz0 hz1 hz2 rfl (by decide) _ _ _ rfl h1.row ⟨w.heap.size, 0, none⟩ 1 1 [.slice none 0 0, .slice none 0 0, .iface T p] rfl rfl (World.news_of_block (Blk.new _ _ _)) (by intro u hu; simp at hu; rcases hu with rfl | rfl | rfl <;> rfl) (by decide) (by unfold maxLen; omega) (by omega) hb2 _ rfl ?_))
  intro g cap w2 hown' hgrow hat hlt
  rw [← hv] at hown'
  have hM := h1.newGroup hown' hgrow
  have hg2 : w2.cell? ⟨Gb, 0, none⟩ = some (.slice ga gs.length gc) := (h1.gblk.grown hgrow (fun e => row_ne h1.row h1.gblk (by decide) e.symm rfl)).cell 0
  have hf2 : w2.frozen? ⟨Gb, 0, none⟩ = false := (h1.gblk.grown hgrow (fun e => row_ne h1.row h1.gblk (by decide) e.symm rfl)).frozen 0
  clear hgrow hown' hat hlt h1 h hb1
  go_wp2_with fail
  go_ret
  refine ⟨?_, _, hM⟩
  congr 2
end Go.Proofs.YtkoaeojdlanolaaGreatDoor
/-
  GROUPS of rows (tree.mergeHeads): what they mean.
-/
namespace Go.Proofs.YtkoaeojdlanolaaGreatDoor
open Go.RowKit
open Munch (Words Wempty Wbytes Wcat Wany Wall Wnot KeyF Times numText)

structure GrpOk (w : World) (ok : Nat → Prop) (g : Grp) : Prop where
  len : g.heads.length = g.rows.length
  hlen : g.hvs.length = g.rows.length
  sets : ∀ (i : Nat) (S : Nat → Bool), g.heads[i]? = some S → ∃ x, g.hvs[i]? = some x ∧ SetOk w ok x S
  rest : TreeOk w ok g.rest
  same : ∀ (i : Nat) (t : Tr) (S : Nat → Bool), g.rows[i]? = some t → g.heads[i]? = some S → t.L = Wcat (Wbytes S) g.rest.L
  first : ∀ t, g.rows[0]? = some t → g.rest.n ≤ t.n
  full : g.rows ≠ []

structure MS (w : World) (ok : Nat → Prop) (ts : List Tr) (k : Nat) (out : List Tr) (gs : List Grp) : Prop where
  grp : ∀ (j : Nat) (g : Grp), gs[j]? = some g → GrpOk w ok g
  mem : ∀ t, (t ∈ out ∨ ∃ g ∈ gs, t ∈ g.rows) ↔ t ∈ ts.take k
  sum : (out.map (·.n)).sum + (gs.map fun g => (g.rows.map (·.n)).sum).sum = ((ts.take k).map (·.n)).sum
  len : out.length + gs.length ≤ k

theorem MS.start (w : World) (ok : Nat → Prop) (ts : List Tr) : MS w ok ts 0 [] [] := ⟨fun j g h => by simp at h, fun t => by simp, by simp, by simp⟩

theorem MS.addOut {w : World} {ok : Nat → Prop} {ts : List Tr} {k : Nat} {out : List Tr} {gs : List Grp} (h : MS w ok ts k out gs) (hk : k < ts.length) : MS w ok ts (k + 1) (out ++ [ts[k]]) gs := by
  refine ⟨h.grp, fun t => ?_, ?_, ?_⟩
  · have := h.mem t
    rw [List.take_succ_eq_append_getElem hk, List.mem_append, List.mem_append, ← this]
    simp only [List.mem_singleton]
    constructor
    · rintro ((h1 | h1) | h1)
      · exact Or.inl (Or.inl h1)
      · exact Or.inr h1
      · exact Or.inl (Or.inr h1)
    · rintro ((h1 | h1) | h1)
      · exact Or.inl (Or.inl h1)
      · exact Or.inr h1
      · exact Or.inl (Or.inr h1)
  · have := h.sum
    rw [List.take_succ_eq_append_getElem hk]
    simp only [List.map_append, List.sum_append, List.map_cons, List.map_nil, List.sum_cons, List.sum_nil]
    omega
  · have := h.len; simp; omega

theorem split_at_ {α : Type} {gs : List α} {j : Nat} {g : α} (h : gs[j]? = some g) : ∃ A B, gs = A ++ g :: B ∧ A.length = j := by
  have hlt := lt_of_at h
  refine ⟨gs.take j, gs.drop (j + 1), ?_, by simp; omega⟩
  have e : gs[j] = g := by rw [List.getElem?_eq_getElem hlt] at h; simpa using h
  rw [← e, ← List.drop_eq_getElem_cons hlt, List.take_append_drop]

theorem MS.addNew {w : World} {ok : Nat → Prop} {ts : List Tr} {k : Nat} {out : List Tr} {gs : List Grp} (h : MS w ok ts k out gs) (hk : k < ts.length) (S : Nat → Bool) (x : Value) (rest : Tr) (rv hv : Value) (hx : SetOk w ok x S) (hr : TreeOk w ok rest) (hL : ts[k].L = Wcat (Wbytes S) rest.L) (hn : rest.n ≤ ts[k].n) :
    MS w ok ts (k + 1) out (gs ++ [⟨[ts[k]], [S], [x], rest, rv, hv⟩]) := by
  refine ⟨fun j g hj => ?_, fun t => ?_, ?_, ?_⟩
  · rcases snoc_case hj with hj | ⟨_, rfl⟩
    · exact h.grp j g hj
    · refine ⟨rfl, rfl, fun i S' hi => ?_, hr, fun i t S' ht hS => ?_, fun t ht => ?_, by simp⟩
      · cases i with
        | zero => simp at hi; subst hi; exact ⟨x, rfl, hx⟩
        | succ i => simp at hi
      · cases i with
        | zero => simp at ht hS; subst hS; subst ht; exact hL
        | succ i => simp at ht
      · simp at ht; subst ht; exact hn
  · have := h.mem t
    rw [List.take_succ_eq_append_getElem hk, List.mem_append, ← this]
    simp only [List.mem_append, List.mem_singleton]
    constructor
    · rintro (h1 | ⟨g, (h1 | rfl), h2⟩)
      · exact Or.inl (Or.inl h1)
      · exact Or.inl (Or.inr ⟨g, h1, h2⟩)
      · exact Or.inr (by simpa using h2)
    · rintro ((h1 | ⟨g, h1, h2⟩) | h1)
      · exact Or.inl h1
      · exact Or.inr ⟨g, Or.inl h1, h2⟩
      · exact Or.inr ⟨_, Or.inr rfl, by simpa using h1⟩
  · have := h.sum
    rw [List.take_succ_eq_append_getElem hk]
    simp only [List.map_append, List.sum_append, List.map_cons, List.map_nil, List.sum_cons, List.sum_nil]
    omega
  · have := h.len; simp; omega

theorem MS.addOld {w : World} {ok : Nat → Prop} {ts : List Tr} {k : Nat} {out : List Tr} {gs : List Grp} (h : MS w ok ts k out gs) (hk : k < ts.length) (j : Nat) (g : Grp) (hj : gs[j]? = some g) (S : Nat → Bool) (x : Value) (rv hv : Value) (hx : SetOk w ok x S) (hL : ts[k].L = Wcat (Wbytes S) g.rest.L) :
    MS w ok ts (k + 1) out (gs.set j { g with rows := g.rows ++ [ts[k]], rv := rv, heads := g.heads ++ [S], hvs := g.hvs ++ [x], hv := hv }) := by
  have hg := h.grp j g hj
  refine ⟨fun j' g' hj' => ?_, fun t => ?_, ?_, ?_⟩
  · rcases set_case hj' with ⟨_, rfl⟩ | ⟨_, hj'⟩
    · refine ⟨by simp [hg.len], by simp [hg.hlen], fun i S' hi => ?_, hg.rest, fun i t S' ht hS => ?_, fun t ht => ?_, by simp⟩
      · rcases snoc_case hi with hi | ⟨rfl, rfl⟩
        · obtain ⟨y, hy, hs⟩ := hg.sets i S' hi
          exact ⟨y, by simp only; rw [List.getElem?_append_left (lt_of_at hy)]; exact hy, hs⟩
        · refine ⟨x, ?_, hx⟩
          simp only
          rw [hg.len, ← hg.hlen, List.getElem?_append_right (Nat.le_refl _)]; simp
      · rcases snoc_case hS with hS | ⟨rfl, rfl⟩
        · rcases snoc_case ht with ht | ⟨rfl, rfl⟩
          · exact hg.same i t S' ht hS
          · have := lt_of_at hS; rw [hg.len] at this; omega
        · rcases snoc_case ht with ht | ⟨_, rfl⟩
          · have := lt_of_at ht; rw [hg.len] at this; omega
          · exact hL
      · rcases snoc_case ht with ht | ⟨h0, _⟩
        · exact hg.first t ht
        · exact absurd (List.eq_nil_of_length_eq_zero h0.symm) hg.full
    · exact h.grp j' g' hj'
  · obtain ⟨A, B, hAB, hA⟩ := split_at_ hj
    have := h.mem t
    rw [List.take_succ_eq_append_getElem hk, List.mem_append, ← this]
    subst hAB
    rw [← hA, List.set_append_right _ _ (Nat.le_refl _)]
    simp only [Nat.sub_self, List.set_cons_zero, List.mem_append, List.mem_cons]
    constructor
    · rintro (h1 | ⟨g', (h1 | rfl | h1), h2⟩)
      · exact Or.inl (Or.inl h1)
      · exact Or.inl (Or.inr ⟨g', Or.inl h1, h2⟩)
      · rcases List.mem_append.1 h2 with h2 | h2
        · exact Or.inl (Or.inr ⟨g, Or.inr (Or.inl rfl), h2⟩)
        · exact Or.inr (by simpa using h2)
      · exact Or.inl (Or.inr ⟨g', Or.inr (Or.inr h1), h2⟩)
    · rintro ((h1 | ⟨g', (h1 | rfl | h1), h2⟩) | h1)
      · exact Or.inl h1
      · exact Or.inr ⟨g', Or.inl h1, h2⟩
      · exact Or.inr ⟨_, Or.inr (Or.inl rfl), by simp [h2]⟩
      · exact Or.inr ⟨g', Or.inr (Or.inr h1), h2⟩
      · exact Or.inr ⟨_, Or.inr (Or.inl rfl), by simp at h1; simp [h1]⟩
  · obtain ⟨A, B, hAB, hA⟩ := split_at_ hj
    have := h.sum
    rw [List.take_succ_eq_append_getElem hk]
    subst hAB
    rw [← hA, List.set_append_right _ _ (Nat.le_refl _)]
    simp only [Nat.sub_self, List.set_cons_zero, List.map_append, List.sum_append, List.map_cons, List.map_nil, List.sum_cons, List.sum_nil] at this ⊢
    omega
  · have := h.len; simp; omega

/-- The words of a group's rows. -/
theorem GrpOk.words {w : World} {ok : Nat → Prop} {g : Grp} (h : GrpOk w ok g) (u : List UInt8) : (∃ t ∈ g.rows, t.L u) ↔ Wcat (Wbytes (anyV g.heads)) g.rest.L u := by
  constructor
  · rintro ⟨t, ht, hu⟩
    obtain ⟨i, hi, rfl⟩ := List.getElem_of_mem ht
    have hh : i < g.heads.length := by rw [h.len]; exact hi
    rw [h.same i _ _ (List.getElem?_eq_getElem hi) (List.getElem?_eq_getElem hh)] at hu
    obtain ⟨x, y, rfl, ⟨c, rfl, hc⟩, hy⟩ := hu
    exact ⟨[c], y, rfl, ⟨c, rfl, by unfold anyV; rw [List.any_eq_true]; exact ⟨_, List.getElem_mem hh, hc⟩⟩, hy⟩
  · rintro ⟨x, y, rfl, ⟨c, rfl, hc⟩, hy⟩
    unfold anyV at hc
    rw [List.any_eq_true] at hc
    obtain ⟨S, hS, hc⟩ := hc
    obtain ⟨i, hi, rfl⟩ := List.getElem_of_mem hS
    have hh : i < g.rows.length := by rw [← h.len]; exact hi
    refine ⟨g.rows[i], List.getElem_mem hh, ?_⟩
    rw [h.same i _ _ (List.getElem?_eq_getElem hh) (List.getElem?_eq_getElem hi)]
    exact ⟨[c], y, rfl, ⟨c, rfl, hc⟩, hy⟩
/-- .. and their sizes, where there are two or more. -/
theorem GrpOk.bound {w : World} {ok : Nat → Prop} {g : Grp} (h : GrpOk w ok g) (hp : ∀ t ∈ g.rows, 1 ≤ t.n) (h1 : g.rows.length ≠ 1) : 1 + g.rest.n ≤ (g.rows.map (·.n)).sum := by
  cases hr : g.rows with
  | nil => exact absurd hr h.full
  | cons t r =>
    cases r with
    | nil => rw [hr] at h1; simp at h1
    | cons t2 r2 =>
      have := h.first t (by rw [hr]; rfl)
      have := hp t2 (by rw [hr]; simp)
      simp; omega
end Go.Proofs.YtkoaeojdlanolaaGreatDoor
/-
  tree.mergeHeads: what the second loop keeps.
-/
namespace Go.Proofs.YtkoaeojdlanolaaGreatDoor
open Go.RowKit
open Munch (Words Wempty Wbytes Wcat Wany Wall Wnot KeyF Times numText)

/-- A tree's blocks: not those of the slice that is being built. -/
def Apart (ok : Nat → Prop) (base : Nat) (ov : Value) : Nat → Prop := fun x => okN ok base x ∧ ov.ownBlock ≠ some x

theorem trees_snoc {w w1 : World} {ok : Nat → Prop} {base : Nat} {ov ov' : Value} {t : Tr} (ht : TreeOk w (Apart ok base ov) t) (hg : w.grownBy w1 ov.ownBlock) (hat : ov'.ownBlock = ov.ownBlock ∨ ov'.ownBlock = some w.heap.size) : TreeOk w1 (Apart ok base ov') t := by
  have h1 : TreeOk w (fun x => Apart ok base ov x ∧ Apart ok base ov' x) t := ht.mono (fun x hx h => ⟨h, h.1, by
    rcases hat with e | e
    · rw [e]; exact h.2
    · rw [e]; intro he; simp at he; omega⟩)
  have h2 : TreeOk w1 (fun x => Apart ok base ov x ∧ Apart ok base ov' x) t := h1.keep ⟨hg.size, fun x hx h => hg.block x hx (fun e => h.1.2 e.symm)⟩
  exact h2.mono (fun x _ h => h.2)

/-- The second loop. -/
structure M2 (w : World) (ok : Nat → Prop) (wq : World) (s b n : Nat) (own : Nat → Nat) (ov gv : Value) (out : List Tr) (gs : List Grp) (m : Nat) (us : List Tr) : Prop where
  mem : MH w wq w.heap.size s b n own ov gv us gs
  trees : ∀ t ∈ us, TreeOk wq (Apart ok w.heap.size ov) t
  words : ∀ u, (∃ t ∈ us, t.L u) ↔ (∃ t ∈ out, t.L u) ∨ ∃ g ∈ gs.take m, ∃ t ∈ g.rows, t.L u
  sum : (us.map (·.n)).sum ≤ (out.map (·.n)).sum + ((gs.take m).map fun g => (g.rows.map (·.n)).sum).sum
  len : us.length ≤ out.length + m

theorem M2.snoc {w : World} {ok : Nat → Prop} {wq w1 w2 : World} {s b n : Nat} {own : Nat → Nat} {ov ov' gv : Value} {out : List Tr} {gs : List Grp} {m : Nat} {us : List Tr} (h : M2 w ok wq s b n own ov gv out gs m us) (hm : m < gs.length) (q : Tr)
    (hb : Below wq.heap.size wq w1) (hq : TreeOk w1 (Apart ok w.heap.size ov) q) (hL : ∀ u, q.L u ↔ ∃ t ∈ gs[m].rows, t.L u) (hn : q.n ≤ (gs[m].rows.map (·.n)).sum)
    (hown' : w2.ownsRow w.heap.size 72 1 ov' (us.length + 1) (us.map (·.v) ++ [q.v])) (hg : w1.grownBy w2 ov.ownBlock) (hat : ov'.ownBlock = ov.ownBlock ∨ ov'.ownBlock = some w1.heap.size) :
    ∃ own', M2 w ok w2 s b n own' ov' gv out gs (m + 1) (us ++ [q]) := by
  have hM1 := h.mem.keep hb
  obtain ⟨own', hM2⟩ := hM1.outSnoc (t := q) hown' hg hat
  refine ⟨own', hM2, fun t ht => ?_, fun u => ?_, ?_, ?_⟩
  · rcases List.mem_append.1 ht with ht | ht
    · exact trees_snoc ((h.trees t ht).keep (keeps_below hb)) hg hat
    · simp at ht; subst ht; exact trees_snoc hq hg hat
  · have := h.words u
    rw [List.take_succ_eq_append_getElem hm]
    constructor
    · rintro ⟨t, ht, hu⟩
      rcases List.mem_append.1 ht with ht | ht
      · rcases this.1 ⟨t, ht, hu⟩ with h1 | ⟨g, hg, h2⟩
        · exact Or.inl h1
        · exact Or.inr ⟨g, List.mem_append.2 (Or.inl hg), h2⟩
      · simp at ht; subst ht
        exact Or.inr ⟨gs[m], List.mem_append.2 (Or.inr (List.mem_singleton.2 rfl)), (hL u).1 hu⟩
    · rintro (h1 | ⟨g, hg, h2⟩)
      · obtain ⟨t, ht, hu⟩ := this.2 (Or.inl h1)
        exact ⟨t, by simp [ht], hu⟩
      · rcases List.mem_append.1 hg with hg | hg
        · obtain ⟨t, ht, hu⟩ := this.2 (Or.inr ⟨g, hg, h2⟩)
          exact ⟨t, by simp [ht], hu⟩
        · simp at hg; subst hg
          exact ⟨q, by simp, (hL u).2 h2⟩
  · have := h.sum
    rw [List.take_succ_eq_append_getElem hm]
    simp only [List.map_append, List.sum_append, List.map_cons, List.map_nil, List.sum_cons, List.sum_nil]
    omega
  · have := h.len; simp; omega

end Go.Proofs.YtkoaeojdlanolaaGreatDoor
