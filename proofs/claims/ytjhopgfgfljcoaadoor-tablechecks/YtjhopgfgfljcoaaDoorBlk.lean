/-
  SMALL LAWS on blocks of the heap, none of the dump: what a block of cells holds behind stores, new blocks, draws, calls that leave what is below a number as it was.
-/
import Derived.WalkKit
import Derived.Deep.Draws
namespace Go
open Go.RowKit

theorem size_setCell (w : World) (a : Addr) (v : Value) : (w.setCell a v).heap.size = w.heap.size := by simp [World.setCell]

/-- Block b holds these cells, none frozen. -/
def Blk (w : World) (b : Nat) (t : TypeId) (c : Array Value) : Prop := w.heap[b]? = some (.cells c t (0, 0))

namespace Blk
variable {w w' : World} {b : Nat} {t : TypeId} {c : Array Value}
theorem lt (h : Blk w b t c) : b < w.heap.size := lt_of_block h
theorem cell (h : Blk w b t c) (i : Nat) : w.cell? ⟨b, i, none⟩ = c[i]? := by unfold Blk at h; simp [World.cell?, h]
theorem frozen (h : Blk w b t c) (i : Nat) : w.frozen? ⟨b, i, none⟩ = false := by unfold Blk at h; simp [World.frozen?, h]
theorem new (w : World) (c : Array Value) (t : TypeId) : Blk (w.alloc (.cells c t)) w.heap.size t c := heap_alloc_new w _
theorem alloc (h : Blk w b t c) (o : Obj) : Blk (w.alloc o) b t c := (Below.heap_alloc w o b h.lt).trans h
theorem drew (h : Blk w b t c) : Blk w.drew b t c := h
theorem drewN (h : Blk w b t c) (n : Nat) : Blk (w.drewN n) b t c := h
theorem below {B : Nat} (h : Blk w b t c) (hb : Below B w w') (hB : b < B) : Blk w' b t c := (hb.block b hB).trans h
theorem set (h : Blk w b t c) (i : Nat) (v : Value) : Blk (w.setCell ⟨b, i, none⟩ v) b t (c.setIfInBounds i v) := by
  have hlt := h.lt
  have h' : w.heap[b] = .cells c t (0, 0) := by unfold Blk at h; simpa [Array.getElem?_eq_getElem hlt] using h
  show (w.heap.modify b _)[b]? = _
  rw [Array.getElem?_eq_getElem (by simpa using hlt), Array.getElem_modify_self, h']
  rfl
theorem setOther (h : Blk w b t c) {a : Addr} (ha : b ≠ a.block) (v : Value) : Blk (w.setCell a v) b t c := (Below.heap_setCell w a v b ha).trans h
theorem grown {row : Option Nat} (h : Blk w b t c) (hg : w.grownBy w' row) (hne : some b ≠ row) : Blk w' b t c := (hg.block b h.lt hne).trans h
end Blk

/-- Five cells of one block stored, one behind the other. -/
def put5 (w : World) (b : Nat) (a0 a1 a2 a3 a4 : Value) : World := ((((w.setCell ⟨b, 0, none⟩ a0).setCell ⟨b, 1, none⟩ a1).setCell ⟨b, 2, none⟩ a2).setCell ⟨b, 3, none⟩ a3).setCell ⟨b, 4, none⟩ a4
theorem Blk.put5 {w : World} {b : Nat} {t : TypeId} {x0 x1 x2 x3 x4 : Value} (h : Blk w b t #[x0, x1, x2, x3, x4]) (a0 a1 a2 a3 a4 : Value) : Blk (put5 w b a0 a1 a2 a3 a4) b t #[a0, a1, a2, a3, a4] := by
  have := ((((h.set 0 a0).set 1 a1).set 2 a2).set 3 a3).set 4 a4
  simpa [Go.put5] using this
theorem Blk.put5_cells {w : World} {b : Nat} {t : TypeId} {x0 x1 x2 x3 x4 : Value} (h : Blk w b t #[x0, x1, x2, x3, x4]) (a0 a1 a2 a3 a4 : Value) :
    (w.setCell ⟨b, 0, none⟩ a0).cell? ⟨b, 0, none⟩ = some a0 ∧ ((w.setCell ⟨b, 0, none⟩ a0).setCell ⟨b, 1, none⟩ a1).cell? ⟨b, 1, none⟩ = some a1 ∧
    (((w.setCell ⟨b, 0, none⟩ a0).setCell ⟨b, 1, none⟩ a1).setCell ⟨b, 2, none⟩ a2).cell? ⟨b, 2, none⟩ = some a2 ∧
    ((((w.setCell ⟨b, 0, none⟩ a0).setCell ⟨b, 1, none⟩ a1).setCell ⟨b, 2, none⟩ a2).setCell ⟨b, 3, none⟩ a3).cell? ⟨b, 3, none⟩ = some a3 ∧
    (((((w.setCell ⟨b, 0, none⟩ a0).setCell ⟨b, 1, none⟩ a1).setCell ⟨b, 2, none⟩ a2).setCell ⟨b, 3, none⟩ a3).setCell ⟨b, 4, none⟩ a4).cell? ⟨b, 4, none⟩ = some a4 := by
  refine ⟨?_, ?_, ?_, ?_, ?_⟩
  · have := (h.set 0 a0).cell 0; simpa using this
  · have := ((h.set 0 a0).set 1 a1).cell 1; simpa using this
  · have := (((h.set 0 a0).set 1 a1).set 2 a2).cell 2; simpa using this
  · have := ((((h.set 0 a0).set 1 a1).set 2 a2).set 3 a3).cell 3; simpa using this
  · have := (((((h.set 0 a0).set 1 a1).set 2 a2).set 3 a3).set 4 a4).cell 4; simpa using this
theorem Blk.cells5 {w : World} {b : Nat} {t : TypeId} {x0 x1 x2 x3 x4 : Value} (h : Blk w b t #[x0, x1, x2, x3, x4]) :
    w.cell? ⟨b, 0, none⟩ = some x0 ∧ w.cell? ⟨b, 1, none⟩ = some x1 ∧ w.cell? ⟨b, 2, none⟩ = some x2 ∧ w.cell? ⟨b, 3, none⟩ = some x3 ∧ w.cell? ⟨b, 4, none⟩ = some x4 := by
  refine ⟨?_, ?_, ?_, ?_, ?_⟩
  · have := h.cell 0; simpa using this
  · have := h.cell 1; simpa using this
  · have := h.cell 2; simpa using this
  · have := h.cell 3; simpa using this
  · have := h.cell 4; simpa using this
theorem below_put5 {B : Nat} {a w : World} (h : Below B a w) {b : Nat} (hb : B ≤ b) (a0 a1 a2 a3 a4 : Value) : Below B a (Go.put5 w b a0 a1 a2 a3 a4) :=
  ((((h.setCell (p := ⟨b, 0, none⟩) hb a0).setCell (p := ⟨b, 1, none⟩) hb a1).setCell (p := ⟨b, 2, none⟩) hb a2).setCell (p := ⟨b, 3, none⟩) hb a3).setCell (p := ⟨b, 4, none⟩) hb a4
theorem put5_other {w : World} {b : Nat} (a0 a1 a2 a3 a4 : Value) (k : Nat) (hk : k ≠ b) : (put5 w b a0 a1 a2 a3 a4).heap[k]? = w.heap[k]? := by
  unfold put5
  rw [Below.heap_setCell _ _ _ _ hk, Below.heap_setCell _ _ _ _ hk, Below.heap_setCell _ _ _ _ hk, Below.heap_setCell _ _ _ _ hk, Below.heap_setCell _ _ _ _ hk]
theorem put5_size (w : World) (b : Nat) (a0 a1 a2 a3 a4 : Value) : (put5 w b a0 a1 a2 a3 a4).heap.size = w.heap.size := by
  unfold put5; simp
theorem ownsRow_base {w : World} {base base' : Nat} {e : TypeId} {size : Nat} {v : Value} {n : Nat} {xs : List Value} (h : w.ownsRow base e size v n xs) (hb : base' ≤ base) : w.ownsRow base' e size v n xs := by
  obtain ⟨h1, h2⟩ := h
  refine ⟨h1, ?_⟩
  rcases h2 with h2 | ⟨g, cap, cur, hv, hg, r⟩
  · exact Or.inl h2
  · exact Or.inr ⟨g, cap, cur, hv, by omega, r⟩
theorem size_alloc (w : World) (o : Obj) : (w.alloc o).heap.size = w.heap.size + 1 := by simp
end Go
