import Derived.WalkKit
import Derived.Deep.Draws
import Derived.ArgAppend
/-
  SMALL LAWS on blocks of the heap, none of the dump: what a block of cells holds behind stores, new blocks, draws, calls that leave what is below a number as it was.
-/
namespace Go
open Go.RowKit

theorem size_setCell (w : World) (a : Addr) (v : Value) : (w.setCell a v).heap.size = w.heap.size := by simp [World.setCell]

/-- Block b holds these cells, none frozen. -/
def Blk (w : World) (b : Nat) (t : TypeId) (c : Array Value) : Prop := w.heap[b]? = some (.cells c t (0, 0))

namespace Blk
variable {w w' : World} {b : Nat} {t : TypeId} {c : Array Value}
theorem lt (h : Blk w b t c) : b < w.heap.size := lt_of_block h
theorem cell (h : Blk w b t c) (i : Nat) : w.cell? ⟨b, i, none⟩ = c[i]? := by unfold Blk at h; simp [World.cell?, h]
theorem frozen (h : Blk w b t c) (i : Nat) : w.frozen? ⟨b, i, none⟩ = false := by unfold Blk at h; simp [World.frozen?, h]
theorem new (w : World) (c : Array Value) (t : TypeId) : Blk (w.alloc (.cells c t)) w.heap.size t c := heap_alloc_new w _
theorem alloc (h : Blk w b t c) (o : Obj) : Blk (w.alloc o) b t c := (Below.heap_alloc w o b h.lt).trans h
theorem drew (h : Blk w b t c) : Blk w.drew b t c := h
theorem drewN (h : Blk w b t c) (n : Nat) : Blk (w.drewN n) b t c := h
theorem below {B : Nat} (h : Blk w b t c) (hb : Below B w w') (hB : b < B) : Blk w' b t c := (hb.block b hB).trans h
theorem set (h : Blk w b t c) (i : Nat) (v : Value) : Blk (w.setCell ⟨b, i, none⟩ v) b t (c.setIfInBounds i v) := by
  have hlt := h.lt
  have h' : w.heap[b] = .cells c t (0, 0) := by unfold Blk at h; simpa [Array.getElem?_eq_getElem hlt] using h
  show (w.heap.modify b _)[b]? = _
  rw [Array.getElem?_eq_getElem (by simpa using hlt), Array.getElem_modify_self, h']
  rfl
theorem setOther (h : Blk w b t c) {a : Addr} (ha : b ≠ a.block) (v : Value) : Blk (w.setCell a v) b t c := (Below.heap_setCell w a v b ha).trans h
theorem grown {row : Option Nat} (h : Blk w b t c) (hg : w.grownBy w' row) (hne : some b ≠ row) : Blk w' b t c := (hg.block b h.lt hne).trans h
end Blk

/-- Five cells of one block stored, one behind the other. -/
def put5 (w : World) (b : Nat) (a0 a1 a2 a3 a4 : Value) : World := ((((w.setCell ⟨b, 0, none⟩ a0).setCell ⟨b, 1, none⟩ a1).setCell ⟨b, 2, none⟩ a2).setCell ⟨b, 3, none⟩ a3).setCell ⟨b, 4, none⟩ a4
theorem Blk.put5 {w : World} {b : Nat} {t : TypeId} {x0 x1 x2 x3 x4 : Value} (h : Blk w b t #[x0, x1, x2, x3, x4]) (a0 a1 a2 a3 a4 : Value) : Blk (put5 w b a0 a1 a2 a3 a4) b t #[a0, a1, a2, a3, a4] := by
  have := ((((h.set 0 a0).set 1 a1).set 2 a2).set 3 a3).set 4 a4
  simpa [Go.put5] using this
theorem Blk.put5_cells {w : World} {b : Nat} {t : TypeId} {x0 x1 x2 x3 x4 : Value} (h : Blk w b t #[x0, x1, x2, x3, x4]) (a0 a1 a2 a3 a4 : Value) :
    (w.setCell ⟨b, 0, none⟩ a0).cell? ⟨b, 0, none⟩ = some a0 ∧ ((w.setCell ⟨b, 0, none⟩ a0).setCell ⟨b, 1, none⟩ a1).cell? ⟨b, 1, none⟩ = some a1 ∧
    (((w.setCell ⟨b, 0, none⟩ a0).setCell ⟨b, 1, none⟩ a1).setCell ⟨b, 2, none⟩ a2).cell? ⟨b, 2, none⟩ = some a2 ∧
    ((((w.setCell ⟨b, 0, none⟩ a0).setCell ⟨b, 1, none⟩ a1).setCell ⟨b, 2, none⟩ a2).setCell ⟨b, 3, none⟩ a3).cell? ⟨b, 3, none⟩ = some a3 ∧
    (((((w.setCell ⟨b, 0, none⟩ a0).setCell ⟨b, 1, none⟩ a1).setCell ⟨b, 2, none⟩ a2).setCell ⟨b, 3, none⟩ a3).setCell ⟨b, 4, none⟩ a4).cell? ⟨b, 4, none⟩ = some a4 := by
  refine ⟨?_, ?_, ?_, ?_, ?_⟩
  · have := (h.set 0 a0).cell 0; simpa using this
  · have := ((h.set 0 a0).set 1 a1).cell 1; simpa using this
  · have := (((h.set 0 a0).set 1 a1).set 2 a2).cell 2; simpa using this
  · have := ((((h.set 0 a0).set 1 a1).set 2 a2).set 3 a3).cell 3; simpa using this
  · have := (((((h.set 0 a0).set 1 a1).set 2 a2).set 3 a3).set 4 a4).cell 4; simpa using this
theorem Blk.cells5 {w : World} {b : Nat} {t : TypeId} {x0 x1 x2 x3 x4 : Value} (h : Blk w b t #[x0, x1, x2, x3, x4]) :
    w.cell? ⟨b, 0, none⟩ = some x0 ∧ w.cell? ⟨b, 1, none⟩ = some x1 ∧ w.cell? ⟨b, 2, none⟩ = some x2 ∧ w.cell? ⟨b, 3, none⟩ = some x3 ∧ w.cell? ⟨b, 4, none⟩ = some x4 := by
  refine ⟨?_, ?_, ?_, ?_, ?_⟩
  · have := h.cell 0; simpa using this
  · have := h.cell 1; simpa using this
  · have := h.cell 2; simpa using this
  · have := h.cell 3; simpa using this
  · have := h.cell 4; simpa using this
theorem below_put5 {B : Nat} {a w : World} (h : Below B a w) {b : Nat} (hb : B ≤ b) (a0 a1 a2 a3 a4 : Value) : Below B a (Go.put5 w b a0 a1 a2 a3 a4) :=
  ((((h.setCell (p := ⟨b, 0, none⟩) hb a0).setCell (p := ⟨b, 1, none⟩) hb a1).setCell (p := ⟨b, 2, none⟩) hb a2).setCell (p := ⟨b, 3, none⟩) hb a3).setCell (p := ⟨b, 4, none⟩) hb a4
theorem put5_other {w : World} {b : Nat} (a0 a1 a2 a3 a4 : Value) (k : Nat) (hk : k ≠ b) : (put5 w b a0 a1 a2 a3 a4).heap[k]? = w.heap[k]? := by
  unfold put5
  rw [Below.heap_setCell _ _ _ _ hk, Below.heap_setCell _ _ _ _ hk, Below.heap_setCell _ _ _ _ hk, Below.heap_setCell _ _ _ _ hk, Below.heap_setCell _ _ _ _ hk]
theorem put5_size (w : World) (b : Nat) (a0 a1 a2 a3 a4 : Value) : (put5 w b a0 a1 a2 a3 a4).heap.size = w.heap.size := by
  unfold put5; simp
theorem ownsRow_base {w : World} {base base' : Nat} {e : TypeId} {size : Nat} {v : Value} {n : Nat} {xs : List Value} (h : w.ownsRow base e size v n xs) (hb : base' ≤ base) : w.ownsRow base' e size v n xs := by
  obtain ⟨h1, h2⟩ := h
  refine ⟨h1, ?_⟩
  rcases h2 with h2 | ⟨g, cap, cur, hv, hg, r⟩
  · exact Or.inl h2
  · exact Or.inr ⟨g, cap, cur, hv, by omega, r⟩
theorem size_alloc (w : World) (o : Obj) : (w.alloc o).heap.size = w.heap.size + 1 := by simp
end Go
/-
  A ROW OF THE CALL's OWN AMONG OTHERS: behind an append the row lies where it lay, or in a new block. None of the dump.
-/
namespace Go
open Go.RowKit

/-- The slice v holds these cells, its block (if it has one) is a good one. -/
structure RowAt (w : World) (ok : Nat → Prop) (e : TypeId) (size : Nat) (v : Value) (n : Nat) (xs : List Value) : Prop where
  own : w.ownsRow 0 e size v n xs
  blk : ∀ g, v.ownBlock = some g → ok g

theorem RowAt.nil (w : World) (ok : Nat → Prop) (e : TypeId) (size : Nat) : RowAt w ok e size (.slice none 0 0) 0 [] := ⟨World.ownsRow_nil _ _ _ _, fun g h => by simp [Value.ownBlock] at h⟩
theorem RowAt.lt {w : World} {ok : Nat → Prop} {e : TypeId} {size : Nat} {v : Value} {n : Nat} {xs : List Value} (h : RowAt w ok e size v n xs) (g : Nat) (hg : v.ownBlock = some g) : g < w.heap.size := (h.own.lt g hg).2
theorem RowAt.mono {w : World} {ok ok' : Nat → Prop} {e : TypeId} {size : Nat} {v : Value} {n : Nat} {xs : List Value} (h : RowAt w ok e size v n xs) (hok : ∀ b, b < w.heap.size → ok b → ok' b) : RowAt w ok' e size v n xs :=
  ⟨h.own, fun g hg => hok g (h.lt g hg) (h.blk g hg)⟩
/-- What is in other blocks does not matter. -/
theorem RowAt.keep {w w' : World} {ok : Nat → Prop} {e : TypeId} {size : Nat} {v : Value} {n : Nat} {xs : List Value} (h : RowAt w ok e size v n xs) (hk : ∀ b, b < w.heap.size → ok b → w'.heap[b]? = w.heap[b]?) : RowAt w' ok e size v n xs := by
  refine ⟨⟨h.own.1, ?_⟩, h.blk⟩
  rcases h.own.2 with h2 | ⟨g, cap, cur, hv, hg, hh, r⟩
  · exact Or.inl h2
  · exact Or.inr ⟨g, cap, cur, hv, hg, by rw [hk g (lt_of_block hh) (h.blk g (by rw [hv]; rfl))]; exact hh, r⟩
theorem RowAt.shape {w : World} {ok : Nat → Prop} {e : TypeId} {size : Nat} {v : Value} {n : Nat} {xs : List Value} (h : RowAt w ok e size v n xs) : ∃ ao cap, v = .slice ao n cap := by
  rcases h.own.2 with ⟨hv, hn⟩ | ⟨g, cap, cur, hv, _⟩
  · exact ⟨none, 0, by rw [hv, hn]⟩
  · exact ⟨_, _, hv⟩

/-- What an append leaves: the row with the new cells; only its own block has turned; it lies where it lay, or in a new block. -/
structure Appended (w w' : World) (e : TypeId) (size : Nat) (v v' : Value) (n : Nat) (xs : List Value) : Prop where
  own : w'.ownsRow 0 e size v' n xs
  grown : w.grownBy w' v.ownBlock
  place : v'.ownBlock = v.ownBlock ∨ ∀ g, v'.ownBlock = some g → w.heap.size ≤ g

theorem wpList_append_sep {P : Program} (w : World) {ops : Array Oper} {rest : List Oper} {o : Oper} {a : Act} {Q : Exit → Act → World → Prop}
    (hg : o.guard = none) (s x : Operand) (t : TypeId) (hop : o.op = Op.call { callee := Callee.builtin Builtin.append, args := #[s, x], argTypes := #[t, t] })
    (e : TypeId) (i : TypeInfo) (z : Value) (size bytes : Nat) (h1 : P.underlying t = some (.slice e)) (h2 : P.info? e = some i) (h3 : i.zero = some z) (h4 : i.size = size) (h5 : i.bytes = bytes) (h6 : z.cells.size = size) (h7 : 0 < size)
    (v : Value) (n : Nat) (xs : List Value) (hs : a.eval s = v) (hown : w.ownsRow 0 e size v n xs)
    (ad : Addr) (m c : Nat) (news : List Value) (hx : a.eval x = .slice (some ad) m c) (hn : news.length = m * size) (hc : ∀ j u, news[j]? = some u → w.cell? (ad.add j) = some u) (h1c : ∀ u ∈ news, u.oneCell' = true)
    (b1 : n + m ≤ maxLen) (b2 : (n + m) * bytes ≤ 140737488355328)
    (hK : ∀ v' w', Appended w w' e size v v' (n + m) (xs ++ news) → wpList P ops Q rest (a.put o.dst v') w') :
    wpList P ops Q (o :: rest) a w := by
  have hbase : ∀ {w' : World} {v' : Value}, w'.ownsRow w.heap.size e size v' (n + m) (xs ++ news) → w'.ownsRow 0 e size v' (n + m) (xs ++ news) := by
    intro w' v' h
    obtain ⟨ha, hb⟩ := h
    refine ⟨ha, ?_⟩
    rcases hb with hb | ⟨g, cap, cur, hv, _, r⟩
    · exact Or.inl hb
    · exact Or.inr ⟨g, cap, cur, hv, Nat.zero_le _, r⟩
  have hgr : ∀ {w' : World}, w.grownBy w' none → w.grownBy w' v.ownBlock := fun h => ⟨h.os, h.tape, h.output, h.size, fun k hk _ => h.block k hk (by simp)⟩
  rcases hown.2 with ⟨rfl, rfl⟩ | ⟨g, cap, cur, rfl, hr⟩
  · by_cases hm : 0 < m
    · have hx0 : xs = [] := List.eq_nil_of_length_eq_zero (by simpa using hown.1)
      refine wpList_append_grows w hg s x t hop e i z size bytes h1 h2 h3 h4 h5 h6 h7 none 0 0 xs hs (fun _ => ⟨rfl, rfl⟩) hown.1 (fun b hb => by cases hb) ad m c news hx hn hc h1c (by omega) b1 b2 ?_
      intro v' w' ho hgw
      exact hK v' w' ⟨hbase ho, hgr hgw, Or.inr fun g hg => (ho.lt g hg).1⟩
    · obtain rfl : m = 0 := by omega
      refine wpList_append_own w hg s x t hop 0 e i z size bytes h1 h2 h3 h4 h5 h6 h7 _ 0 xs hs hown ad 0 c news hx hn hc h1c b1 b2 (Nat.zero_le _) ?_
      intro v' w' ho hgw hiff
      have : v' = .slice none 0 0 := hiff.2 ⟨rfl, rfl⟩
      subst this
      exact hK _ w' ⟨ho, hgw, Or.inl rfl⟩
  · by_cases hroom : n + m ≤ cap
    · refine wpList_append_fits w hg s x t hop 0 e i size h1 h2 h4 g n cap xs hs hown ad m c news hx hn hc h1c hroom ?_
      intro w' ho hgw
      exact hK _ w' ⟨ho, hgw, Or.inl rfl⟩
    · refine wpList_append_grows w hg s x t hop e i z size bytes h1 h2 h3 h4 h5 h6 h7 (some ⟨g, 0, none⟩) n cap xs hs (fun h => by cases h) hown.1 (fun b hb => by cases hb; exact hown.cells rfl) ad m c news hx hn hc h1c (by omega) b1 b2 ?_
      intro v' w' ho hgw
      exact hK v' w' ⟨hbase ho, hgr hgw, Or.inr fun g hg => (ho.lt g hg).1⟩

/-- Behind an append: the row at its place, under a wider or changed sense of a good block. -/
theorem Appended.row {w w' : World} {ok : Nat → Prop} {e : TypeId} {size : Nat} {v v' : Value} {n n0 : Nat} {xs xs0 : List Value} (h : Appended w w' e size v v' n xs) (h0 : RowAt w ok e size v n0 xs0) (hnew : ∀ g, w.heap.size ≤ g → ok g) : RowAt w' ok e size v' n xs := by
  refine ⟨h.own, fun g hg => ?_⟩
  rcases h.place with hp | hp
  · exact h0.blk g (by rw [← hp]; exact hg)
  · exact hnew g (hp g hg)
end Go
