import Derived.Test.YtkoaeojdlanolaaGreatDoorCb01
import Derived.Test.YtkoaeojdlanolaaGreatDoorCa01
import Derived.Test.YtkoaeojdlanolaaGreatDoorCa02
import Derived.Deep.LoopGhost
/-
  THE PARTS OF A PATTERN IN MEMORY (munchref.Node: Kind, Set, Subs, Lo, Hi).
-/
namespace Go.Proofs.YtkoaeojdlanolaaGreatDoor
open Go.RowKit

def boolArr (f : Nat → Bool) : Array Value := Array.ofFn (n := 256) fun c => .bool (f c.val)
theorem boolArr_size (f : Nat → Bool) : (boolArr f).size = 256 := by simp [boolArr]
theorem boolArr_at (f : Nat → Bool) (c : Nat) (h : c < 256) : (boolArr f)[c]? = some (.bool (f c)) := by simp [boolArr, h]
theorem boolArr_set (f : Nat → Bool) (c : Nat) (b : Bool) : (boolArr f).setIfInBounds c (.bool b) = boolArr (fun x => if x = c then b else f x) := by
  apply Array.ext
  · simp [boolArr_size]
  · intro i h1 h2
    have hi : i < 256 := by simpa [boolArr_size] using h1
    rw [Array.getElem_setIfInBounds]
    · by_cases h : c = i
      · subst h; simp [boolArr]
      · rw [if_neg h]; simp [boolArr, Ne.symm h]
    · simpa [boolArr_size] using hi
theorem boolArr_congr {f g : Nat → Bool} (h : ∀ c, c < 256 → f c = g c) : boolArr f = boolArr g := by
  apply Array.ext
  · simp [boolArr_size]
  · intro i h1 h2
    have hi : i < 256 := by simpa [boolArr_size] using h1
    simp [boolArr, h i hi]

/-- Is the byte in? -/
def inSpans (sp : List (Nat × Nat)) (c : Nat) : Bool := sp.any fun x => decide (x.1 ≤ c) && decide (c ≤ x.2)
def memV (no : Bool) (sp : List (Nat × Nat)) (c : Nat) : Bool := inSpans sp c != no

/-- A node in memory, so deep at most. -/
def NodeF (w : World) (ok : Nat → Prop) : Nat → Munch.Node → List Value → Prop
  | 0, _, _ => False
  | d + 1, n, c =>
    (∃ (no : Bool) (sp : List (Nat × Nat)) (g : Nat), n = .set no sp ∧ ok g ∧ Blk w g 4 (boolArr (memV no sp)) ∧ c = [.int .i64 1, .slice (some ⟨g, 0, none⟩) 256 256, .slice none 0 0, .int .i64 0, .int .i64 0]) ∨
    (∃ (l : List Munch.Node) (v : Value) (cs : List (List Value)), n = .row l ∧ cs.length = l.length ∧ RowAt w ok 57 5 v l.length cs.flatten ∧ (∀ (i : Nat) m x, l[i]? = some m → cs[i]? = some x → NodeF w ok d m x) ∧ c = [.int .i64 2, .slice none 0 0, v, .int .i64 0, .int .i64 0]) ∨
    (∃ (l : List Munch.Node) (v : Value) (cs : List (List Value)), n = .form l ∧ cs.length = l.length ∧ RowAt w ok 57 5 v l.length cs.flatten ∧ (∀ (i : Nat) m x, l[i]? = some m → cs[i]? = some x → NodeF w ok d m x) ∧ c = [.int .i64 3, .slice none 0 0, v, .int .i64 0, .int .i64 0]) ∨
    (∃ (m : Munch.Node) (x : List Value) (v : Value) (lo hi : Int), n = .piece m lo hi ∧ RowAt w ok 57 5 v 1 x ∧ NodeF w ok d m x ∧ c = [.int .i64 4, .slice none 0 0, v, .int .i64 lo, .int .i64 hi])

theorem NodeF.up {w : World} {ok : Nat → Prop} : ∀ (d e : Nat) (n : Munch.Node) (c : List Value), d ≤ e → NodeF w ok d n c → NodeF w ok e n c := by
  intro d
  induction d with
  | zero => intro e n c _ h; exact h.elim
  | succ d ih =>
    intro e n c he h
    obtain ⟨e, rfl⟩ : ∃ q, e = q + 1 := ⟨e - 1, by omega⟩
    rcases h with h | ⟨l, v, cs, h1, h2, h3, h4, h5⟩ | ⟨l, v, cs, h1, h2, h3, h4, h5⟩ | ⟨m, x, v, lo, hi, h1, h2, h3, h4⟩
    · exact Or.inl h
    · exact Or.inr (Or.inl ⟨l, v, cs, h1, h2, h3, fun i m x hi hx => ih e m x (by omega) (h4 i m x hi hx), h5⟩)
    · exact Or.inr (Or.inr (Or.inl ⟨l, v, cs, h1, h2, h3, fun i m x hi hx => ih e m x (by omega) (h4 i m x hi hx), h5⟩))
    · exact Or.inr (Or.inr (Or.inr ⟨m, x, v, lo, hi, h1, h2, ih e m x (by omega) h3, h4⟩))

/-- A node in memory. -/
def NodeIn (w : World) (ok : Nat → Prop) (n : Munch.Node) (c : List Value) : Prop := ∃ d, NodeF w ok d n c

/-- So many nodes have one depth. -/
theorem NodeIn.deep {w : World} {ok : Nat → Prop} : ∀ (l : List Munch.Node) (cs : List (List Value)), (∀ (i : Nat) m x, l[i]? = some m → cs[i]? = some x → NodeIn w ok m x) → ∃ d, ∀ (i : Nat) m x, l[i]? = some m → cs[i]? = some x → NodeF w ok d m x := by
  intro l
  induction l with
  | nil => intro cs _; exact ⟨0, fun i m x h => by simp at h⟩
  | cons n r ih =>
    intro cs h
    cases cs with
    | nil => exact ⟨0, fun i m x _ hx => by simp at hx⟩
    | cons c cr =>
      obtain ⟨d, hd⟩ := ih cr (fun i m x hi hx => h (i + 1) m x (by simpa using hi) (by simpa using hx))
      obtain ⟨e, he⟩ := h 0 n c rfl rfl
      refine ⟨max d e, fun i m x hi hx => ?_⟩
      cases i with
      | zero => simp at hi hx; subst hi; subst hx; exact he.up _ _ _ _ (by omega)
      | succ i => exact (hd i m x (by simpa using hi) (by simpa using hx)).up _ _ _ _ (by omega)

theorem NodeIn.set {w : World} {ok : Nat → Prop} (no : Bool) (sp : List (Nat × Nat)) (g : Nat) (hok : ok g) (hb : Blk w g 4 (boolArr (memV no sp))) :
    NodeIn w ok (.set no sp) [.int .i64 1, .slice (some ⟨g, 0, none⟩) 256 256, .slice none 0 0, .int .i64 0, .int .i64 0] := ⟨1, Or.inl ⟨no, sp, g, rfl, hok, hb, rfl⟩⟩
theorem NodeIn.row {w : World} {ok : Nat → Prop} (l : List Munch.Node) (v : Value) (cs : List (List Value)) (hl : cs.length = l.length) (hrow : RowAt w ok 57 5 v l.length cs.flatten) (hsub : ∀ (i : Nat) n c, l[i]? = some n → cs[i]? = some c → NodeIn w ok n c) :
    NodeIn w ok (.row l) [.int .i64 2, .slice none 0 0, v, .int .i64 0, .int .i64 0] := by
  obtain ⟨d, hd⟩ := NodeIn.deep l cs hsub
  exact ⟨d + 1, Or.inr (Or.inl ⟨l, v, cs, rfl, hl, hrow, hd, rfl⟩)⟩
theorem NodeIn.form {w : World} {ok : Nat → Prop} (l : List Munch.Node) (v : Value) (cs : List (List Value)) (hl : cs.length = l.length) (hrow : RowAt w ok 57 5 v l.length cs.flatten) (hsub : ∀ (i : Nat) n c, l[i]? = some n → cs[i]? = some c → NodeIn w ok n c) :
    NodeIn w ok (.form l) [.int .i64 3, .slice none 0 0, v, .int .i64 0, .int .i64 0] := by
  obtain ⟨d, hd⟩ := NodeIn.deep l cs hsub
  exact ⟨d + 1, Or.inr (Or.inr (Or.inl ⟨l, v, cs, rfl, hl, hrow, hd, rfl⟩))⟩
theorem NodeIn.piece {w : World} {ok : Nat → Prop} (n : Munch.Node) (c : List Value) (v : Value) (lo hi : Int) (hrow : RowAt w ok 57 5 v 1 c) (hsub : NodeIn w ok n c) :
    NodeIn w ok (.piece n lo hi) [.int .i64 4, .slice none 0 0, v, .int .i64 lo, .int .i64 hi] := by
  obtain ⟨d, hd⟩ := hsub
  exact ⟨d + 1, Or.inr (Or.inr (Or.inr ⟨n, c, v, lo, hi, rfl, hrow, hd, rfl⟩))⟩

theorem NodeIn.ind {w : World} {ok : Nat → Prop} {motive : Munch.Node → List Value → Prop}
    (hset : ∀ (no : Bool) (sp : List (Nat × Nat)) (g : Nat), ok g → Blk w g 4 (boolArr (memV no sp)) → motive (.set no sp) [.int .i64 1, .slice (some ⟨g, 0, none⟩) 256 256, .slice none 0 0, .int .i64 0, .int .i64 0])
    (hrow : ∀ (l : List Munch.Node) (v : Value) (cs : List (List Value)), cs.length = l.length → RowAt w ok 57 5 v l.length cs.flatten → (∀ (i : Nat) n c, l[i]? = some n → cs[i]? = some c → NodeIn w ok n c) → (∀ (i : Nat) n c, l[i]? = some n → cs[i]? = some c → motive n c) → motive (.row l) [.int .i64 2, .slice none 0 0, v, .int .i64 0, .int .i64 0])
    (hform : ∀ (l : List Munch.Node) (v : Value) (cs : List (List Value)), cs.length = l.length → RowAt w ok 57 5 v l.length cs.flatten → (∀ (i : Nat) n c, l[i]? = some n → cs[i]? = some c → NodeIn w ok n c) → (∀ (i : Nat) n c, l[i]? = some n → cs[i]? = some c → motive n c) → motive (.form l) [.int .i64 3, .slice none 0 0, v, .int .i64 0, .int .i64 0])
    (hpiece : ∀ (n : Munch.Node) (c : List Value) (v : Value) (lo hi : Int), RowAt w ok 57 5 v 1 c → NodeIn w ok n c → motive n c → motive (.piece n lo hi) [.int .i64 4, .slice none 0 0, v, .int .i64 lo, .int .i64 hi])
    {n : Munch.Node} {c : List Value} (h : NodeIn w ok n c) : motive n c := by
  obtain ⟨d, hd⟩ := h
  have all : ∀ (d : Nat) (n : Munch.Node) (c : List Value), NodeF w ok d n c → motive n c := by
    intro d
    induction d with
    | zero => intro n c h; exact h.elim
    | succ d ih =>
      intro n c h
      rcases h with ⟨no, sp, g, rfl, h1, h2, rfl⟩ | ⟨l, v, cs, rfl, h2, h3, h4, rfl⟩ | ⟨l, v, cs, rfl, h2, h3, h4, rfl⟩ | ⟨m, x, v, lo, hi, rfl, h2, h3, rfl⟩
      · exact hset no sp g h1 h2
      · exact hrow l v cs h2 h3 (fun i m x hi hx => ⟨d, h4 i m x hi hx⟩) (fun i m x hi hx => ih m x (h4 i m x hi hx))
      · exact hform l v cs h2 h3 (fun i m x hi hx => ⟨d, h4 i m x hi hx⟩) (fun i m x hi hx => ih m x (h4 i m x hi hx))
      · exact hpiece m x v lo hi h2 ⟨d, h3⟩ (ih m x h3)
  exact all d n c hd

/-- Five cells of a node's shape. -/
def Shape (c : List Value) : Prop := ∃ (k : Int) (sa : Option Addr) (sn sc : Nat) (ba : Option Addr) (bn bc : Nat) (lo hi : Int), c = [.int .i64 k, .slice sa sn sc, .slice ba bn bc, .int .i64 lo, .int .i64 hi]
theorem NodeIn.shape {w : World} {ok : Nat → Prop} {n : Munch.Node} {c : List Value} (h : NodeIn w ok n c) : Shape c := by
  refine NodeIn.ind (motive := fun _ c => Shape c) ?_ ?_ ?_ ?_ h
  · intro no sp g _ _; exact ⟨_, _, _, _, _, _, _, _, _, rfl⟩
  · intro l v cs _ hrow _ _; obtain ⟨ao, cap, rfl⟩ := hrow.shape; exact ⟨_, _, _, _, _, _, _, _, _, rfl⟩
  · intro l v cs _ hrow _ _; obtain ⟨ao, cap, rfl⟩ := hrow.shape; exact ⟨_, _, _, _, _, _, _, _, _, rfl⟩
  · intro n c v lo hi hrow _ _; obtain ⟨ao, cap, rfl⟩ := hrow.shape; exact ⟨_, _, _, _, _, _, _, _, _, rfl⟩

theorem NodeIn.keep {w w' : World} {ok : Nat → Prop} (hk : ∀ b, b < w.heap.size → ok b → w'.heap[b]? = w.heap[b]?) {n : Munch.Node} {c : List Value} (h : NodeIn w ok n c) : NodeIn w' ok n c := by
  refine NodeIn.ind (motive := fun n c => NodeIn w' ok n c) ?_ ?_ ?_ ?_ h
  · intro no sp g hok hb; exact .set no sp g hok ((hk g hb.lt hok).trans hb)
  · intro l v cs hl hrow _ ih; exact .row l v cs hl (hrow.keep hk) ih
  · intro l v cs hl hrow _ ih; exact .form l v cs hl (hrow.keep hk) ih
  · intro n c v lo hi hrow _ ih; exact .piece n c v lo hi (hrow.keep hk) ih
theorem NodeIn.mono {w : World} {ok ok' : Nat → Prop} (hok : ∀ b, b < w.heap.size → ok b → ok' b) {n : Munch.Node} {c : List Value} (h : NodeIn w ok n c) : NodeIn w ok' n c := by
  refine NodeIn.ind (motive := fun n c => NodeIn w ok' n c) ?_ ?_ ?_ ?_ h
  · intro no sp g hg hb; exact .set no sp g (hok g hb.lt hg) hb
  · intro l v cs hl hrow _ ih; exact .row l v cs hl (hrow.mono hok) ih
  · intro l v cs hl hrow _ ih; exact .form l v cs hl (hrow.mono hok) ih
  · intro n c v lo hi hrow _ ih; exact .piece n c v lo hi (hrow.mono hok) ih

theorem hmake : ∀ w : World, (Instr.makeSlice 54 (.int .i64 256) (.int .i64 256)).run Tryz.prog w = .ok (.slice (some ⟨w.heap.size, 0, none⟩) 256 256) (w.alloc (.cells (boolArr fun _ => false) 4)) := fun w => by kernel_rfl

set_option maxHeartbeats 400000 in
theorem single_any (c : UInt8) (w : World) :
    Calls Tryz.prog 114 #[.int .u8 c.toNat] w fun e w' => ∃ cs, e = .returned (.agg cs.toArray) ∧ NodeIn w' (w.heap.size ≤ ·) (Munch.one c) cs ∧ Below w.heap.size w w' := by
  have hm := hmake
  have hc : c.toNat < 256 := c.toNat_lt
  have hsz := boolArr_size fun _ => false
  have hat := boolArr_at (fun _ => false) c.toNat hc
  go_enter Tryz.func114, Tryz.ntmps114
  go_wp2
  refine bodyPost_ret (v := .agg #[.int .i64 1, .slice (some ⟨w.heap.size + 1, 0, none⟩) 256 256, .slice none 0 0, .int .i64 0, .int .i64 0]) (by simp [results, Tryz.results114, go_sem]) rfl ⟨[.int .i64 1, .slice (some ⟨w.heap.size + 1, 0, none⟩) 256 256, .slice none 0 0, .int .i64 0, .int .i64 0], rfl, ?_, ?_⟩
  · refine NodeIn.set false [(c.toNat, c.toNat)] (w.heap.size + 1) (by omega) ?_
    rw [boolArr_set]
    have := Blk.new (w.alloc (.cells #[.int .i64 1, .slice (some ⟨w.heap.size + 1, 0, none⟩) 256 256, .slice none 0 0, .int .i64 0, .int .i64 0] 57)) (boolArr (memV false [(c.toNat, c.toNat)])) 4
    rw [size_alloc] at this
    have e : boolArr (fun x => if x = c.toNat then true else false) = boolArr (memV false [(c.toNat, c.toNat)]) := boolArr_congr fun x _ => by
      simp [memV, inSpans]; rw [Bool.eq_iff_iff]; simp; omega
    rw [e]; exact this
  · exact ((Below.refl _ _).alloc (Nat.le_refl _) _).alloc (by simp) _

set_option maxHeartbeats 400000 in
set_option maxRecDepth 100000 in
theorem every_any (w : World) :
    Calls Tryz.prog 112 #[] w fun e w' => ∃ cs, e = .returned (.agg cs.toArray) ∧ NodeIn w' (w.heap.size ≤ ·) Munch.everyN cs ∧ Below w.heap.size w w' := by
  have hm := hmake
  go_enter Tryz.func112, Tryz.ntmps112
  go_wp2
  go_loopw [2] (fun i wr => ∃ k : Nat, k ≤ 256 ∧ i = .int .i64 k ∧ Blk wr w.heap.size 57 #[.int .i64 0, .slice none 0 0, .slice none 0 0, .int .i64 0, .int .i64 0] ∧ Blk wr (w.heap.size + 1) 4 (boolArr fun x => decide (x < k)) ∧ Below w.heap.size w wr) (fun i _ => 256 - (intOf i).toNat)
  case atStart =>
    refine ⟨0, by omega, rfl, (Blk.new _ _ _).alloc _, ?_, ((Below.refl _ _).alloc (Nat.le_refl _) _).alloc (by simp) _⟩
    have := Blk.new (w.alloc (.cells #[.int .i64 0, .slice none 0 0, .slice none 0 0, .int .i64 0, .int .i64 0] 57)) (boolArr fun _ => false) 4
    rw [size_alloc] at this
    rw [boolArr_congr (f := fun x => decide (x < 0)) (g := fun _ => false) (fun x _ => by simp)]
    exact this
  case round =>
    obtain ⟨k, hk, rfl, hres, hblk, hnx⟩ := hrel
    by_cases hlt : k < 256
    · have q1 := (hblk.cell k).trans (boolArr_at _ k hlt)
      have q2 := hblk.frozen k
      have hb2 := hblk.set k (.bool true)
      rw [boolArr_set, boolArr_congr (g := fun x => decide (x < k + 1)) (fun x _ => by split <;> simp <;> omega)] at hb2
      have HB : Hid _ := hb2; clear hb2
      go_wp2
      go_roundw
      case rel => exact ⟨k + 1, by omega, by go_num, hres.setOther (by simp) _, HB.out, hnx.setCell (by simp) _⟩
      case measure => simp [intOf]; omega
    · obtain rfl : k = 256 := by omega
      obtain ⟨c0, c1, c2, c3, c4⟩ := hres.cells5
      have f0 := hres.frozen 0
      have f1 := hres.frozen 1
      have f2 := hres.frozen 2
      have f3 := hres.frozen 3
      have f4 := hres.frozen 4
      obtain ⟨z0, z1, z2, z3, z4⟩ := hres.put5_cells (.int .i64 1) (.slice (some ⟨w.heap.size + 1, 0, none⟩) 256 256) (.slice none 0 0) (.int .i64 0) (.int .i64 0)
      go_wp2
      refine bodyPost_ret (v := .agg #[.int .i64 1, .slice (some ⟨w.heap.size + 1, 0, none⟩) 256 256, .slice none 0 0, .int .i64 0, .int .i64 0]) (by simp [results, Tryz.results112, go_sem, z0, z1, z2, z3, z4]) rfl ⟨[.int .i64 1, .slice (some ⟨w.heap.size + 1, 0, none⟩) 256 256, .slice none 0 0, .int .i64 0, .int .i64 0], rfl, ?_, ?_⟩
      · refine NodeIn.set false [(0, 255)] (w.heap.size + 1) (by omega) ?_
        rw [boolArr_congr (f := memV false [(0, 255)]) (g := fun x => decide (x < 256)) (fun x hx => by simp [memV, inSpans, hx]; omega)]
        exact (put5_other _ _ _ _ _ _ (by omega)).trans hblk
      · exact below_put5 hnx (Nat.le_refl _) _ _ _ _ _
end Go.Proofs.YtkoaeojdlanolaaGreatDoor
/-
  THE WALK of the reader's span.
-/
namespace Go.Proofs.YtkoaeojdlanolaaGreatDoor
open Go.RowKit

/-- All that was there, but for blocks R and g, is as it was. -/
structure Kept2 (R g : Nat) (w w' : World) : Prop where
  os : w'.os = w.os
  tape : w'.tape = w.tape
  output : w'.output = w.output
  size : w.heap.size ≤ w'.heap.size
  block : ∀ k, k < w.heap.size → k ≠ R → k ≠ g → w'.heap[k]? = w.heap[k]?
theorem Kept.two {R g : Nat} {w w' : World} (h : Kept R w w') : Kept2 R g w w' := ⟨h.os, h.tape, h.output, h.size, fun k hk hR _ => h.block k hk hR⟩
theorem Kept2.trans {R g : Nat} {a b c : World} (h : Kept2 R g a b) (k : Kept2 R g b c) : Kept2 R g a c :=
  ⟨k.os.trans h.os, k.tape.trans h.tape, k.output.trans h.output, Nat.le_trans h.size k.size, fun i hi h1 h2 => (k.block i (Nat.lt_of_lt_of_le hi h.size) h1 h2).trans (h.block i hi h1 h2)⟩
theorem Kept2.setG {R g : Nat} {a w : World} (h : Kept2 R g a w) (j : Nat) (v : Value) : Kept2 R g a (w.setCell ⟨g, j, none⟩ v) :=
  ⟨h.os, h.tape, h.output, by rw [size_setCell]; exact h.size, fun k hk h1 h2 => by rw [Below.heap_setCell _ _ _ _ h2]; exact h.block k hk h1 h2⟩
theorem Kept2.setR {R g : Nat} {a w : World} (h : Kept2 R g a w) (j : Nat) (v : Value) : Kept2 R g a (w.setCell ⟨R, j, none⟩ v) :=
  ⟨h.os, h.tape, h.output, by rw [size_setCell]; exact h.size, fun k hk h1 h2 => by rw [Below.heap_setCell _ _ _ _ h1]; exact h.block k hk h1 h2⟩
theorem Kept2.drewN {R g : Nat} {a w : World} (h : Kept2 R g a w) (n : Nat) : Kept2 R g a (w.drewN n) := ⟨h.os, h.tape, h.output, h.size, h.block⟩
theorem Kept2.one {R g : Nat} {a w w' : World} (h : Kept R a w) (hg : a.heap.size ≤ g) (k : Kept2 R g w w') : Kept R a w' :=
  ⟨k.os.trans h.os, k.tape.trans h.tape, k.output.trans h.output, Nat.le_trans h.size k.size, fun i hi h1 => (k.block i (Nat.lt_of_lt_of_le hi h.size) h1 (by omega)).trans (h.block i hi h1)⟩

def SpanPost (R : Nat) (s : ByteArray) (i : Nat) (bad deep opn : Int) (g : Nat) (f : Nat → Bool) (w : World) (e : Ending) (w' : World) : Prop :=
  (∃ x j, Munch.span s i = .ok (x, j) ∧ e = .returned (.tuple #[]) ∧ Rd w' R s (j : Nat) bad deep opn ∧ Blk w' g 4 (boolArr fun c => f c || (decide (x.1 ≤ c) && decide (c ≤ x.2))) ∧ Kept2 R g w w') ∨
  (∃ p, Munch.span s i = .bad p ∧ e = .returned (.tuple #[]) ∧ Rd w' R s (p : Nat) (p : Nat) deep opn ∧ Blk w' g 4 (boolArr f) ∧ Kept2 R g w w')

theorem bits_step (b : Bool) (v k x : Nat) (h : v ≤ k) : (if x = k then true else (b || (decide (v ≤ x) && decide (x < k)))) = (b || (decide (v ≤ x) && decide (x < k + 1))) := by
  by_cases hx : x = k
  · subst hx; simp [h]
  · rw [if_neg hx]; congr 2; simp; omega
theorem bits_end (b : Bool) (v h x : Nat) : (b || (decide (v ≤ x) && decide (x ≤ h))) = (b || (decide (v ≤ x) && decide (x < h + 1))) := by
  congr 2; simp; omega
theorem bits_none (b : Bool) (v x : Nat) : (b || (decide (v ≤ x) && decide (x < v))) = b := by
  cases b <;> simp

theorem low_val (s : ByteArray) (a : Nat) : Munch.low s a ≤ a + 1 := by unfold Munch.low; split <;> omega

set_option maxHeartbeats 2000000 in
theorem refSpan_any (R : Nat) (s : ByteArray) (i : Nat) (bad deep opn : Int) (g : Nat) (f : Nat → Bool) (w : World) (hr : Rd w R s i bad deep opn) (hb : bad < 0) (hs : s.size ≤ 1000) (hg : Blk w g 4 (boolArr f)) (hgR : g ≠ R) :
    Calls Tryz.prog 131 #[ptr R, .slice (some ⟨g, 0, none⟩) 256 256] w fun e w' => SpanPost R s i bad deep opn g f w e w' := by
  have hRg : R ≠ g := Ne.symm hgR
  go_enter Tryz.func131, Tryz.ntmps131
  go_wp2_with fail
  refine (refSpanByte_any R s i bad deep opn _ hr hb hs).mono ?_
  rintro e w1 (⟨v, j, hv, rfl, hr1, hk1⟩ | ⟨p, hp, rfl, hr1, hk1⟩)
  · have hvb := Munch.spanByte_ok _ _ _ _ hv
    have HV : Hid _ := hv; clear hv
    have hg1 := hk1.blk hg hgR
    go_wp2_with fail
    refine (here_ok R s j bad deep opn 45 _ hr1 hb).mono ?_
    rintro e w2 ⟨rfl, n2, rfl⟩
    by_cases hd : Munch.hasAt s j 45 = true
    · rw [hd]
      have HD : Hid _ := hd
      have hj := Munch.hasAt_true _ _ _ hd
      clear hd
      have m1 := hr1.c1
      have m2 := hr1.fr 1
      have r1 : ∀ a, ((w1.drewN a).setCell ⟨R, 1, none⟩ (.int .i64 (j + 1))).cell? ⟨R, 1, none⟩ = some (.int .i64 (j + 1)) := fun a => ((hr1.drewN a).set1 _).c1
      go_wp2_with fail
      refine (refSpanByte_any R s (j + 1) bad deep opn _ ((hr1.drewN _).set1 ((j + 1 : Nat) : Int)) hb hs).mono ?_
      rintro e w3 (⟨v2, j2, hv2, rfl, hr3, hk3⟩ | ⟨p, hp, rfl, hr3, hk3⟩)
      · have hv2b := Munch.spanByte_ok _ _ _ _ hv2
        have hk13 : Kept R w w3 := ((hk1.drewN _).setR _ _).trans hk3
        have hg3 := hk13.blk hg hgR
        have q2 := hr3.c2
        have q1 := hr3.c1
        have qf := hr3.fr 1
        by_cases hl : v2 < v
        · have HS : Hid _ := Munch.span_low s i v j v2 j2 HV.out HD.out hv2 hl
          clear hv2
          go_wp2_with fail
          refine (low_any R s _ bad deep opn (j + 1) _ hr3 (by omega) hs).mono ?_
          rintro e w4 ⟨rfl, rfl⟩
          go_wp2_with fail
          refine (fail_any R s _ bad deep opn _ (hr3.set1 _)).mono ?_
          rintro e w5 ⟨rfl, hr5, hk5⟩
          rw [if_pos hb] at hr5
          have hk15 : Kept R w w5 := (hk13.setR _ _).trans hk5
          have hg5 := hk15.blk hg hgR
          have u2 := hr5.c2
          go_wp2_with fail
          go_loopw [8] (fun c wr => wr = w5) (fun c _ => 0)
          case atStart => rfl
          case round =>
            subst hrel
            go_wp2_with fail
            go_end0
            exact Or.inr ⟨_, HS.out, rfl, hr5, hg5, hk15.two⟩
        · have HS : Hid _ := Munch.span_two s i v j v2 j2 HV.out HD.out hv2 hl
          clear hv2
          go_wp2_with fail
          go_loopw [8] (fun c wr => ∃ k : Nat, v ≤ k ∧ k ≤ v2 + 1 ∧ c = .int .i64 k ∧ Rd wr R s j2 bad deep opn ∧ Blk wr g 4 (boolArr fun x => f x || (decide (v ≤ x) && decide (x < k))) ∧ Kept2 R g w wr) (fun c _ => v2 + 1 - (intOf c).toNat)
          case atStart => exact ⟨v, Nat.le_refl _, by omega, rfl, hr3, by rw [boolArr_congr (g := f) (fun x _ => bits_none _ _ _)]; exact hg3, hk13.two⟩
          case round =>
            obtain ⟨k, hk0, hk, rfl, hrr, hgr, hkr⟩ := hrel
            have p2 := hrr.c2
            by_cases hlt : k ≤ v2
            · have y1 := (hgr.cell k).trans (boolArr_at _ k (by omega))
              have y2 := hgr.frozen k
              have hb2 := hgr.set k (.bool true)
              rw [boolArr_set, boolArr_congr (g := fun x => f x || (decide (v ≤ x) && decide (x < k + 1))) (fun x _ => bits_step _ _ _ _ (by omega))] at hb2
              have HB : Hid _ := hb2; clear hb2
              go_wp2_with fail
              go_roundw
              case rel => exact ⟨k + 1, by omega, by omega, by go_num, hrr.other (by simpa using hRg) _, HB.out, hkr.setG _ _⟩
              case measure => simp [intOf] <;> omega
            · obtain rfl : k = v2 + 1 := by omega
              go_wp2_with fail
              go_end0
              exact Or.inl ⟨_, _, HS.out, rfl, hrr, by rw [boolArr_congr (g := fun x => f x || (decide (v ≤ x) && decide (x < v2 + 1))) (fun x _ => bits_end _ _ _ _)]; exact hgr, hkr⟩
      · have HS : Hid _ := Munch.span_bad2 s i v j p HV.out HD.out hp
        clear hp
        have hk13 : Kept R w w3 := ((hk1.drewN _).setR _ _).trans hk3
        have hg3 := hk13.blk hg hgR
        have q2 := hr3.c2
        have hd0 : decide ((p : Int) < 0) = false := by simp
        go_wp2_with fail
        go_loopw [8] (fun c wr => wr = w3) (fun c _ => 0)
        case atStart => rfl
        case round =>
          subst hrel
          go_wp2_with fail
          go_end0
          exact Or.inr ⟨p, HS.out, rfl, hr3, hg3, hk13.two⟩
    · have hd' : Munch.hasAt s j 45 = false := by simpa using hd
      have HS : Hid _ := Munch.span_plain s i v j HV.out hd'
      rw [hd']
      clear hd hd'
      have q2 := hr1.c2
      go_wp2_with fail
      go_loopw [8] (fun c wr => ∃ k : Nat, v ≤ k ∧ k ≤ v + 1 ∧ c = .int .i64 k ∧ Rd wr R s j bad deep opn ∧ Blk wr g 4 (boolArr fun x => f x || (decide (v ≤ x) && decide (x < k))) ∧ Kept2 R g w wr) (fun c _ => v + 1 - (intOf c).toNat)
      case atStart => exact ⟨v, Nat.le_refl _, by omega, rfl, hr1.drewN _, by rw [boolArr_congr (g := f) (fun x _ => bits_none _ _ _)]; exact hg1.drewN _, (hk1.drewN _).two⟩
      case round =>
        obtain ⟨k, hk0, hk, rfl, hrr, hgr, hkr⟩ := hrel
        have p2 := hrr.c2
        by_cases hlt : k ≤ v
        · obtain rfl : k = v := by omega
          have y1 := (hgr.cell k).trans (boolArr_at _ k (by omega))
          have y2 := hgr.frozen k
          have hb2 := hgr.set k (.bool true)
          rw [boolArr_set, boolArr_congr (g := fun x => f x || (decide (k ≤ x) && decide (x < k + 1))) (fun x _ => bits_step _ _ _ _ (by omega))] at hb2
          have HB : Hid _ := hb2; clear hb2
          go_wp2_with fail
          go_roundw
          case rel => exact ⟨k + 1, by omega, by omega, by go_num, hrr.other (by simpa using hRg) _, HB.out, hkr.setG _ _⟩
          case measure => simp [intOf] <;> omega
        · obtain rfl : k = v + 1 := by omega
          go_wp2_with fail
          go_end0
          exact Or.inl ⟨_, _, HS.out, rfl, hrr, by rw [boolArr_congr (g := fun x => f x || (decide (v ≤ x) && decide (x < v + 1))) (fun x _ => bits_end _ _ _ _)]; exact hgr, hkr⟩
  · have HS : Hid _ := Munch.span_bad1 s i p hp
    clear hp
    have hg1 := hk1.blk hg hgR
    have q2 := hr1.c2
    go_wp2_with fail
    refine (here_no R s p p deep opn _ _ hr1 (by omega)).mono ?_
    rintro e w2 ⟨rfl, n2, rfl⟩
    go_wp2_with fail
    go_loopw [8] (fun c wr => wr = w1.drewN n2) (fun c _ => 0)
    case atStart => rfl
    case round =>
      subst hrel
      go_wp2_with fail
      go_end0
      exact Or.inr ⟨p, HS.out, rfl, hr1.drewN _, hg1.drewN _, (hk1.drewN _).two⟩
end Go.Proofs.YtkoaeojdlanolaaGreatDoor
/-
  THE WALK of the reader's set.
-/
namespace Go.Proofs.YtkoaeojdlanolaaGreatDoor
open Go.RowKit

def SetPost (r : Munch.Res (Munch.Node × Nat)) (R : Nat) (s : ByteArray) (bad deep opn : Int) (w : World) (e : Ending) (w' : World) : Prop :=
  (∃ nd j cs, r = .ok (nd, j) ∧ e = .returned (.agg cs.toArray) ∧ NodeIn w' (w.heap.size ≤ ·) nd cs ∧ Rd w' R s (j : Nat) bad deep opn ∧ Kept R w w') ∨
  (∃ p cs, r = .bad p ∧ e = .returned (.agg cs.toArray) ∧ Shape cs ∧ Rd w' R s (p : Nat) (p : Nat) deep opn ∧ Kept R w w')

abbrev zero5 : Array Value := #[.int .i64 0, .slice none 0 0, .slice none 0 0, .int .i64 0, .int .i64 0]

/-- The loop over the spans, in memory. -/
def SpansInv (R : Nat) (s : ByteArray) (bad deep opn : Int) (B : Nat) (w : World) (R0 : Munch.Res (List (Nat × Nat) × Nat)) (k : Nat) (wr : World) : Prop :=
  Blk wr B 57 zero5 ∧ Kept R w wr ∧
  ((∃ j acc, Munch.spans s k j acc = R0 ∧ Rd wr R s (j : Nat) bad deep opn ∧ Blk wr (B + 1) 4 (boolArr (inSpans acc))) ∨
   (∃ p f, R0 = .bad p ∧ Rd wr R s (p : Nat) (p : Nat) deep opn ∧ Blk wr (B + 1) 4 (boolArr f)))

theorem copy_step (v : Nat → Bool) (q x : Nat) : (if x = q then v q else (decide (x < q) && v x)) = (decide (x < q + 1) && v x) := by
  by_cases h : x = q
  · subst h; simp
  · rw [if_neg h]; congr 1; simp; omega
theorem copy_none (v : Nat → Bool) (x : Nat) : (decide (x < 0) && v x) = false := by simp
theorem copy_all (v : Nat → Bool) (x : Nat) (h : x < 256) : (decide (x < 256) && v x) = v x := by simp [h]

theorem inSpans_snoc (sp : List (Nat × Nat)) (x : Nat × Nat) : (fun c => inSpans sp c || (decide (x.1 ≤ c) && decide (c ≤ x.2))) = inSpans (sp ++ [x]) := by
  funext c; simp [inSpans]

set_option maxHeartbeats 2000000 in
set_option maxRecDepth 100000 in
theorem set_any (R : Nat) (s : ByteArray) (n i : Nat) (bad deep opn : Int) (w : World) (hr : Rd w R s i bad deep opn) (hb : bad < 0) (hs : s.size ≤ 1000) (hout : Munch.setR s n i ≠ .out) :
    Calls Tryz.prog 113 #[ptr R] w fun e w' => SetPost (Munch.setR s n i) R s bad deep opn w e w' := by
  have hm := hmake
  have hRB := hr.lt
  have hb' := hb
  go_enter Tryz.func113, Tryz.ntmps113
  go_wp2_with fail
  refine (here_ok R s i bad deep opn 94 _ (hr.alloc _) hb).mono ?_
  rintro e w1 ⟨rfl, n1, rfl⟩
  have hB0 : Blk ((w.alloc (.cells zero5 57)).drewN n1) w.heap.size 57 zero5 := Blk.new w zero5 57
  have hK0 : Kept R w ((w.alloc (.cells zero5 57)).drewN n1) := ((Kept.refl R w).alloc _).drewN _
  have hr0 : Rd ((w.alloc (.cells zero5 57)).drewN n1) R s i bad deep opn := (hr.alloc _).drewN _
  have m1 := hr0.c1
  have m2 := hr0.fr 1
  by_cases hno : Munch.hasAt s i 94 = true
  · have hno' := hno
    have hi0 := Munch.hasAt_true _ _ _ hno
    obtain ⟨I0, hI0⟩ : ∃ I0, I0 = i + 1 := ⟨_, rfl⟩
    obtain ⟨NO, hNO⟩ : ∃ NO, NO = true := ⟨_, rfl⟩
    have HR0 : Hid (Munch.setR s n i = (Munch.spans s n I0 []).bind fun x => .ok (.set NO x.1, x.2)) := by unfold Munch.setR; rw [hno', hI0, hNO]; rfl
    have HOUT : Hid (Munch.spans s n I0 [] ≠ .out) := fun h => hout (by rw [HR0.out, h]; rfl)
    rw [hno']
    have HI0 : Hid _ := hI0
    have HNO : Hid _ := hNO
    clear hno hno' hout hI0
    go_wp2_with fail
    go_loopg [] n (fun k wr => SpansInv R s bad deep opn w.heap.size w (Munch.spans s n I0 []) k wr)
    case atStart =>
      refine ⟨?_, ?_, Or.inl ⟨I0, [], rfl, ?_, ?_⟩⟩
      · exact (hB0.setOther (by simp; omega) _).alloc _
      · exact (hK0.setR _ _).alloc _
      · rw [HI0.out]; exact ((hr0.set1 _).at_ (by omega) rfl).alloc _
      · have := Blk.new (((w.alloc (.cells zero5 57)).drewN n1).setCell ⟨R, 1, none⟩ (.int .i64 (i + 1))) (boolArr (inSpans [])) 4
        rw [size_setCell, show ((w.alloc (.cells zero5 57)).drewN n1).heap.size = w.heap.size + 1 from size_alloc _ _] at this
        exact this
    case round =>
      obtain ⟨hBr, hKr, hcase⟩ := hrel
      have hszr := hKr.size
      have hBl := hBr.lt
      rcases hcase with ⟨j, acc, hsp, hrr, hgr⟩ | ⟨p, f, hR, hrr, hgr⟩
      · obtain ⟨k, rfl⟩ : ∃ k, gk = k + 1 := by
          cases gk with
          | zero => exact absurd hsp.symm HOUT.out
          | succ k => exact ⟨k, rfl⟩
        have p2 := hrr.c2
        go_wp2_with fail
        refine (here_ok R s j bad deep opn 93 _ hrr hb).mono ?_
        rintro e w2 ⟨rfl, n2, rfl⟩
        by_cases h93 : Munch.hasAt s j 93 = true
        · have hj := Munch.hasAt_true _ _ _ h93
          have HOK : Hid (Munch.setR s n i = .ok (.set NO acc, j + 1)) := by rw [HR0.out, ← hsp, Munch.spans, if_pos h93]; rfl
          rw [h93]
          clear h93 hsp
          have p1 := hrr.c1
          have pf := hrr.fr 1
          obtain ⟨wo, rfl⟩ : ∃ wo : World, wo = wr := ⟨_, rfl⟩
          have hgl := hgr.lt
          go_wp2_with fail
          go_loopw [6] (fun c wz => ∃ q : Nat, q ≤ 256 ∧ c = .int .i64 q ∧ Blk wz w.heap.size 57 zero5 ∧ Blk wz (w.heap.size + 1) 4 (boolArr (inSpans acc)) ∧ Blk wz wo.heap.size 4 (boolArr fun x => decide (x < q) && (!inSpans acc x)) ∧ Rd wz R s ((j + 1 : Nat) : Int) bad deep opn ∧ Kept R w wz) (fun c _ => 256 - (intOf c).toNat)
          case atStart =>
            refine ⟨0, by omega, rfl, ?_, ?_, ?_, ?_, ?_⟩
            · exact ((hBr.drewN _).setOther (by simp; omega) _).alloc _
            · exact ((hgr.drewN _).setOther (by simp; omega) _).alloc _
            · have := Blk.new ((wo.drewN n2).setCell ⟨R, 1, none⟩ (.int .i64 (j + 1))) (boolArr fun _ => false) 4
              rw [size_setCell] at this
              rw [boolArr_congr (g := fun _ => false) (fun x _ => copy_none (fun x => (!inSpans acc x)) x)]
              exact this
            · exact (((hrr.drewN _).set1 _).at_ (by omega) rfl).alloc _
            · exact ((hKr.drewN _).setR _ _).alloc _
          case round =>
            obtain ⟨q, hq, rfl, zB, zI, zO, zR, zK⟩ := hrel
            by_cases hlt : q < 256
            · have y0 := (zI.cell q).trans (boolArr_at _ q hlt)
              have y1 := (zO.cell q).trans (boolArr_at _ q hlt)
              have y2 := zO.frozen q
              have hb2 := zO.set q (.bool ((!inSpans acc q)))
              rw [boolArr_set, boolArr_congr (g := fun x => decide (x < q + 1) && (!inSpans acc x)) (fun x _ => copy_step (fun x => (!inSpans acc x)) q x)] at hb2
              have HB : Hid _ := hb2; clear hb2
              go_wp2_with fail
              go_roundw
              case rel => exact ⟨q + 1, by omega, by go_num, zB.setOther (by simp; omega) _, zI.setOther (by simp; omega) _, HB.out, zR.other (by simp; omega) _, zK.setCell (Or.inr (by simp; omega)) _⟩
              case measure => simp [intOf] <;> omega
            · obtain rfl : q = 256 := by omega
              obtain ⟨c0, c1, c2, c3, c4⟩ := zB.cells5
              have f0 := zB.frozen 0
              have f1 := zB.frozen 1
              have f2 := zB.frozen 2
              have f3 := zB.frozen 3
              have f4 := zB.frozen 4
              obtain ⟨z0, z1, z2, z3, z4⟩ := zB.put5_cells (.int .i64 1) (.slice (some ⟨wo.heap.size, 0, none⟩) 256 256) (.slice none 0 0) (.int .i64 0) (.int .i64 0)
              go_wp2_with fail
              refine bodyPost_ret (v := .agg #[.int .i64 1, .slice (some ⟨wo.heap.size, 0, none⟩) 256 256, .slice none 0 0, .int .i64 0, .int .i64 0]) (by simp [results, Tryz.results113, go_sem, z0, z1, z2, z3, z4]) rfl ?_
              refine Or.inl ⟨_, _, [.int .i64 1, .slice (some ⟨wo.heap.size, 0, none⟩) 256 256, .slice none 0 0, .int .i64 0, .int .i64 0], HOK.out, rfl, ?_, ?_, ?_⟩
              · refine NodeIn.set NO acc wo.heap.size (by omega) ?_
                rw [HNO.out, boolArr_congr (f := memV true acc) (g := fun x => decide (x < 256) && (!inSpans acc x)) (fun x hx => by simp [memV, hx])]
                exact (put5_other _ _ _ _ _ _ (by omega)).trans zO
              · exact zR.put5 (by omega) _ _ _ _ _
              · exact zK.put5 (Or.inr (Nat.le_refl _)) _ _ _ _ _
        · have h93' : Munch.hasAt s j 93 = false := by simpa using h93
          have hst : Munch.spans s n I0 [] = (Munch.span s j).bind fun x => Munch.spans s k x.2 (acc ++ [x.1]) := by rw [← hsp, Munch.spans, if_neg h93]
          have HST : Hid _ := hst; clear hst
          rw [h93']
          clear h93 h93' hsp
          go_wp2_with fail
          refine (refSpan_any R s j bad deep opn (w.heap.size + 1) (inSpans acc) _ (hrr.drewN _) hb hs (hgr.drewN _) (by omega)).mono ?_
          rintro e w3 (⟨x, j2, hx, rfl, hr3, hg3, hk3⟩ | ⟨p, hp, rfl, hr3, hg3, hk3⟩)
          · have HX : Hid _ := hx; clear hx
            go_wp2_with fail
            go_roundg k
            case measure => omega
            case rel => exact ⟨(hk3.block _ hBr.lt (by omega) (by omega)).trans hBr, hk3.one (hKr.drewN _) (by omega), Or.inl ⟨j2, acc ++ [x], by rw [HST.out, HX.out]; rfl, hr3, by rw [← inSpans_snoc]; exact hg3⟩⟩
          · have HP : Hid _ := hp; clear hp
            go_wp2_with fail
            go_roundg k
            case measure => omega
            case rel => exact ⟨(hk3.block _ hBr.lt (by omega) (by omega)).trans hBr, hk3.one (hKr.drewN _) (by omega), Or.inr ⟨p, _, by rw [HST.out, HP.out]; rfl, hr3, hg3⟩⟩
      · have HBAD : Hid (Munch.setR s n i = .bad p) := by rw [HR0.out, hR]; rfl
        clear hR
        have p2 := hrr.c2
        have hd0 : ¬ ((p : Int) < 0) := by omega
        obtain ⟨wo, rfl⟩ : ∃ wo : World, wo = wr := ⟨_, rfl⟩
        have hgl := hgr.lt
        go_wp2_with fail
        go_loopw [6] (fun c wz => ∃ q : Nat, q ≤ 256 ∧ c = .int .i64 q ∧ Blk wz w.heap.size 57 zero5 ∧ Blk wz (w.heap.size + 1) 4 (boolArr f) ∧ Blk wz wo.heap.size 4 (boolArr fun x => decide (x < q) && (!f x)) ∧ Rd wz R s ((p : Nat) : Int) ((p : Nat) : Int) deep opn ∧ Kept R w wz) (fun c _ => 256 - (intOf c).toNat)
        case atStart =>
          refine ⟨0, by omega, rfl, ?_, ?_, ?_, ?_, ?_⟩
          · exact hBr.alloc _
          · exact hgr.alloc _
          · have := Blk.new wo (boolArr fun _ => false) 4
            rw [boolArr_congr (g := fun _ => false) (fun x _ => copy_none (fun x => (!f x)) x)]
            exact this
          · exact hrr.alloc _
          · exact hKr.alloc _
        case round =>
          obtain ⟨q, hq, rfl, zB, zI, zO, zR, zK⟩ := hrel
          by_cases hlt : q < 256
          · have y0 := (zI.cell q).trans (boolArr_at _ q hlt)
            have y1 := (zO.cell q).trans (boolArr_at _ q hlt)
            have y2 := zO.frozen q
            have hb2 := zO.set q (.bool ((!f q)))
            rw [boolArr_set, boolArr_congr (g := fun x => decide (x < q + 1) && (!f x)) (fun x _ => copy_step (fun x => (!f x)) q x)] at hb2
            have HB : Hid _ := hb2; clear hb2
            go_wp2_with fail
            go_roundw
            case rel => exact ⟨q + 1, by omega, by go_num, zB.setOther (by simp; omega) _, zI.setOther (by simp; omega) _, HB.out, zR.other (by simp; omega) _, zK.setCell (Or.inr (by simp; omega)) _⟩
            case measure => simp [intOf] <;> omega
          · obtain rfl : q = 256 := by omega
            obtain ⟨c0, c1, c2, c3, c4⟩ := zB.cells5
            have f0 := zB.frozen 0
            have f1 := zB.frozen 1
            have f2 := zB.frozen 2
            have f3 := zB.frozen 3
            have f4 := zB.frozen 4
            obtain ⟨z0, z1, z2, z3, z4⟩ := zB.put5_cells (.int .i64 1) (.slice (some ⟨wo.heap.size, 0, none⟩) 256 256) (.slice none 0 0) (.int .i64 0) (.int .i64 0)
            go_wp2_with fail
            refine bodyPost_ret (v := .agg #[.int .i64 1, .slice (some ⟨wo.heap.size, 0, none⟩) 256 256, .slice none 0 0, .int .i64 0, .int .i64 0]) (by simp [results, Tryz.results113, go_sem, z0, z1, z2, z3, z4]) rfl ?_
            exact Or.inr ⟨_, [.int .i64 1, .slice (some ⟨wo.heap.size, 0, none⟩) 256 256, .slice none 0 0, .int .i64 0, .int .i64 0], HBAD.out, rfl, ⟨_, _, _, _, _, _, _, _, _, rfl⟩, zR.put5 (by omega) _ _ _ _ _, zK.put5 (Or.inr (Nat.le_refl _)) _ _ _ _ _⟩
  · have hno' : Munch.hasAt s i 94 = false := by simpa using hno
    obtain ⟨I0, hI0⟩ : ∃ I0, I0 = i := ⟨_, rfl⟩
    obtain ⟨NO, hNO⟩ : ∃ NO, NO = false := ⟨_, rfl⟩
    have HR0 : Hid (Munch.setR s n i = (Munch.spans s n I0 []).bind fun x => .ok (.set NO x.1, x.2)) := by unfold Munch.setR; rw [hno', hI0, hNO]; rfl
    have HOUT : Hid (Munch.spans s n I0 [] ≠ .out) := fun h => hout (by rw [HR0.out, h]; rfl)
    rw [hno']
    have HI0 : Hid _ := hI0
    have HNO : Hid _ := hNO
    clear hno hno' hout hI0
    go_wp2_with fail
    go_loopg [] n (fun k wr => SpansInv R s bad deep opn w.heap.size w (Munch.spans s n I0 []) k wr)
    case atStart =>
      refine ⟨?_, ?_, Or.inl ⟨I0, [], rfl, ?_, ?_⟩⟩
      · exact hB0.alloc _
      · exact hK0.alloc _
      · rw [HI0.out]; exact hr0.alloc _
      · have := Blk.new ((w.alloc (.cells zero5 57)).drewN n1) (boolArr (inSpans [])) 4
        rw [show ((w.alloc (.cells zero5 57)).drewN n1).heap.size = w.heap.size + 1 from size_alloc _ _] at this
        exact this
    case round =>
      obtain ⟨hBr, hKr, hcase⟩ := hrel
      have hszr := hKr.size
      have hBl := hBr.lt
      rcases hcase with ⟨j, acc, hsp, hrr, hgr⟩ | ⟨p, f, hR, hrr, hgr⟩
      · obtain ⟨k, rfl⟩ : ∃ k, gk = k + 1 := by
          cases gk with
          | zero => exact absurd hsp.symm HOUT.out
          | succ k => exact ⟨k, rfl⟩
        have p2 := hrr.c2
        go_wp2_with fail
        refine (here_ok R s j bad deep opn 93 _ hrr hb).mono ?_
        rintro e w2 ⟨rfl, n2, rfl⟩
        by_cases h93 : Munch.hasAt s j 93 = true
        · have hj := Munch.hasAt_true _ _ _ h93
          have HOK : Hid (Munch.setR s n i = .ok (.set NO acc, j + 1)) := by rw [HR0.out, ← hsp, Munch.spans, if_pos h93]; rfl
          rw [h93]
          clear h93 hsp
          have p1 := hrr.c1
          have pf := hrr.fr 1
          obtain ⟨wo, rfl⟩ : ∃ wo : World, wo = wr := ⟨_, rfl⟩
          have hgl := hgr.lt
          go_wp2_with fail
          go_loopw [6] (fun c wz => ∃ q : Nat, q ≤ 256 ∧ c = .int .i64 q ∧ Blk wz w.heap.size 57 zero5 ∧ Blk wz (w.heap.size + 1) 4 (boolArr (inSpans acc)) ∧ Blk wz wo.heap.size 4 (boolArr fun x => decide (x < q) && inSpans acc x) ∧ Rd wz R s ((j + 1 : Nat) : Int) bad deep opn ∧ Kept R w wz) (fun c _ => 256 - (intOf c).toNat)
          case atStart =>
            refine ⟨0, by omega, rfl, ?_, ?_, ?_, ?_, ?_⟩
            · exact ((hBr.drewN _).setOther (by simp; omega) _).alloc _
            · exact ((hgr.drewN _).setOther (by simp; omega) _).alloc _
            · have := Blk.new ((wo.drewN n2).setCell ⟨R, 1, none⟩ (.int .i64 (j + 1))) (boolArr fun _ => false) 4
              rw [size_setCell] at this
              rw [boolArr_congr (g := fun _ => false) (fun x _ => copy_none (fun x => inSpans acc x) x)]
              exact this
            · exact (((hrr.drewN _).set1 _).at_ (by omega) rfl).alloc _
            · exact ((hKr.drewN _).setR _ _).alloc _
          case round =>
            obtain ⟨q, hq, rfl, zB, zI, zO, zR, zK⟩ := hrel
            by_cases hlt : q < 256
            · have y0 := (zI.cell q).trans (boolArr_at _ q hlt)
              have y1 := (zO.cell q).trans (boolArr_at _ q hlt)
              have y2 := zO.frozen q
              have hb2 := zO.set q (.bool (inSpans acc q))
              rw [boolArr_set, boolArr_congr (g := fun x => decide (x < q + 1) && inSpans acc x) (fun x _ => copy_step (fun x => inSpans acc x) q x)] at hb2
              have HB : Hid _ := hb2; clear hb2
              go_wp2_with fail
              go_roundw
              case rel => exact ⟨q + 1, by omega, by go_num, zB.setOther (by simp; omega) _, zI.setOther (by simp; omega) _, HB.out, zR.other (by simp; omega) _, zK.setCell (Or.inr (by simp; omega)) _⟩
              case measure => simp [intOf] <;> omega
            · obtain rfl : q = 256 := by omega
              obtain ⟨c0, c1, c2, c3, c4⟩ := zB.cells5
              have f0 := zB.frozen 0
              have f1 := zB.frozen 1
              have f2 := zB.frozen 2
              have f3 := zB.frozen 3
              have f4 := zB.frozen 4
              obtain ⟨z0, z1, z2, z3, z4⟩ := zB.put5_cells (.int .i64 1) (.slice (some ⟨wo.heap.size, 0, none⟩) 256 256) (.slice none 0 0) (.int .i64 0) (.int .i64 0)
              go_wp2_with fail
              refine bodyPost_ret (v := .agg #[.int .i64 1, .slice (some ⟨wo.heap.size, 0, none⟩) 256 256, .slice none 0 0, .int .i64 0, .int .i64 0]) (by simp [results, Tryz.results113, go_sem, z0, z1, z2, z3, z4]) rfl ?_
              refine Or.inl ⟨_, _, [.int .i64 1, .slice (some ⟨wo.heap.size, 0, none⟩) 256 256, .slice none 0 0, .int .i64 0, .int .i64 0], HOK.out, rfl, ?_, ?_, ?_⟩
              · refine NodeIn.set NO acc wo.heap.size (by omega) ?_
                rw [HNO.out, boolArr_congr (f := memV false acc) (g := fun x => decide (x < 256) && inSpans acc x) (fun x hx => by simp [memV, hx])]
                exact (put5_other _ _ _ _ _ _ (by omega)).trans zO
              · exact zR.put5 (by omega) _ _ _ _ _
              · exact zK.put5 (Or.inr (Nat.le_refl _)) _ _ _ _ _
        · have h93' : Munch.hasAt s j 93 = false := by simpa using h93
          have hst : Munch.spans s n I0 [] = (Munch.span s j).bind fun x => Munch.spans s k x.2 (acc ++ [x.1]) := by rw [← hsp, Munch.spans, if_neg h93]
          have HST : Hid _ := hst; clear hst
          rw [h93']
          clear h93 h93' hsp
          go_wp2_with fail
          refine (refSpan_any R s j bad deep opn (w.heap.size + 1) (inSpans acc) _ (hrr.drewN _) hb hs (hgr.drewN _) (by omega)).mono ?_
          rintro e w3 (⟨x, j2, hx, rfl, hr3, hg3, hk3⟩ | ⟨p, hp, rfl, hr3, hg3, hk3⟩)
          · have HX : Hid _ := hx; clear hx
            go_wp2_with fail
            go_roundg k
            case measure => omega
            case rel => exact ⟨(hk3.block _ hBr.lt (by omega) (by omega)).trans hBr, hk3.one (hKr.drewN _) (by omega), Or.inl ⟨j2, acc ++ [x], by rw [HST.out, HX.out]; rfl, hr3, by rw [← inSpans_snoc]; exact hg3⟩⟩
          · have HP : Hid _ := hp; clear hp
            go_wp2_with fail
            go_roundg k
            case measure => omega
            case rel => exact ⟨(hk3.block _ hBr.lt (by omega) (by omega)).trans hBr, hk3.one (hKr.drewN _) (by omega), Or.inr ⟨p, _, by rw [HST.out, HP.out]; rfl, hr3, hg3⟩⟩
      · have HBAD : Hid (Munch.setR s n i = .bad p) := by rw [HR0.out, hR]; rfl
        clear hR
        have p2 := hrr.c2
        have hd0 : ¬ ((p : Int) < 0) := by omega
        obtain ⟨wo, rfl⟩ : ∃ wo : World, wo = wr := ⟨_, rfl⟩
        have hgl := hgr.lt
        go_wp2_with fail
        go_loopw [6] (fun c wz => ∃ q : Nat, q ≤ 256 ∧ c = .int .i64 q ∧ Blk wz w.heap.size 57 zero5 ∧ Blk wz (w.heap.size + 1) 4 (boolArr f) ∧ Blk wz wo.heap.size 4 (boolArr fun x => decide (x < q) && f x) ∧ Rd wz R s ((p : Nat) : Int) ((p : Nat) : Int) deep opn ∧ Kept R w wz) (fun c _ => 256 - (intOf c).toNat)
        case atStart =>
          refine ⟨0, by omega, rfl, ?_, ?_, ?_, ?_, ?_⟩
          · exact hBr.alloc _
          · exact hgr.alloc _
          · have := Blk.new wo (boolArr fun _ => false) 4
            rw [boolArr_congr (g := fun _ => false) (fun x _ => copy_none (fun x => f x) x)]
            exact this
          · exact hrr.alloc _
          · exact hKr.alloc _
        case round =>
          obtain ⟨q, hq, rfl, zB, zI, zO, zR, zK⟩ := hrel
          by_cases hlt : q < 256
          · have y0 := (zI.cell q).trans (boolArr_at _ q hlt)
            have y1 := (zO.cell q).trans (boolArr_at _ q hlt)
            have y2 := zO.frozen q
            have hb2 := zO.set q (.bool (f q))
            rw [boolArr_set, boolArr_congr (g := fun x => decide (x < q + 1) && f x) (fun x _ => copy_step (fun x => f x) q x)] at hb2
            have HB : Hid _ := hb2; clear hb2
            go_wp2_with fail
            go_roundw
            case rel => exact ⟨q + 1, by omega, by go_num, zB.setOther (by simp; omega) _, zI.setOther (by simp; omega) _, HB.out, zR.other (by simp; omega) _, zK.setCell (Or.inr (by simp; omega)) _⟩
            case measure => simp [intOf] <;> omega
          · obtain rfl : q = 256 := by omega
            obtain ⟨c0, c1, c2, c3, c4⟩ := zB.cells5
            have f0 := zB.frozen 0
            have f1 := zB.frozen 1
            have f2 := zB.frozen 2
            have f3 := zB.frozen 3
            have f4 := zB.frozen 4
            obtain ⟨z0, z1, z2, z3, z4⟩ := zB.put5_cells (.int .i64 1) (.slice (some ⟨wo.heap.size, 0, none⟩) 256 256) (.slice none 0 0) (.int .i64 0) (.int .i64 0)
            go_wp2_with fail
            refine bodyPost_ret (v := .agg #[.int .i64 1, .slice (some ⟨wo.heap.size, 0, none⟩) 256 256, .slice none 0 0, .int .i64 0, .int .i64 0]) (by simp [results, Tryz.results113, go_sem, z0, z1, z2, z3, z4]) rfl ?_
            exact Or.inr ⟨_, [.int .i64 1, .slice (some ⟨wo.heap.size, 0, none⟩) 256 256, .slice none 0 0, .int .i64 0, .int .i64 0], HBAD.out, rfl, ⟨_, _, _, _, _, _, _, _, _, rfl⟩, zR.put5 (by omega) _ _ _ _ _, zK.put5 (Or.inr (Nat.le_refl _)) _ _ _ _ _⟩
end Go.Proofs.YtkoaeojdlanolaaGreatDoor
