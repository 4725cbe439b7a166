import Derived.Test.YtkoaeojdlanolaaGreatDoorCc03
import Derived.Sort.Grow
import Derived.Deep.RegionWith
import Derived.Deep.RegionLaw
import Derived.Deep.AppendLies
import Derived.Laws.EntriesVeiled
/-
  TREES IN MEMORY.
-/
namespace Go.Proofs.YtkoaeojdlanolaaGreatDoor
open Go.RowKit
open Munch (Words Wempty Wbytes Wcat Wany Wall Wnot KeyF Times numText)

/-- A tree: its value, its key, its words, and a bound of its size. -/
structure Tr where
  v : Value
  k : List UInt8
  L : Words
  n : Nat

/-- The slice holds the trees. -/
def Held (w : World) (ok : Nat → Prop) (sv : Value) (ts : List Tr) : Prop := ∃ base, w.ownsRow base 72 1 sv ts.length (ts.map (·.v)) ∧ ∀ g, sv.ownBlock = some g → ok g

/-- A key's bytes as a string. -/
def IsKey (key : ByteArray) (k : List UInt8) : Prop := key.data.toList = k

def TreeF (w : World) (ok : Nat → Prop) : Nat → Tr → Prop
  | 0, _ => False
  | d + 1, t =>
    (t.v = .iface 200 (.agg #[]) ∧ t.k = [40, 41] ∧ t.L = Wempty ∧ 1 ≤ t.n) ∨
    (∃ (S : Nat → Bool) (f : Value) (key : ByteArray), t.v = .iface 181 (.agg #[f, .string key]) ∧ IsKey key t.k ∧ SetOk w ok f S ∧ t.k = 91 :: (setText S ++ [93]) ∧ (∃ c, c < 256 ∧ S c = true) ∧ t.L = Wbytes S ∧ 1 ≤ t.n) ∨
    (∃ (a b : Tr) (key : ByteArray), t.v = .iface 223 (.agg #[a.v, b.v, .string key]) ∧ IsKey key t.k ∧ TreeF w ok d a ∧ TreeF w ok d b ∧ t.k = 40 :: (a.k ++ (b.k ++ [41])) ∧ t.L = Wcat a.L b.L ∧ a.n + b.n ≤ t.n) ∨
    (∃ (ts : List Tr) (sv : Value) (key : ByteArray), t.v = .iface 186 (.agg #[sv, .string key]) ∧ IsKey key t.k ∧ Held w ok sv ts ∧ (∀ x ∈ ts, TreeF w ok d x) ∧ t.k = 60 :: ((ts.map (·.k)).flatten ++ [62]) ∧ t.L = Wany (ts.map (·.L)) ∧ (ts.map (·.n)).sum ≤ t.n ∧ 1 ≤ t.n ∧ ts.length ≠ 1) ∨
    (∃ (ts : List Tr) (sv : Value) (key : ByteArray), t.v = .iface 140 (.agg #[sv, .string key]) ∧ IsKey key t.k ∧ Held w ok sv ts ∧ (∀ x ∈ ts, TreeF w ok d x) ∧ t.k = 38 :: 60 :: ((ts.map (·.k)).flatten ++ [62]) ∧ t.L = Wall (ts.map (·.L)) ∧ (ts.map (·.n)).sum ≤ t.n ∧ 1 ≤ t.n ∧ ts.length ≠ 1) ∨
    (∃ (b : Tr) (lo hi : Int) (key : ByteArray), t.v = .iface 170 (.agg #[b.v, .int .i64 lo, .int .i64 hi, .string key]) ∧ IsKey key t.k ∧ TreeF w ok d b ∧ (0 ≤ lo ∧ lo ≤ 9 ∧ -1 ≤ hi ∧ hi ≤ 9) ∧ t.k = 123 :: (numText lo ++ (44 :: (numText hi ++ (58 :: (b.k ++ [125]))))) ∧ t.L = Times b.L lo hi ∧ (b.L [] → lo = 0) ∧ b.n + 1 ≤ t.n) ∨
    (∃ (b : Tr) (key : ByteArray), t.v = .iface 172 (.agg #[b.v, .string key]) ∧ IsKey key t.k ∧ TreeF w ok d b ∧ t.k = 33 :: b.k ∧ t.L = Wnot b.L ∧ b.n + 1 ≤ t.n)

def TreeOk (w : World) (ok : Nat → Prop) (t : Tr) : Prop := ∃ d, TreeF w ok d t

theorem TreeF.up {w : World} {ok : Nat → Prop} : ∀ (d e : Nat) (t : Tr), d ≤ e → TreeF w ok d t → TreeF w ok e t := by
  intro d
  induction d with
  | zero => intro e t _ h; exact h.elim
  | succ d ih =>
    intro e t he h
    obtain ⟨e, rfl⟩ : ∃ q, e = q + 1 := ⟨e - 1, by omega⟩
    rcases h with h | h | ⟨a, b, key, h1, h2, h3, h4, h5⟩ | ⟨ts, sv, key, h1, h2, h3, h4, h5⟩ | ⟨ts, sv, key, h1, h2, h3, h4, h5⟩ | ⟨b, lo, hi, key, h1, h2, h3, h4⟩ | ⟨b, key, h1, h2, h3, h4⟩
    · exact Or.inl h
    · exact Or.inr (Or.inl h)
    · exact Or.inr (Or.inr (Or.inl ⟨a, b, key, h1, h2, ih e a (by omega) h3, ih e b (by omega) h4, h5⟩))
    · exact Or.inr (Or.inr (Or.inr (Or.inl ⟨ts, sv, key, h1, h2, h3, fun x hx => ih e x (by omega) (h4 x hx), h5⟩)))
    · exact Or.inr (Or.inr (Or.inr (Or.inr (Or.inl ⟨ts, sv, key, h1, h2, h3, fun x hx => ih e x (by omega) (h4 x hx), h5⟩))))
    · exact Or.inr (Or.inr (Or.inr (Or.inr (Or.inr (Or.inl ⟨b, lo, hi, key, h1, h2, ih e b (by omega) h3, h4⟩)))))
    · exact Or.inr (Or.inr (Or.inr (Or.inr (Or.inr (Or.inr ⟨b, key, h1, h2, ih e b (by omega) h3, h4⟩)))))

theorem Held.keep {w w' : World} {ok : Nat → Prop} {sv : Value} {ts : List Tr} (h : Held w ok sv ts) (hb : Keeps ok w w') : Held w' ok sv ts := by
  obtain ⟨base, h, h'⟩ := h; exact ⟨base, ownsRow_keeps h hb h', h'⟩
theorem Held.mono {w : World} {ok ok' : Nat → Prop} {sv : Value} {ts : List Tr} (h : Held w ok sv ts) (hm : ∀ b, b < w.heap.size → ok b → ok' b) : Held w ok' sv ts := by
  obtain ⟨base, h, h'⟩ := h; exact ⟨base, h, fun g hg => hm g (h.lt g hg).2 (h' g hg)⟩

theorem TreeF.keep {w w' : World} {ok : Nat → Prop} (hb : Keeps ok w w') : ∀ (d : Nat) (t : Tr), TreeF w ok d t → TreeF w' ok d t := by
  intro d
  induction d with
  | zero => intro t h; exact h.elim
  | succ d ih =>
    intro t h
    rcases h with h | ⟨S, f, key, h1, h2, h3, h4⟩ | ⟨a, b, key, h1, h2, h3, h4, h5⟩ | ⟨ts, sv, key, h1, h2, h3, h4, h5⟩ | ⟨ts, sv, key, h1, h2, h3, h4, h5⟩ | ⟨b, lo, hi, key, h1, h2, h3, h4⟩ | ⟨b, key, h1, h2, h3, h4⟩
    · exact Or.inl h
    · exact Or.inr (Or.inl ⟨S, f, key, h1, h2, h3.keep hb, h4⟩)
    · exact Or.inr (Or.inr (Or.inl ⟨a, b, key, h1, h2, ih a h3, ih b h4, h5⟩))
    · exact Or.inr (Or.inr (Or.inr (Or.inl ⟨ts, sv, key, h1, h2, h3.keep hb, fun x hx => ih x (h4 x hx), h5⟩)))
    · exact Or.inr (Or.inr (Or.inr (Or.inr (Or.inl ⟨ts, sv, key, h1, h2, h3.keep hb, fun x hx => ih x (h4 x hx), h5⟩))))
    · exact Or.inr (Or.inr (Or.inr (Or.inr (Or.inr (Or.inl ⟨b, lo, hi, key, h1, h2, ih b h3, h4⟩)))))
    · exact Or.inr (Or.inr (Or.inr (Or.inr (Or.inr (Or.inr ⟨b, key, h1, h2, ih b h3, h4⟩)))))
theorem TreeF.mono {w : World} {ok ok' : Nat → Prop} (hb : ∀ b, b < w.heap.size → ok b → ok' b) : ∀ (d : Nat) (t : Tr), TreeF w ok d t → TreeF w ok' d t := by
  intro d
  induction d with
  | zero => intro t h; exact h.elim
  | succ d ih =>
    intro t h
    rcases h with h | ⟨S, f, key, h1, h2, h3, h4⟩ | ⟨a, b, key, h1, h2, h3, h4, h5⟩ | ⟨ts, sv, key, h1, h2, h3, h4, h5⟩ | ⟨ts, sv, key, h1, h2, h3, h4, h5⟩ | ⟨b, lo, hi, key, h1, h2, h3, h4⟩ | ⟨b, key, h1, h2, h3, h4⟩
    · exact Or.inl h
    · exact Or.inr (Or.inl ⟨S, f, key, h1, h2, h3.mono hb, h4⟩)
    · exact Or.inr (Or.inr (Or.inl ⟨a, b, key, h1, h2, ih a h3, ih b h4, h5⟩))
    · exact Or.inr (Or.inr (Or.inr (Or.inl ⟨ts, sv, key, h1, h2, h3.mono hb, fun x hx => ih x (h4 x hx), h5⟩)))
    · exact Or.inr (Or.inr (Or.inr (Or.inr (Or.inl ⟨ts, sv, key, h1, h2, h3.mono hb, fun x hx => ih x (h4 x hx), h5⟩))))
    · exact Or.inr (Or.inr (Or.inr (Or.inr (Or.inr (Or.inl ⟨b, lo, hi, key, h1, h2, ih b h3, h4⟩)))))
    · exact Or.inr (Or.inr (Or.inr (Or.inr (Or.inr (Or.inr ⟨b, key, h1, h2, ih b h3, h4⟩)))))
theorem TreeOk.keep {w w' : World} {ok : Nat → Prop} {t : Tr} (h : TreeOk w ok t) (hb : Keeps ok w w') : TreeOk w' ok t := by
  obtain ⟨d, h⟩ := h; exact ⟨d, TreeF.keep hb d t h⟩
theorem TreeOk.mono {w : World} {ok ok' : Nat → Prop} {t : Tr} (h : TreeOk w ok t) (hm : ∀ b, b < w.heap.size → ok b → ok' b) : TreeOk w ok' t := by
  obtain ⟨d, h⟩ := h; exact ⟨d, TreeF.mono hm d t h⟩

/-- So many trees have one depth. -/
theorem TreeOk.deep {w : World} {ok : Nat → Prop} : ∀ (ts : List Tr), (∀ x ∈ ts, TreeOk w ok x) → ∃ d, ∀ x ∈ ts, TreeF w ok d x := by
  intro ts
  induction ts with
  | nil => intro _; exact ⟨0, fun x hx => by cases hx⟩
  | cons t r ih =>
    intro h
    obtain ⟨d, hd⟩ := ih (fun x hx => h x (by simp [hx]))
    obtain ⟨e, he⟩ := h t (by simp)
    refine ⟨max d e, fun x hx => ?_⟩
    rcases List.mem_cons.1 hx with rfl | hx
    · exact he.up _ _ _ (by omega)
    · exact (hd x hx).up _ _ _ (by omega)

theorem TreeF.keyF {w : World} {ok : Nat → Prop} : ∀ (d : Nat) (t : Tr), TreeF w ok d t → KeyF setText numText d t.k t.L := by
  intro d
  induction d with
  | zero => intro t h; exact h.elim
  | succ d ih =>
    intro t h
    rcases h with ⟨_, h2, h3, _⟩ | ⟨S, f, key, _, _, _, h4, _, h6, _⟩ | ⟨a, b, key, _, _, h3, h4, h5, h6, _⟩ | ⟨ts, sv, key, _, _, _, h4, h5, h6, _⟩ | ⟨ts, sv, key, _, _, _, h4, h5, h6, _⟩ | ⟨b, lo, hi, key, _, _, h3, h4, h5, h6, _⟩ | ⟨b, key, _, _, h3, h4, h5, _⟩
    · exact Or.inl ⟨h2, h3⟩
    · exact Or.inr (Or.inl ⟨S, h4, h6⟩)
    · exact Or.inr (Or.inr (Or.inl ⟨a.k, b.k, a.L, b.L, ih a h3, ih b h4, h5, h6⟩))
    · refine Or.inr (Or.inr (Or.inr (Or.inl ⟨ts.map fun x => (x.k, x.L), ?_, ?_, ?_⟩)))
      · intro x hx; obtain ⟨y, hy, rfl⟩ := List.mem_map.1 hx; exact ih y (h4 y hy)
      · rw [h5]; simp [Function.comp_def]
      · rw [h6]; simp [Function.comp_def]
    · refine Or.inr (Or.inr (Or.inr (Or.inr (Or.inl ⟨ts.map fun x => (x.k, x.L), ?_, ?_, ?_⟩))))
      · intro x hx; obtain ⟨y, hy, rfl⟩ := List.mem_map.1 hx; exact ih y (h4 y hy)
      · rw [h5]; simp [Function.comp_def]
      · rw [h6]; simp [Function.comp_def]
    · exact Or.inr (Or.inr (Or.inr (Or.inr (Or.inr (Or.inl ⟨b.k, b.L, lo, hi, ih b h3, ⟨by omega, h4.2.1, h4.2.2.1, h4.2.2.2⟩, h5, h6⟩)))))
    · exact Or.inr (Or.inr (Or.inr (Or.inr (Or.inr (Or.inr ⟨b.k, b.L, ih b h3, h4, h5⟩)))))

/-- Trees with the same key have the same words. -/
theorem TreeOk.same {w w' : World} {ok ok' : Nat → Prop} {t u : Tr} (h : TreeOk w ok t) (h' : TreeOk w' ok' u) (hk : t.k = u.k) : t.L = u.L := by
  obtain ⟨d, h⟩ := h
  obtain ⟨e, h'⟩ := h'
  exact (KeyF.same clear_texts d e t.k u.k t.L u.L [] [] (h.keyF d t) (h'.keyF e u) (by rw [hk])).1

theorem setText_len (S : Nat → Bool) : (setText S).length ≤ 1600 := by
  have h := joinText_len (Munch.spansFrom S 0)
  have : (Munch.spansFrom S 0).length ≤ 256 := by
    have : ∀ (k f : Nat), (Munch.spansF S k f).length ≤ k := by
      intro k
      induction k with
      | zero => intro f; simp [Munch.spansF]
      | succ k ih =>
        intro f
        rw [Munch.spansF]
        split
        · split
          · have := ih (Munch.runTo S f + 1); simp; omega
          · have := ih (f + 1); omega
        · simp
    exact this 256 0
  unfold setText
  omega
theorem numText_len (n : Int) : (numText n).length ≤ 2 := by unfold numText; split <;> simp

theorem flat_len (ts : List Tr) (h : ∀ x ∈ ts, x.k.length + 10 ≤ 2000 * x.n) : (ts.map (·.k)).flatten.length + 10 * ts.length ≤ 2000 * (ts.map (·.n)).sum := by
  induction ts with
  | nil => simp
  | cons t r ih =>
    have h1 := ih (fun x hx => h x (by simp [hx]))
    have h2 := h t (by simp)
    simp only [List.map_cons, List.flatten_cons, List.length_append, List.length_cons, List.sum_cons] at h1 ⊢
    omega
theorem TreeF.len {w : World} {ok : Nat → Prop} : ∀ (d : Nat) (t : Tr), TreeF w ok d t → t.k.length + 10 ≤ 2000 * t.n := by
  intro d
  induction d with
  | zero => intro t h; exact h.elim
  | succ d ih =>
    intro t h
    rcases h with ⟨_, h2, _, h4⟩ | ⟨S, f, key, _, _, _, h4, _, _, h7⟩ | ⟨a, b, key, _, _, h3, h4, h5, _, h7⟩ | ⟨ts, sv, key, _, _, _, h4, h5, _, h7, h8, h9⟩ | ⟨ts, sv, key, _, _, _, h4, h5, _, h7, h8, h9⟩ | ⟨b, lo, hi, key, _, _, h3, _, h5, _, _, h8⟩ | ⟨b, key, _, _, h3, h4, _, h6⟩
    · rw [h2]; simp; omega
    · have := setText_len S; rw [h4]; simp; omega
    · have h1 := ih a h3
      have h2 := ih b h4
      rw [h5]; simp; omega
    · have hf := flat_len ts (fun x hx => ih x (h4 x hx))
      rw [h5]; simp only [List.length_cons, List.length_append, List.length_nil]
      by_cases h0 : ts.length = 0
      · have : ts = [] := List.eq_nil_of_length_eq_zero h0
        subst this; simp; omega
      · omega
    · have hf := flat_len ts (fun x hx => ih x (h4 x hx))
      rw [h5]; simp only [List.length_cons, List.length_append, List.length_nil]
      by_cases h0 : ts.length = 0
      · have : ts = [] := List.eq_nil_of_length_eq_zero h0
        subst this; simp; omega
      · omega
    · have h1 := ih b h3
      have h2 := numText_len lo
      have h4 := numText_len hi
      rw [h5]; simp; omega
    · have h1 := ih b h3
      rw [h4]; simp; omega
theorem TreeOk.len {w : World} {ok : Nat → Prop} {t : Tr} (h : TreeOk w ok t) : t.k.length + 10 ≤ 2000 * t.n := by obtain ⟨d, h⟩ := h; exact h.len d t

/-- A value of an interface whose method Key answers k, in every world. -/
def Keyed (v : Value) (k : List UInt8) : Prop :=
  ∃ (T : TypeId) (p : Value) (f : FuncId) (key : ByteArray), v = .iface T p ∧ IsKey key k ∧ (∀ w, (method 374 T p "Key").run Tryz.prog w = .ok (f, p) w) ∧ Enters f ∧
    ∀ w, Calls Tryz.prog f #[p] w fun e w' => e = .returned (.string key) ∧ ∃ os, w' = Sort.grow w os

theorem below_grows {w : World} (os : Array Obj) : Below w.heap.size w (Sort.grow w os) := by
  refine ⟨rfl, rfl, rfl, by simp [Sort.grow], fun k hk => ?_⟩
  simp [Sort.grow, Array.getElem?_append, hk]
theorem Keyed.call {v : Value} {k : List UInt8} (h : Keyed v k) : ∃ (T : TypeId) (p : Value) (f : FuncId) (key : ByteArray), v = .iface T p ∧ IsKey key k ∧ (∀ w, (method 374 T p "Key").run Tryz.prog w = .ok (f, p) w) ∧ Enters f ∧
    ∀ w, Calls Tryz.prog f #[p] w fun e w' => e = .returned (.string key) ∧ Below w.heap.size w w' := by
  obtain ⟨T, p, f, key, h1, h2, h3, h4, h5⟩ := h
  refine ⟨T, p, f, key, h1, h2, h3, h4, fun w => (h5 w).mono ?_⟩
  rintro e w' ⟨rfl, os, rfl⟩
  exact ⟨rfl, below_grows os⟩

theorem keyM_empty : ∀ (p : Value) (w : World), (method 374 200 p "Key").run Tryz.prog w = .ok (227, p) w := fun _ _ => by kernel_rfl
theorem keyM_byte : ∀ (p : Value) (w : World), (method 374 181 p "Key").run Tryz.prog w = .ok (218, p) w := fun _ _ => by kernel_rfl
theorem keyM_row : ∀ (p : Value) (w : World), (method 374 223 p "Key").run Tryz.prog w = .ok (231, p) w := fun _ _ => by kernel_rfl
theorem keyM_choice : ∀ (p : Value) (w : World), (method 374 186 p "Key").run Tryz.prog w = .ok (222, p) w := fun _ _ => by kernel_rfl
theorem keyM_meet : ∀ (p : Value) (w : World), (method 374 140 p "Key").run Tryz.prog w = .ok (204, p) w := fun _ _ => by kernel_rfl
theorem keyM_repeat : ∀ (p : Value) (w : World), (method 374 170 p "Key").run Tryz.prog w = .ok (209, p) w := fun _ _ => by kernel_rfl
theorem keyM_not : ∀ (p : Value) (w : World), (method 374 172 p "Key").run Tryz.prog w = .ok (214, p) w := fun _ _ => by kernel_rfl

set_option maxRecDepth 100000 in
theorem key_empty (w : World) : Calls Tryz.prog 227 #[.agg #[]] w fun e w' => e = .returned (.string ⟨#[40, 41]⟩) ∧ ∃ os, w' = Sort.grow w os := by
  go_enter Tryz.func227, Tryz.ntmps227
  go_wp2_with fail
  go_ret
  exact ⟨rfl, by first | exact ⟨#[], (Sort.grow_empty _).symm⟩ | exact ⟨_, Sort.alloc_eq_grow _ _⟩⟩
set_option maxRecDepth 100000 in
theorem key_byte (f : Value) (key : ByteArray) (w : World) : Calls Tryz.prog 218 #[.agg #[f, .string key]] w fun e w' => e = .returned (.string key) ∧ ∃ os, w' = Sort.grow w os := by
  go_enter Tryz.func218, Tryz.ntmps218
  go_wp2_with fail
  go_ret
  exact ⟨rfl, by first | exact ⟨#[], (Sort.grow_empty _).symm⟩ | exact ⟨_, Sort.alloc_eq_grow _ _⟩⟩
set_option maxRecDepth 100000 in
theorem key_row (a b : Value) (key : ByteArray) (w : World) : Calls Tryz.prog 231 #[.agg #[a, b, .string key]] w fun e w' => e = .returned (.string key) ∧ ∃ os, w' = Sort.grow w os := by
  go_enter Tryz.func231, Tryz.ntmps231
  go_wp2_with fail
  go_ret
  exact ⟨rfl, by first | exact ⟨#[], (Sort.grow_empty _).symm⟩ | exact ⟨_, Sort.alloc_eq_grow _ _⟩⟩
set_option maxRecDepth 100000 in
theorem key_choice (sv : Value) (key : ByteArray) (w : World) : Calls Tryz.prog 222 #[.agg #[sv, .string key]] w fun e w' => e = .returned (.string key) ∧ ∃ os, w' = Sort.grow w os := by
  go_enter Tryz.func222, Tryz.ntmps222
  go_wp2_with fail
  go_ret
  exact ⟨rfl, by first | exact ⟨#[], (Sort.grow_empty _).symm⟩ | exact ⟨_, Sort.alloc_eq_grow _ _⟩⟩
set_option maxRecDepth 100000 in
theorem key_meet (sv : Value) (key : ByteArray) (w : World) : Calls Tryz.prog 204 #[.agg #[sv, .string key]] w fun e w' => e = .returned (.string key) ∧ ∃ os, w' = Sort.grow w os := by
  go_enter Tryz.func204, Tryz.ntmps204
  go_wp2_with fail
  go_ret
  exact ⟨rfl, by first | exact ⟨#[], (Sort.grow_empty _).symm⟩ | exact ⟨_, Sort.alloc_eq_grow _ _⟩⟩
set_option maxRecDepth 100000 in
theorem key_repeat (b : Value) (lo hi : Int) (key : ByteArray) (w : World) : Calls Tryz.prog 209 #[.agg #[b, .int .i64 lo, .int .i64 hi, .string key]] w fun e w' => e = .returned (.string key) ∧ ∃ os, w' = Sort.grow w os := by
  go_enter Tryz.func209, Tryz.ntmps209
  go_wp2_with fail
  go_ret
  exact ⟨rfl, by first | exact ⟨#[], (Sort.grow_empty _).symm⟩ | exact ⟨_, Sort.alloc_eq_grow _ _⟩⟩
set_option maxRecDepth 100000 in
theorem key_not (b : Value) (key : ByteArray) (w : World) : Calls Tryz.prog 214 #[.agg #[b, .string key]] w fun e w' => e = .returned (.string key) ∧ ∃ os, w' = Sort.grow w os := by
  go_enter Tryz.func214, Tryz.ntmps214
  go_wp2_with fail
  go_ret
  exact ⟨rfl, by first | exact ⟨#[], (Sort.grow_empty _).symm⟩ | exact ⟨_, Sort.alloc_eq_grow _ _⟩⟩
theorem keyE_empty : Enters 227 := enters_of Tryz.func227 (by kernel_rfl) (by kernel_rfl)
theorem keyE_byte : Enters 218 := enters_of Tryz.func218 (by kernel_rfl) (by kernel_rfl)
theorem keyE_row : Enters 231 := enters_of Tryz.func231 (by kernel_rfl) (by kernel_rfl)
theorem keyE_choice : Enters 222 := enters_of Tryz.func222 (by kernel_rfl) (by kernel_rfl)
theorem keyE_meet : Enters 204 := enters_of Tryz.func204 (by kernel_rfl) (by kernel_rfl)
theorem keyE_repeat : Enters 209 := enters_of Tryz.func209 (by kernel_rfl) (by kernel_rfl)
theorem keyE_not : Enters 214 := enters_of Tryz.func214 (by kernel_rfl) (by kernel_rfl)

theorem TreeOk.keyed {w : World} {ok : Nat → Prop} {t : Tr} (h : TreeOk w ok t) : Keyed t.v t.k := by
  obtain ⟨d, h⟩ := h
  cases d with
  | zero => exact h.elim
  | succ d =>
    rcases h with ⟨h1, h2, _⟩ | ⟨S, f, key, h1, h2, _⟩ | ⟨a, b, key, h1, h2, _⟩ | ⟨ts, sv, key, h1, h2, _⟩ | ⟨ts, sv, key, h1, h2, _⟩ | ⟨b, lo, hi, key, h1, h2, _⟩ | ⟨b, key, h1, h2, _⟩
    · exact ⟨_, _, _, ⟨#[40, 41]⟩, h1, by rw [h2]; rfl, keyM_empty _, keyE_empty, key_empty⟩
    · exact ⟨_, _, _, key, h1, h2, keyM_byte _, keyE_byte, key_byte _ _⟩
    · exact ⟨_, _, _, key, h1, h2, keyM_row _, keyE_row, key_row _ _ _⟩
    · exact ⟨_, _, _, key, h1, h2, keyM_choice _, keyE_choice, key_choice _ _⟩
    · exact ⟨_, _, _, key, h1, h2, keyM_meet _, keyE_meet, key_meet _ _⟩
    · exact ⟨_, _, _, key, h1, h2, keyM_repeat _, keyE_repeat, key_repeat _ _ _ _⟩
    · exact ⟨_, _, _, key, h1, h2, keyM_not _, keyE_not, key_not _ _⟩
end Go.Proofs.YtkoaeojdlanolaaGreatDoor
/-
  tree.has: slices.ContainsFunc, IndexFunc over trees.
-/
namespace Go.Proofs.YtkoaeojdlanolaaGreatDoor
open Go.RowKit

/-- A slice of trees. -/
structure TreesOk (w : World) (ok : Nat → Prop) (sv : Value) (ts : List Tr) : Prop where
  held : Held w ok sv ts
  trees : ∀ x ∈ ts, TreeOk w ok x
theorem TreesOk.keep {w w' : World} {ok : Nat → Prop} {sv : Value} {ts : List Tr} (h : TreesOk w ok sv ts) (hb : Keeps ok w w') : TreesOk w' ok sv ts := ⟨h.held.keep hb, fun x hx => (h.trees x hx).keep hb⟩
theorem TreesOk.mono {w : World} {ok ok' : Nat → Prop} {sv : Value} {ts : List Tr} (h : TreesOk w ok sv ts) (hm : ∀ b, b < w.heap.size → ok b → ok' b) : TreesOk w ok' sv ts := ⟨h.held.mono hm, fun x hx => (h.trees x hx).mono hm⟩
theorem Held.shape {w : World} {ok : Nat → Prop} {sv : Value} {ts : List Tr} (h : Held w ok sv ts) : ∃ ao cap, sv = .slice ao ts.length cap ∧ ts.length ≤ 9223372036854775807 := by
  obtain ⟨base, h1, _⟩ := h
  rcases h1.2 with ⟨hv, hn⟩ | ⟨g, cap, cur, hv, _, _, h3, h4, _⟩
  · exact ⟨none, 0, by rw [hv, hn], by omega⟩
  · exact ⟨_, _, hv, by unfold maxLen at h4; omega⟩
theorem Held.at_ {w : World} {ok : Nat → Prop} {ao : Option Addr} {n cap : Nat} {ts : List Tr} (h : Held w ok (.slice ao n cap) ts) (i : Nat) (hi : i < ts.length) : ∃ g, ao = some ⟨g, 0, none⟩ ∧ w.cell? ⟨g, i, none⟩ = some ts[i].v ∧ g < w.heap.size := by
  obtain ⟨base, h1, _⟩ := h
  rcases h1.2 with ⟨_, h0⟩ | ⟨g, cap', cur, hv, _⟩
  · omega
  · cases hv
    exact ⟨g, rfl, by rw [h1.cellAt i (by omega)]; simp [hi], (h1.lt g rfl).2⟩

/-- A function value that tells something of each of these trees, in every later world. -/
def PredIn (w : World) (fv : Value) (ts : List Tr) (P : Tr → Bool) : Prop :=
  ∃ (f : FuncId) (caps : Array Value), fv = .func (.func f) #[] caps ∧ Enters f ∧
    ∀ t ∈ ts, ∀ w', Below w.heap.size w w' → Calls Tryz.prog f (#[t.v] ++ caps) w' fun e w'' => e = .returned (.bool (P t)) ∧ Below w'.heap.size w' w''

set_option maxHeartbeats 1000000 in
set_option maxRecDepth 100000 in
theorem indexFunc_any (sv fv : Value) (ts : List Tr) (P : Tr → Bool) (w : World) {ok : Nat → Prop} (hS : Held w ok sv ts) (hf : PredIn w fv ts P) :
    Calls Tryz.prog 126 #[sv, fv] w fun e w' => ∃ i : Int, e = .returned (.int .i64 i) ∧ -1 ≤ i ∧ (0 ≤ i ↔ ts.any P = true) ∧ Below w.heap.size w w' := by
  obtain ⟨ao, cap, rfl, hmax⟩ := hS.shape
  obtain ⟨f, caps, rfl, hent, hcall⟩ := hf
  have HC : Hid _ := hcall; clear hcall
  go_enter Tryz.func126, Tryz.ntmps126
  go_wp2_with fail
  go_loopw [8] (fun i wr => ∃ k : Nat, k ≤ ts.length ∧ i = .int .i64 k ∧ Below w.heap.size w wr ∧ (ts.drop k).any P = ts.any P) (fun i _ => ts.length - (intOf i).toNat)
  case atStart => exact ⟨0, Nat.zero_le _, rfl, Below.refl _ _, rfl⟩
  case round =>
    obtain ⟨k, hk, rfl, hnx, hV⟩ := hrel
    have H : Hid _ := hV; clear hV
    by_cases hlt : k < ts.length
    · obtain ⟨g, rfl, hx, hg⟩ := hS.at_ k hlt
      have hx' : wr.cell? ⟨g, k, none⟩ = some ts[k].v := by rw [hnx.cell (p := ⟨g, k, none⟩) hg]; exact hx
      have hcl := HC.out ts[k] (List.getElem_mem hlt) wr hnx
      have HD : Hid ((ts.drop k).any P = (P ts[k] || (ts.drop (k + 1)).any P)) := by show _ = _; rw [List.drop_eq_getElem_cons hlt]; rfl
      clear hx
      have hsz := hnx.size
      cases hb : P ts[k] with
      | true =>
        rw [hb] at hcl
        go_wp2_with fail
        rw [hent, Oper.upon_enter]
        refine hcl.mono ?_
        rintro e w1 ⟨rfl, hb1⟩
        go_wp2_with fail
        go_ret
        exact ⟨_, rfl, by omega, ⟨fun _ => by rw [← H.out, HD.out, hb]; rfl, fun _ => by omega⟩, hnx.trans (hb1.mono hsz)⟩
      | false =>
        rw [hb] at hcl
        go_wp2_with fail
        rw [hent, Oper.upon_enter]
        refine hcl.mono ?_
        rintro e w1 ⟨rfl, hb1⟩
        go_wp2_with fail
        go_roundw
        case rel => exact ⟨k + 1, by omega, by go_num, hnx.trans (hb1.mono hsz), by rw [← H.out, HD.out, hb]; rfl⟩
        case measure => simp [intOf]; omega
    · obtain rfl : k = ts.length := by omega
      go_wp2_with fail
      go_ret
      exact ⟨-1, rfl, by omega, ⟨fun h => absurd h (by decide), fun h => by rw [← H.out, List.drop_of_length_le (Nat.le_refl _)] at h; cases h⟩, hnx⟩

set_option maxHeartbeats 1000000 in
set_option maxRecDepth 100000 in
theorem containsFunc_any (sv fv : Value) (ts : List Tr) (P : Tr → Bool) (w : World) {ok : Nat → Prop} (hS : Held w ok sv ts) (hf : PredIn w fv ts P) :
    Calls Tryz.prog 107 #[sv, fv] w fun e w' => e = .returned (.bool (ts.any P)) ∧ Below w.heap.size w w' := by
  have hi := indexFunc_any sv fv ts P w hS hf
  obtain ⟨ao, cap, rfl, hmax⟩ := hS.shape
  obtain ⟨f, caps, rfl, _⟩ := hf
  go_enter Tryz.func107, Tryz.ntmps107
  go_wp2_with fail
  refine hi.mono ?_
  rintro e w1 ⟨i, rfl, hge, hiff, hb1⟩
  have HI : Hid _ := hiff; clear hiff
  go_wp2_with fail
  go_ret
  refine ⟨ret_bool ?_, hb1⟩
  rw [Bool.eq_iff_iff, ← HI.out]
  simp

theorem enters_has : Enters 108 := enters_of Tryz.func108 (by kernel_rfl) (by kernel_rfl)

set_option maxHeartbeats 1000000 in
set_option maxRecDepth 100000 in
theorem has_call (v : Value) (k : List UInt8) (g : Nat) (key : ByteArray) (w : World) (hk : Keyed v k) (hc : w.cell? ⟨g, 0, none⟩ = some (.string key)) :
    Calls Tryz.prog 108 #[v, .pointer (some ⟨g, 0, none⟩)] w fun e w' => e = .returned (.bool (k == key.data.toList)) ∧ Below w.heap.size w w' := by
  obtain ⟨T, p, f, kb, rfl, hkb, hm, hent, hcall⟩ := hk.call
  have hgl := cell_lt hc
  go_enter Tryz.func108, Tryz.ntmps108
  go_wp2_with fail
  go_region_with (rw [hent, Oper.upon_enter]; refine (hcall _).mono ?_; rintro e w1 ⟨rfl, hb1⟩; have hcw : w1.cell? ⟨g, 0, none⟩ = some (.string key) := (hb1.cell (p := ⟨g, 0, none⟩) hgl).trans hc)
  all_goals
    go_wp2_with fail
    go_ret
    refine ⟨ret_bool (by rw [ByteArray.toList_eq, ByteArray.toList_eq, hkb]), ?_⟩
    first | exact hb1 | exact ((Below.refl _ _).drew).trans hb1 | exact (((Below.refl _ _).drew).drew).trans hb1 | exact hb1.drew | exact (((Below.refl _ _).drew).trans hb1).drew

set_option maxHeartbeats 1000000 in
set_option maxRecDepth 100000 in
theorem has_any (sv : Value) (ts : List Tr) (key : ByteArray) (w : World) {ok : Nat → Prop} (hS : TreesOk w ok sv ts) :
    Calls Tryz.prog 83 #[sv, .string key] w fun e w' => e = .returned (.bool (ts.any fun t => t.k == key.data.toList)) ∧ Below w.heap.size w w' := by
  obtain ⟨ao, cap, rfl, hmax⟩ := hS.held.shape
  have hb0 := (Below.refl w.heap.size w).alloc (Nat.le_refl _) (.cells #[.string key] 9)
  have k1 : Blk (w.alloc (.cells #[.string key] 9)) w.heap.size 9 #[.string key] := Blk.new _ _ _
  have hS1 := hS.keep (keeps_below hb0)
  have hc := containsFunc_any (.slice ao ts.length cap) (.func (.func 108) #[] #[.pointer (some ⟨w.heap.size, 0, none⟩)]) ts (fun t => t.k == key.data.toList) (w.alloc (.cells #[.string key] 9)) hS1.held
    ⟨_, _, rfl, enters_has, fun t ht w' hw' => has_call t.v t.k w.heap.size key w' ((hS1.trees t ht).keyed) ((k1.below hw' (by simp)).cell 0)⟩
  go_enter Tryz.func83, Tryz.ntmps83
  go_wp2_with fail
  refine hc.mono ?_
  rintro e w1 ⟨rfl, hb1⟩
  go_wp2_with fail
  go_ret
  exact ⟨rfl, hb0.trans (hb1.mono (by simp))⟩
end Go.Proofs.YtkoaeojdlanolaaGreatDoor
/-
  tree.opposed.
-/
namespace Go.Proofs.YtkoaeojdlanolaaGreatDoor
open Go.RowKit
open Munch (Words Wempty Wbytes Wcat Wany Wall Wnot KeyF Times numText)

/-- A tree is a 'not', or of another kind. -/
theorem TreeOk.notCase {w : World} {ok : Nat → Prop} {t : Tr} (h : TreeOk w ok t) :
    (∃ (b : Tr) (key : ByteArray), t.v = .iface 172 (.agg #[b.v, .string key]) ∧ IsKey key t.k ∧ TreeOk w ok b ∧ t.k = 33 :: b.k ∧ t.L = Wnot b.L ∧ b.n + 1 ≤ t.n) ∨
    ∃ T p, t.v = .iface T p ∧ (T = 200 ∨ T = 181 ∨ T = 223 ∨ T = 186 ∨ T = 140 ∨ T = 170) := by
  obtain ⟨d, h⟩ := h
  cases d with
  | zero => exact h.elim
  | succ d =>
    rcases h with ⟨h1, h2, _⟩ | ⟨S, f, key, h1, h2, _⟩ | ⟨a, b, key, h1, h2, _⟩ | ⟨ts, sv, key, h1, h2, _⟩ | ⟨ts, sv, key, h1, h2, _⟩ | ⟨b, lo, hi, key, h1, h2, _⟩ | ⟨b, key, h1, h2, h3, h4⟩
    · exact Or.inr ⟨_, _, h1, by simp⟩
    · exact Or.inr ⟨_, _, h1, by simp⟩
    · exact Or.inr ⟨_, _, h1, by simp⟩
    · exact Or.inr ⟨_, _, h1, by simp⟩
    · exact Or.inr ⟨_, _, h1, by simp⟩
    · exact Or.inr ⟨_, _, h1, by simp⟩
    · exact Or.inl ⟨b, key, h1, h2, ⟨d, h3⟩, h4⟩

theorem ta_not : ∀ (p : Value) (w : World), (Instr.typeAssert (.iface 172 p) 72 172 true).run Tryz.prog w = .ok (.tuple #[p, .bool true]) w := fun _ _ => by kernel_rfl
set_option maxRecDepth 100000 in
theorem ta_not_miss (T : TypeId) (hT : T = 200 ∨ T = 181 ∨ T = 223 ∨ T = 186 ∨ T = 140 ∨ T = 170) : ∀ (p : Value) (w : World), (Instr.typeAssert (.iface T p) 72 172 true).run Tryz.prog w = .ok (.tuple #[.agg #[.nilIface, .string ByteArray.empty], .bool false]) w := by
  rcases hT with rfl | rfl | rfl | rfl | rfl | rfl <;> exact fun _ _ => by kernel_rfl

set_option maxHeartbeats 4000000 in
set_option maxRecDepth 100000 in
theorem opposed_any (sv : Value) (ts : List Tr) (w : World) {ok : Nat → Prop} (hS : TreesOk w ok sv ts) :
    Calls Tryz.prog 82 #[sv] w fun e w' => ∃ b : Bool, e = .returned (.bool b) ∧ (b = true → ∃ t ∈ ts, ∃ u ∈ ts, t.L = Wnot u.L) ∧ Below w.heap.size w w' := by
  obtain ⟨ao, cap, rfl, hmax⟩ := hS.held.shape
  go_enter Tryz.func82, Tryz.ntmps82
  go_wp2_with fail
  go_loopw [9] (fun i wr => ∃ k : Nat, k ≤ ts.length ∧ i = .int .i64 k ∧ Below w.heap.size w wr) (fun i _ => ts.length - (intOf i).toNat)
  case atStart => exact ⟨0, Nat.zero_le _, rfl, Below.refl _ _⟩
  case round =>
    obtain ⟨k, hk, rfl, hnx⟩ := hrel
    have hsz := hnx.size
    by_cases hlt : k < ts.length
    · obtain ⟨g, rfl, hx, hg⟩ := hS.held.at_ k hlt
      have hx' : wr.cell? ⟨g, k, none⟩ = some ts[k].v := by rw [hnx.cell (p := ⟨g, k, none⟩) hg]; exact hx
      clear hx
      rcases (hS.trees ts[k] (List.getElem_mem hlt)).notCase with ⟨b, key, hv, hkey, hb, hk', hL, hn⟩ | ⟨T, p, hv, hT⟩
      · rw [hv] at hx'
        obtain ⟨Tb, pb, f, kb, hbv, hkb, hm, hent, hcall⟩ := hb.keyed.call
        rw [hbv] at hx'
        have hta := ta_not (.agg #[.iface Tb pb, .string key]) wr
        have hnx1 := hnx.alloc hsz (.cells #[.iface Tb pb, .string key] 172)
        have hcl := hcall (wr.alloc (.cells #[.iface Tb pb, .string key] 172))
        clear hcall
        go_wp2_with fail
        rw [hent, Oper.upon_enter]
        refine hcl.mono ?_
        rintro e w1 ⟨rfl, hb1⟩
        clear hcl
        have hnx2 := hnx1.trans (hb1.mono (by simp; omega))
        have hh := has_any _ ts kb w1 (hS.keep (keeps_below hnx2))
        go_wp2_with fail
        refine hh.mono ?_
        rintro e w2 ⟨rfl, hb2⟩
        clear hh
        have hnx3 := hnx2.trans (hb2.mono hnx2.size)
        cases hany : (ts.any fun t => t.k == kb.data.toList) with
        | true =>
          have hfin : ∃ t ∈ ts, ∃ u ∈ ts, t.L = Wnot u.L := by
            obtain ⟨u, hu, hku⟩ := List.any_eq_true.1 hany
            have hku' : u.k = b.k := by rw [beq_iff_eq] at hku; rw [hku]; exact hkb
            exact ⟨ts[k], List.getElem_mem hlt, u, hu, by rw [hL, (hS.trees u hu).same hb hku']⟩
          have HF : Hid _ := hfin; clear hfin
          go_wp2_with fail
          go_ret
          exact ⟨true, rfl, (fun _ => HF.out), hnx3⟩
        | false =>
          go_wp2_with fail
          go_roundw
          case rel => exact ⟨k + 1, by omega, by go_num, hnx3⟩
          case measure => simp [intOf]; omega
      · rw [hv] at hx'
        have hta := ta_not_miss T hT p wr
        have hb1 := hnx.alloc hsz (.cells #[.nilIface, .string ByteArray.empty] 172)
        clear hT
        go_wp2_with fail
        go_roundw
        case rel => exact ⟨k + 1, by omega, by go_num, hb1⟩
        case measure => simp [intOf]; omega
    · obtain rfl : k = ts.length := by omega
      go_wp2_with fail
      go_ret
      exact ⟨false, rfl, (fun h => by cases h), hnx⟩
end Go.Proofs.YtkoaeojdlanolaaGreatDoor
/-
  tree.Empty; kinds of trees.
-/
namespace Go.Proofs.YtkoaeojdlanolaaGreatDoor
open Go.RowKit
open Munch (Words Wempty Wbytes Wcat Wany Wall Wnot KeyF Times numText)

theorem below_drewN {B : Nat} {a w : World} (h : Below B a w) (n : Nat) : Below B a (w.drewN n) := ⟨h.os, h.tape, h.output, h.size, h.block⟩

def emptyT : Tr := ⟨.iface 200 (.agg #[]), [40, 41], Wempty, 1⟩
theorem emptyT_ok (w : World) (ok : Nat → Prop) : TreeOk w ok emptyT := ⟨1, Or.inl ⟨rfl, rfl, rfl, Nat.le_refl _⟩⟩

set_option maxRecDepth 100000 in
theorem empty_any (w : World) : Calls Tryz.prog 96 #[] w fun e w' => e = .returned (.iface 200 (.agg #[])) ∧ Below w.heap.size w w' := by
  go_enter Tryz.func96, Tryz.ntmps96
  go_wp2_with fail
  go_ret
  refine ⟨rfl, ?_⟩
  first | exact Below.refl _ _ | exact (Below.refl _ _).alloc (Nat.le_refl _) _

theorem none_held (w : World) (ok : Nat → Prop) : TreesOk w ok (.slice none 0 0) [] := ⟨⟨0, World.ownsRow_nil _ _ _ _, fun g h => by simp [Value.ownBlock] at h⟩, fun x h => by cases h⟩

/-- A tree is a set of bytes, a row, or of another kind. -/
theorem TreeOk.headCase {w : World} {ok : Nat → Prop} {t : Tr} (h : TreeOk w ok t) :
    (∃ (S : Nat → Bool) (f : Value) (key : ByteArray), t.v = .iface 181 (.agg #[f, .string key]) ∧ SetOk w ok f S ∧ t.L = Wbytes S ∧ 1 ≤ t.n) ∨
    (∃ (a b : Tr) (key : ByteArray), t.v = .iface 223 (.agg #[a.v, b.v, .string key]) ∧ TreeOk w ok a ∧ TreeOk w ok b ∧ t.L = Wcat a.L b.L ∧ a.n + b.n ≤ t.n) ∨
    ∃ T p, t.v = .iface T p ∧ (T = 200 ∨ T = 172 ∨ T = 186 ∨ T = 140 ∨ T = 170) := by
  obtain ⟨d, h⟩ := h
  cases d with
  | zero => exact h.elim
  | succ d =>
    rcases h with ⟨h1, h2, _⟩ | ⟨S, f, key, h1, h2, h3, h4, h5, h6, h7⟩ | ⟨a, b, key, h1, h2, h3, h4, h5, h6, h7⟩ | ⟨ts, sv, key, h1, h2, _⟩ | ⟨ts, sv, key, h1, h2, _⟩ | ⟨b, lo, hi, key, h1, h2, _⟩ | ⟨b, key, h1, h2, h3, h4⟩
    · exact Or.inr (Or.inr ⟨_, _, h1, by simp⟩)
    · exact Or.inl ⟨S, f, key, h1, h3, h6, h7⟩
    · exact Or.inr (Or.inl ⟨a, b, key, h1, ⟨d, h3⟩, ⟨d, h4⟩, h6, h7⟩)
    · exact Or.inr (Or.inr ⟨_, _, h1, by simp⟩)
    · exact Or.inr (Or.inr ⟨_, _, h1, by simp⟩)
    · exact Or.inr (Or.inr ⟨_, _, h1, by simp⟩)
    · exact Or.inr (Or.inr ⟨_, _, h1, by simp⟩)
/-- A tree's value is one of an interface. -/
theorem TreeOk.shape {w : World} {ok : Nat → Prop} {t : Tr} (h : TreeOk w ok t) : ∃ T p, t.v = .iface T p := by
  obtain ⟨T, p, _, _, hv, _⟩ := h.keyed
  exact ⟨T, p, hv⟩
theorem TreeOk.pos {w : World} {ok : Nat → Prop} {t : Tr} (h : TreeOk w ok t) : 1 ≤ t.n := by
  have := h.len; omega

theorem ta_byte : ∀ (p : Value) (w : World), (Instr.typeAssert (.iface 181 p) 72 181 true).run Tryz.prog w = .ok (.tuple #[p, .bool true]) w := fun _ _ => by kernel_rfl
set_option maxRecDepth 100000 in
theorem ta_byte_miss (T : TypeId) (hT : T = 223 ∨ T = 200 ∨ T = 172 ∨ T = 186 ∨ T = 140 ∨ T = 170) : ∀ (p : Value) (w : World), (Instr.typeAssert (.iface T p) 72 181 true).run Tryz.prog w = .ok (.tuple #[.agg #[.nilFunc, .string ByteArray.empty], .bool false]) w := by
  rcases hT with rfl | rfl | rfl | rfl | rfl | rfl <;> exact fun _ _ => by kernel_rfl
theorem ta_row : ∀ (p : Value) (w : World), (Instr.typeAssert (.iface 223 p) 72 223 true).run Tryz.prog w = .ok (.tuple #[p, .bool true]) w := fun _ _ => by kernel_rfl
set_option maxRecDepth 100000 in
theorem ta_row_miss (T : TypeId) (hT : T = 181 ∨ T = 200 ∨ T = 172 ∨ T = 186 ∨ T = 140 ∨ T = 170) : ∀ (p : Value) (w : World), (Instr.typeAssert (.iface T p) 72 223 true).run Tryz.prog w = .ok (.tuple #[.agg #[.nilIface, .nilIface, .string ByteArray.empty], .bool false]) w := by
  rcases hT with rfl | rfl | rfl | rfl | rfl | rfl <;> exact fun _ _ => by kernel_rfl

theorem cat_empty (A : Words) : Wcat A Wempty = A := by
  funext u; apply propext; constructor
  · rintro ⟨x, y, rfl, ha, rfl⟩; simpa using ha
  · intro h; exact ⟨u, [], by simp, h, rfl⟩
theorem empty_cat (A : Words) : Wcat Wempty A = A := by
  funext u; apply propext; constructor
  · rintro ⟨x, y, rfl, rfl, ha⟩; simpa using ha
  · intro h; exact ⟨[], u, by simp, rfl, h⟩
theorem cat_assoc (A B C : Words) : Wcat (Wcat A B) C = Wcat A (Wcat B C) := by
  funext u; apply propext; constructor
  · rintro ⟨x, y, rfl, ⟨a, b, rfl, ha, hb⟩, hc⟩; exact ⟨a, b ++ y, by simp, ha, b, y, rfl, hb, hc⟩
  · rintro ⟨a, z, rfl, ha, b, y, rfl, hb, hc⟩; exact ⟨a ++ b, y, by simp, ⟨a, b, rfl, ha, hb⟩, hc⟩
theorem none_cat (A : Words) : Wcat (Wany []) A = Wany [] := by
  funext u; apply propext; constructor
  · rintro ⟨x, y, rfl, ⟨B, hB, _⟩, _⟩; cases hB
  · rintro ⟨B, hB, _⟩; cases hB
theorem cat_none (A : Words) : Wcat A (Wany []) = Wany [] := by
  funext u; apply propext; constructor
  · rintro ⟨x, y, rfl, _, ⟨B, hB, _⟩⟩; cases hB
  · rintro ⟨B, hB, _⟩; cases hB
end Go.Proofs.YtkoaeojdlanolaaGreatDoor
