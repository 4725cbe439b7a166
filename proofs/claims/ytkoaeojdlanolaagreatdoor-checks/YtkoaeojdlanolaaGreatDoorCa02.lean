/-
  PLAIN: how a list is read, and what its parts weigh: on bytes alone. Nothing of the dump. 'out': the fuel ran out (it never does: RdFuel); 'bad': the place of the first fault.
-/
namespace Munch

/-- So many words, one behind the other. -/
def Pow (L : List UInt8 → Prop) : Nat → List UInt8 → Prop
  | 0, w => w = []
  | k + 1, w => ∃ u v, w = u ++ v ∧ L u ∧ Pow L k v

/-- Is the byte in? -/
def inSet (no : Bool) (sp : List (Nat × Nat)) (c : Nat) : Bool := (sp.any fun x => decide (x.1 ≤ c) && decide (c ≤ x.2)) != no

/-- What a part of a pattern means: its words, its weight, and whether all its counts are at most nine. -/
structure Node where
  lang : List UInt8 → Prop
  heavy : Nat
  low : Prop

def Lang (n : Node) : List UInt8 → Prop := n.lang
def weightV (n : Node) : Nat := n.heavy
def Small (n : Node) : Prop := n.low
def LangRow : List Node → List UInt8 → Prop
  | [], w => w = []
  | n :: r, w => ∃ u v, w = u ++ v ∧ Lang n u ∧ LangRow r v
def LangAny : List Node → List UInt8 → Prop
  | [], _ => False
  | n :: r, w => Lang n w ∨ LangAny r w
def weightsV : List Node → Nat
  | [] => 0
  | n :: r => weightV n + weightsV r

def Node.set (no : Bool) (sp : List (Nat × Nat)) : Node := ⟨fun w => ∃ c, w = [c] ∧ inSet no sp c.toNat = true, 1, True⟩
def Node.row (l : List Node) : Node := ⟨LangRow l, weightsV l, ∀ n ∈ l, Small n⟩
def Node.form (l : List Node) : Node := ⟨LangAny l, weightsV l, ∀ n ∈ l, Small n⟩
def Node.piece (n : Node) (lo hi : Int) : Node := ⟨fun w => ∃ k : Nat, lo ≤ k ∧ (hi < 0 ∨ (k : Int) ≤ hi) ∧ Pow (Lang n) k w, if 1 < hi then hi.toNat * weightV n else weightV n, Small n ∧ hi ≤ 9⟩

theorem lang_set (no : Bool) (sp : List (Nat × Nat)) (w : List UInt8) : Lang (.set no sp) w = ∃ c, w = [c] ∧ inSet no sp c.toNat = true := rfl
theorem lang_row (l : List Node) (w : List UInt8) : Lang (.row l) w = LangRow l w := rfl
theorem lang_form (l : List Node) (w : List UInt8) : Lang (.form l) w = LangAny l w := rfl
theorem weightV_set (no : Bool) (sp : List (Nat × Nat)) : weightV (.set no sp) = 1 := rfl
theorem weightV_row (l : List Node) : weightV (.row l) = weightsV l := rfl
theorem weightV_form (l : List Node) : weightV (.form l) = weightsV l := rfl
theorem weightV_piece (n : Node) (lo hi : Int) : weightV (.piece n lo hi) = if 1 < hi then hi.toNat * weightV n else weightV n := rfl
theorem small_set (no : Bool) (sp : List (Nat × Nat)) : Small (.set no sp) = True := rfl
theorem small_row (l : List Node) : Small (.row l) = ∀ n ∈ l, Small n := rfl
theorem small_form (l : List Node) : Small (.form l) = ∀ n ∈ l, Small n := rfl
theorem small_piece (n : Node) (lo hi : Int) : Small (.piece n lo hi) = (Small n ∧ hi ≤ 9) := rfl

/-- What a reader answers: '.ok'; 'bad': the place of the first fault; 'out': the fuel ran out. -/
abbrev Res (α : Type) := Except (Option Nat) α
abbrev Res.out {α : Type} : Res α := .error none
abbrev Res.bad {α : Type} (place : Nat) : Res α := .error (some place)
theorem Res.split {α : Type} (r : Res α) : r = .out ∨ (∃ p, r = .bad p) ∨ ∃ a, r = .ok a := by
  cases r with
  | ok a => exact Or.inr (Or.inr ⟨a, rfl⟩)
  | error e => cases e with
    | none => exact Or.inl rfl
    | some p => exact Or.inr (Or.inl ⟨p, rfl⟩)

def Res.bind {α β : Type} : Res α → (α → Res β) → Res β
  | .error e, _ => .error e
  | .ok a, f => f a
@[simp] theorem Res.bind_out {α β : Type} (f : α → Res β) : Res.bind .out f = .out := rfl
@[simp] theorem Res.bind_bad {α β : Type} (p : Nat) (f : α → Res β) : Res.bind (.bad p) f = .bad p := rfl
@[simp] theorem Res.bind_ok {α β : Type} (a : α) (f : α → Res β) : Res.bind (.ok a) f = f a := rfl

/-- The byte at a place. -/
def byteAt (s : ByteArray) (i : Nat) : Option UInt8 := s.data.toList[i]?
theorem byteAt_lt (s : ByteArray) (i : Nat) (h : i < s.size) : byteAt s i = some s[i] := by
  unfold byteAt; rw [List.getElem?_eq_getElem (by simpa using h)]; rfl
theorem byteAt_ge (s : ByteArray) (i : Nat) (h : s.size ≤ i) : byteAt s i = none := by
  unfold byteAt; rw [List.getElem?_eq_none (by simpa using h)]

/-- Does this byte stand at hand? -/
def hasAt (s : ByteArray) (i : Nat) (c : Nat) : Bool := if h : i < s.size then decide (s[i].toNat = c) else false
theorem hasAt_lt (s : ByteArray) (i c : Nat) (h : i < s.size) : hasAt s i c = decide (s[i].toNat = c) := by unfold hasAt; rw [dif_pos h]
theorem hasAt_ge (s : ByteArray) (i c : Nat) (h : s.size ≤ i) : hasAt s i c = false := by unfold hasAt; rw [dif_neg (by omega)]

def specials : List Nat := [124, 38, 33, 42, 43, 63, 123, 125, 91, 93, 40, 41, 46, 92]
def special (c : UInt8) : Bool := specials.contains c.toNat

theorem special_drop (c : UInt8) (k : Nat) (h : k < 14) : (specials.drop k).contains c.toNat = (decide (specials[k]'h = c.toNat) || (specials.drop (k + 1)).contains c.toNat) := by
  rw [List.drop_eq_getElem_cons h, List.contains_cons]
  congr 1
  rw [Bool.eq_iff_iff, beq_iff_eq, decide_eq_true_iff]
  exact ⟨fun h => h.symm, fun h => h.symm⟩

/-- May an atom begin with this byte? -/
def starts (c : UInt8) : Bool := decide (c.toNat ≠ 10) && (!special c || decide (c.toNat = 46) || decide (c.toNat = 91) || decide (c.toNat = 40) || decide (c.toNat = 92))
def begins (s : ByteArray) (i : Nat) : Bool := if h : i < s.size then starts s[i] else false

theorem starts_plain (c : UInt8) (h : c.toNat ≠ 10) (hs : special c = false) : starts c = true := by unfold starts; simp [h, hs]
theorem starts_sign (c : UInt8) (h : c.toNat = 46 ∨ c.toNat = 91 ∨ c.toNat = 40 ∨ c.toNat = 92) : starts c = true := by
  unfold starts special; rcases h with h | h | h | h <;> rw [h] <;> rfl
theorem starts_no (c : UInt8) (hs : special c = true) (h1 : c.toNat ≠ 46) (h2 : c.toNat ≠ 91) (h3 : c.toNat ≠ 40) (h4 : c.toNat ≠ 92) : starts c = false := by unfold starts; simp [hs, h1, h2, h3, h4]

/-- A byte that stands for itself in a span. -/
def plainSpan (c : UInt8) : Bool := decide (c.toNat ≠ 10) && decide (c.toNat ≠ 93) && decide (c.toNat ≠ 91) && decide (c.toNat ≠ 94) && decide (c.toNat ≠ 45)

def spanByte (s : ByteArray) (i : Nat) : Res (Nat × Nat) :=
  if h : i < s.size then
    if s[i].toNat = 92 then
      if h' : i + 1 < s.size then .ok (s[i + 1].toNat, i + 2) else .bad (i + 1)
    else if plainSpan s[i] then .ok (s[i].toNat, i + 1) else .bad i
  else .bad i

/-- Where the byte that is too low stands. -/
def low (s : ByteArray) (a : Nat) : Nat := if hasAt s a 92 then a + 1 else a

def span (s : ByteArray) (i : Nat) : Res ((Nat × Nat) × Nat) :=
  (spanByte s i).bind fun x =>
    if hasAt s x.2 45 then
      (spanByte s (x.2 + 1)).bind fun y => if y.1 < x.1 then .bad (low s (x.2 + 1)) else .ok ((x.1, y.1), y.2)
    else .ok ((x.1, x.1), x.2)

/-- The spans up to ']'. -/
def spans (s : ByteArray) : Nat → Nat → List (Nat × Nat) → Res (List (Nat × Nat) × Nat)
  | 0, _, _ => .out
  | n + 1, i, acc => if hasAt s i 93 then .ok (acc, i + 1) else (span s i).bind fun x => spans s n x.2 (acc ++ [x.1])

/-- Behind '['. -/
def setR (s : ByteArray) (n i : Nat) : Res (Node × Nat) :=
  (spans s n (if hasAt s i 94 then i + 1 else i) []).bind fun x => .ok (.set (hasAt s i 94) x.1, x.2)

def isDigit (s : ByteArray) (i lo : Nat) : Bool := if h : i < s.size then decide (48 ≤ s[i].toNat) && decide (s[i].toNat ≤ 57) && decide (lo ≤ s[i].toNat - 48) else false
def digit (s : ByteArray) (i lo : Nat) : Res Nat := if h : i < s.size then (if isDigit s i lo then .ok (s[i].toNat - 48) else .bad i) else .bad i

/-- Behind '{'. -/
def counts (s : ByteArray) (i : Nat) : Res (Nat × Nat) :=
  (digit s i 0).bind fun m =>
    if hasAt s (i + 1) 44 then
      (digit s (i + 2) (max m 1)).bind fun h => if hasAt s (i + 3) 125 then .ok (m, h) else .bad (i + 3)
    else .bad (i + 1)

/-- What stands behind an atom. -/
def tail (s : ByteArray) (n : Node) (i : Nat) : Res (Node × Nat) :=
  if hasAt s i 42 then .ok (.piece n 0 (-1), i + 1)
  else if hasAt s i 43 then .ok (.piece n 1 (-1), i + 1)
  else if hasAt s i 63 then .ok (.piece n 0 1, i + 1)
  else if hasAt s i 123 then (counts s (i + 1)).bind fun x => .ok (.piece n x.1 x.2, i + 5)
  else .ok (n, i)

def one (c : UInt8) : Node := .set false [(c.toNat, c.toNat)]
def everyN : Node := .set false [(0, 255)]

/-- A bracket at i, so many open: the first that is too many. -/
def deeper (i opn : Nat) (deep : Option Nat) : Option Nat := if 8 ≤ opn ∧ deep = none then some i else deep

/-- A form (0), a row (1), a piece (2), an atom (3). -/
def readF (s : ByteArray) : Nat → Nat → Nat → Nat → Option Nat → List Node → Res (Node × Nat × Option Nat)
  | 0, _, _, _, _, _ => .out
  | n + 1, 0, i, opn, deep, acc => (readF s n 1 i opn deep []).bind fun x =>
      if hasAt s x.2.1 124 then readF s n 0 (x.2.1 + 1) opn x.2.2 (acc ++ [x.1]) else .ok (.form (acc ++ [x.1]), x.2)
  | n + 1, 1, i, opn, deep, acc => if begins s i then (readF s n 2 i opn deep []).bind fun x => readF s n 1 x.2.1 opn x.2.2 (acc ++ [x.1]) else .ok (.row acc, i, deep)
  | n + 1, 2, i, opn, deep, _ => (readF s n 3 i opn deep []).bind fun x => (tail s x.1 x.2.1).bind fun y => .ok (y.1, y.2, x.2.2)
  | n + 1, _ + 3, i, opn, deep, _ =>
    if h : i < s.size then
      if s[i].toNat = 46 then .ok (everyN, i + 1, deep)
      else if s[i].toNat = 91 then (setR s n (i + 1)).bind fun x => .ok (x.1, x.2, deep)
      else if s[i].toNat = 40 then (readF s n 0 (i + 1) (opn + 1) (deeper i opn deep) []).bind fun x => if hasAt s x.2.1 41 then .ok (x.1, x.2.1 + 1, x.2.2) else .bad x.2.1
      else if s[i].toNat = 92 then
        if h' : i + 1 < s.size then (if s[i + 1].toNat = 10 then .bad (i + 1) else .ok (one s[i + 1], i + 2, deep)) else .bad (i + 1)
      else .ok (one s[i], i + 1, deep)
    else .bad i

def formF (s : ByteArray) (n i opn : Nat) (deep : Option Nat) (acc : List Node) : Res (Node × Nat × Option Nat) := readF s n 0 i opn deep acc
def rowF (s : ByteArray) (n i opn : Nat) (deep : Option Nat) (acc : List Node) : Res (Node × Nat × Option Nat) := readF s n 1 i opn deep acc
def pieceF (s : ByteArray) (n i opn : Nat) (deep : Option Nat) : Res (Node × Nat × Option Nat) := readF s n 2 i opn deep []
def atomF (s : ByteArray) (n i opn : Nat) (deep : Option Nat) : Res (Node × Nat × Option Nat) := readF s n 3 i opn deep []

theorem formF_z (s : ByteArray) (i opn : Nat) (deep : Option Nat) (acc : List Node) : formF s 0 i opn deep acc = .out := rfl
theorem rowF_z (s : ByteArray) (i opn : Nat) (deep : Option Nat) (acc : List Node) : rowF s 0 i opn deep acc = .out := rfl
theorem pieceF_z (s : ByteArray) (i opn : Nat) (deep : Option Nat) : pieceF s 0 i opn deep = .out := rfl
theorem atomF_z (s : ByteArray) (i opn : Nat) (deep : Option Nat) : atomF s 0 i opn deep = .out := rfl
theorem formF_s (s : ByteArray) (n i opn : Nat) (deep : Option Nat) (acc : List Node) : formF s (n + 1) i opn deep acc = (rowF s n i opn deep []).bind fun x =>
      if hasAt s x.2.1 124 then formF s n (x.2.1 + 1) opn x.2.2 (acc ++ [x.1]) else .ok (.form (acc ++ [x.1]), x.2) := rfl
theorem rowF_s (s : ByteArray) (n i opn : Nat) (deep : Option Nat) (acc : List Node) : rowF s (n + 1) i opn deep acc = if begins s i then (pieceF s n i opn deep).bind fun x => rowF s n x.2.1 opn x.2.2 (acc ++ [x.1]) else .ok (.row acc, i, deep) := rfl
theorem pieceF_s (s : ByteArray) (n i opn : Nat) (deep : Option Nat) : pieceF s (n + 1) i opn deep = (atomF s n i opn deep).bind fun x => (tail s x.1 x.2.1).bind fun y => .ok (y.1, y.2, x.2.2) := rfl
theorem atomF_s (s : ByteArray) (n i opn : Nat) (deep : Option Nat) : atomF s (n + 1) i opn deep =
    if h : i < s.size then
      if s[i].toNat = 46 then .ok (everyN, i + 1, deep)
      else if s[i].toNat = 91 then (setR s n (i + 1)).bind fun x => .ok (x.1, x.2, deep)
      else if s[i].toNat = 40 then (formF s n (i + 1) (opn + 1) (deeper i opn deep) []).bind fun x => if hasAt s x.2.1 41 then .ok (x.1, x.2.1 + 1, x.2.2) else .bad x.2.1
      else if s[i].toNat = 92 then
        if h' : i + 1 < s.size then (if s[i + 1].toNat = 10 then .bad (i + 1) else .ok (one s[i + 1], i + 2, deep)) else .bad (i + 1)
      else .ok (one s[i], i + 1, deep)
    else .bad i := rfl

abbrev Part := Bool × Node

def patternF (s : ByteArray) : Nat → Nat → Option Nat → List Part → Res (List Part × Nat × Option Nat)
  | 0, _, _, _ => .out
  | n + 1, i, deep, acc => (formF s n (if hasAt s i 33 then i + 1 else i) 0 deep []).bind fun x =>
      if hasAt s x.2.1 38 then patternF s n (x.2.1 + 1) x.2.2 (acc ++ [(hasAt s i 33, x.1)]) else .ok (acc ++ [(hasAt s i 33, x.1)], x.2)

def listF (s : ByteArray) : Nat → Nat → Option Nat → List (List Part) → Res (List (List Part) × Option Nat)
  | 0, _, _, _ => .out
  | n + 1, i, deep, acc => (patternF s n i deep []).bind fun x =>
      if hasAt s x.2.1 10 && decide (acc.length + 1 < 5) then listF s n (x.2.1 + 1) x.2.2 (acc ++ [x.1])
      else if x.2.1 < s.size then .bad x.2.1 else .ok (acc ++ [x.1], x.2.2)

def weightP (p : List Part) : Nat := weightsV (p.map (·.2))
def weightL (l : List (List Part)) : Nat := (l.map weightP).foldr (· + ·) 0

/-- Enough for every list. -/
def fuel (s : ByteArray) : Nat := 6 * s.size + 20

/-- What Check answers. -/
def checkV (s : ByteArray) : Int × Int :=
  if 80 < s.size then (1, 0) else match listF s (fuel s) 0 none [] with
    | .error none => (0, 0)
    | .error (some p) => (2, (p : Int))
    | .ok x => match x.2 with
      | some d => (3, (d : Int))
      | none => if 10 < weightL x.1 then (4, 0) else (0, 0)
end Munch
/-
  PLAIN: bounds on what the reader's spec answers.
-/
namespace Munch
theorem spanByte_ok (s : ByteArray) (i v j : Nat) (h : spanByte s i = .ok (v, j)) : v < 256 ∧ i < j ∧ j ≤ s.size := by
  unfold spanByte at h
  split at h
  · rename_i hi
    split at h
    · split at h
      · cases h; exact ⟨UInt8.toNat_lt _, by omega, by omega⟩
      · cases h
    · split at h
      · cases h; exact ⟨UInt8.toNat_lt _, by omega, by omega⟩
      · cases h
  · cases h
theorem spanByte_bad (s : ByteArray) (i p : Nat) (hi : i ≤ s.size) (h : spanByte s i = .bad p) : p ≤ s.size := by
  unfold spanByte at h
  split at h
  · split at h
    · split at h
      · cases h
      · cases h; omega
    · split at h
      · cases h
      · cases h; omega
  · cases h; exact hi
theorem hasAt_true (s : ByteArray) (i c : Nat) (h : hasAt s i c = true) : i < s.size := by
  rcases Nat.lt_or_ge i s.size with h' | h'
  · exact h'
  · rw [hasAt_ge _ _ _ h'] at h; cases h
theorem span_plain (s : ByteArray) (i v j : Nat) (h : spanByte s i = .ok (v, j)) (hd : hasAt s j 45 = false) : span s i = .ok ((v, v), j) := by
  unfold span; rw [h]; simp [hd]
theorem span_bad1 (s : ByteArray) (i p : Nat) (h : spanByte s i = .bad p) : span s i = .bad p := by
  unfold span; rw [h]; rfl
theorem span_bad2 (s : ByteArray) (i v j p : Nat) (h : spanByte s i = .ok (v, j)) (hd : hasAt s j 45 = true) (h2 : spanByte s (j + 1) = .bad p) : span s i = .bad p := by
  unfold span; rw [h]; simp [hd, h2]
theorem span_low (s : ByteArray) (i v j v2 j2 : Nat) (h : spanByte s i = .ok (v, j)) (hd : hasAt s j 45 = true) (h2 : spanByte s (j + 1) = .ok (v2, j2)) (hl : v2 < v) : span s i = .bad (low s (j + 1)) := by
  unfold span; rw [h]; simp [hd, h2, hl]
theorem span_two (s : ByteArray) (i v j v2 j2 : Nat) (h : spanByte s i = .ok (v, j)) (hd : hasAt s j 45 = true) (h2 : spanByte s (j + 1) = .ok (v2, j2)) (hl : ¬ v2 < v) : span s i = .ok ((v, v2), j2) := by
  unfold span; rw [h]; simp [hd, h2, hl]
theorem span_ok (s : ByteArray) (i j : Nat) (x : Nat × Nat) (h : span s i = .ok (x, j)) : i < j ∧ j ≤ s.size ∧ x.1 ≤ x.2 ∧ x.2 < 256 := by
  rcases Res.split (spanByte s i) with h1 | ⟨p, h1⟩ | ⟨a, h1⟩
  · (try rw [h1])
    unfold span at h; rw [h1] at h; cases h
  · (try rw [h1])
    rw [span_bad1 _ _ _ h1] at h; cases h
  · (try rw [h1])
    obtain ⟨v, j1⟩ := a
    have b1 := spanByte_ok _ _ _ _ h1
    by_cases hd : hasAt s j1 45 = true
    · rcases Res.split (spanByte s (j1 + 1)) with h2 | ⟨p, h2⟩ | ⟨b, h2⟩
      · (try rw [h2])
        unfold span at h; rw [h1] at h; simp [hd, h2] at h
      · (try rw [h2])
        rw [span_bad2 _ _ _ _ _ h1 hd h2] at h; cases h
      · (try rw [h2])
        obtain ⟨v2, j2⟩ := b
        have b2 := spanByte_ok _ _ _ _ h2
        by_cases hl : v2 < v
        · rw [span_low _ _ _ _ _ _ h1 hd h2 hl] at h; cases h
        · rw [span_two _ _ _ _ _ _ h1 hd h2 hl] at h; cases h; exact ⟨by omega, b2.2.2, by simp; omega, b2.1⟩
    · rw [span_plain _ _ _ _ h1 (by simpa using hd)] at h; cases h; exact ⟨b1.2.1, b1.2.2, by simp, b1.1⟩
end Munch
/-
  PLAIN: where the reader comes to.
-/
namespace Munch

theorem spans_ok (s : ByteArray) : ∀ (n i : Nat) (acc l : List (Nat × Nat)) (j : Nat), spans s n i acc = .ok (l, j) → i < j ∧ j ≤ s.size := by
  intro n
  induction n with
  | zero => intro i acc l j h; cases h
  | succ n ih =>
    intro i acc l j h
    rw [spans] at h
    split at h
    · rename_i hc
      have := hasAt_true _ _ _ hc
      cases h; omega
    · rcases Res.split (span s i) with hs | ⟨p, hs⟩ | ⟨x, hs⟩
      · (try rw [hs])
        rw [hs] at h; cases h
      · (try rw [hs])
        rw [hs] at h; cases h
      · (try rw [hs])
        obtain ⟨x, j1⟩ := x
        rw [hs] at h
        have h1 := span_ok _ _ _ _ hs
        have h2 := ih _ _ _ _ h
        simp at h2
        omega
theorem setR_ok (s : ByteArray) (n i : Nat) (nd : Node) (j : Nat) (h : setR s n i = .ok (nd, j)) : i < j ∧ j ≤ s.size := by
  unfold setR at h
  rcases Res.split (spans s n (if hasAt s i 94 then i + 1 else i) []) with hs | ⟨p, hs⟩ | ⟨x, hs⟩
  · (try rw [hs])
    rw [hs] at h; cases h
  · (try rw [hs])
    rw [hs] at h; cases h
  · (try rw [hs])
    obtain ⟨l, j1⟩ := x
    rw [hs] at h
    cases h
    have := spans_ok _ _ _ _ _ _ hs
    split at this <;> omega
theorem counts_ok (s : ByteArray) (i : Nat) (x : Nat × Nat) (h : counts s i = .ok x) : i + 4 ≤ s.size := by
  unfold counts at h
  rcases Res.split (digit s i 0) with h1 | ⟨p, h1⟩ | ⟨m, h1⟩
  · (try rw [h1])
    rw [h1] at h; cases h
  · (try rw [h1])
    rw [h1] at h; cases h
  · (try rw [h1])
    rw [h1] at h
    simp only [Res.bind_ok] at h
    split at h
    · rcases Res.split (digit s (i + 2) (max m 1)) with h2 | ⟨p, h2⟩ | ⟨q, h2⟩
      · (try rw [h2])
        rw [h2] at h; cases h
      · (try rw [h2])
        rw [h2] at h; cases h
      · (try rw [h2])
        rw [h2] at h
        simp only [Res.bind_ok] at h
        split at h
        · rename_i hc
          have := hasAt_true _ _ _ hc
          omega
        · cases h
    · cases h
theorem tail_ok (s : ByteArray) (n : Node) (i : Nat) (nd : Node) (j : Nat) (hi : i ≤ s.size) (h : tail s n i = .ok (nd, j)) : i ≤ j ∧ j ≤ s.size := by
  unfold tail at h
  split at h
  · rename_i hc; have := hasAt_true _ _ _ hc; cases h; omega
  · split at h
    · rename_i hc; have := hasAt_true _ _ _ hc; cases h; omega
    · split at h
      · rename_i hc; have := hasAt_true _ _ _ hc; cases h; omega
      · split at h
        · rcases Res.split (counts s (i + 1)) with hc | ⟨p, hc⟩ | ⟨x, hc⟩
          · (try rw [hc])
            rw [hc] at h; cases h
          · (try rw [hc])
            rw [hc] at h; cases h
          · (try rw [hc])
            rw [hc] at h; have := counts_ok _ _ _ hc; cases h; omega
        · cases h; omega

def Bounds (s : ByteArray) (n : Nat) : Prop :=
  (∀ i opn d acc nd j d2, i ≤ s.size → formF s n i opn d acc = .ok (nd, j, d2) → i ≤ j ∧ j ≤ s.size) ∧
  (∀ i opn d acc nd j d2, i ≤ s.size → rowF s n i opn d acc = .ok (nd, j, d2) → i ≤ j ∧ j ≤ s.size) ∧
  (∀ i opn d nd j d2, pieceF s n i opn d = .ok (nd, j, d2) → i < j ∧ j ≤ s.size) ∧
  (∀ i opn d nd j d2, atomF s n i opn d = .ok (nd, j, d2) → i < j ∧ j ≤ s.size)

theorem bounds (s : ByteArray) : ∀ n, Bounds s n := by
  intro n
  induction n with
  | zero =>
    refine ⟨?_, ?_, ?_, ?_⟩
    · intro i opn d acc nd j d2 _ h; rw [formF_z] at h; cases h
    · intro i opn d acc nd j d2 _ h; rw [rowF_z] at h; cases h
    · intro i opn d nd j d2 h; rw [pieceF_z] at h; cases h
    · intro i opn d nd j d2 h; rw [atomF_z] at h; cases h
  | succ n ih =>
    obtain ⟨hf, hr, hp, ha⟩ := ih
    refine ⟨?_, ?_, ?_, ?_⟩
    · intro i opn d acc nd j d2 hi h
      rw [formF_s] at h
      rcases Res.split (rowF s n i opn d []) with h1 | ⟨p, h1⟩ | ⟨x, h1⟩
      · (try rw [h1])
        rw [h1] at h; cases h
      · (try rw [h1])
        rw [h1] at h; cases h
      · (try rw [h1])
        obtain ⟨x1, x2, x3⟩ := x
        rw [h1] at h
        simp only [Res.bind_ok] at h
        have b1 := hr _ _ _ _ _ _ _ hi h1
        split at h
        · rename_i hc
          have := hasAt_true _ _ _ hc
          have := hf _ _ _ _ _ _ _ (by omega) h
          omega
        · cases h; exact b1
    · intro i opn d acc nd j d2 hi h
      rw [rowF_s] at h
      split at h
      · rcases Res.split (pieceF s n i opn d) with h1 | ⟨p, h1⟩ | ⟨x, h1⟩
        · (try rw [h1])
          rw [h1] at h; cases h
        · (try rw [h1])
          rw [h1] at h; cases h
        · (try rw [h1])
          obtain ⟨x1, x2, x3⟩ := x
          rw [h1] at h
          simp only [Res.bind_ok] at h
          have b1 := hp _ _ _ _ _ _ h1
          have := hr _ _ _ _ _ _ _ b1.2 h
          omega
      · cases h; omega
    · intro i opn d nd j d2 h
      rw [pieceF_s] at h
      rcases Res.split (atomF s n i opn d) with h1 | ⟨p, h1⟩ | ⟨x, h1⟩
      · (try rw [h1])
        rw [h1] at h; cases h
      · (try rw [h1])
        rw [h1] at h; cases h
      · (try rw [h1])
        obtain ⟨x1, x2, x3⟩ := x
        rw [h1] at h
        simp only [Res.bind_ok] at h
        have b1 := ha _ _ _ _ _ _ h1
        rcases Res.split (tail s x1 x2) with h2 | ⟨p, h2⟩ | ⟨y, h2⟩
        · (try rw [h2])
          rw [h2] at h; cases h
        · (try rw [h2])
          rw [h2] at h; cases h
        · (try rw [h2])
          obtain ⟨y1, y2⟩ := y
          rw [h2] at h
          have := tail_ok _ _ _ _ _ b1.2 h2
          cases h
          omega
    · intro i opn d nd j d2 h
      rw [atomF_s] at h
      split at h
      · rename_i hi
        split at h
        · cases h; omega
        · split at h
          · rcases Res.split (setR s n (i + 1)) with h1 | ⟨p, h1⟩ | ⟨x, h1⟩
            · (try rw [h1])
              rw [h1] at h; cases h
            · (try rw [h1])
              rw [h1] at h; cases h
            · (try rw [h1])
              obtain ⟨x1, x2⟩ := x
              rw [h1] at h
              have := setR_ok _ _ _ _ _ h1
              cases h; omega
          · split at h
            · rcases Res.split (formF s n (i + 1) (opn + 1) (deeper i opn d) []) with h1 | ⟨p, h1⟩ | ⟨x, h1⟩
              · (try rw [h1])
                rw [h1] at h; cases h
              · (try rw [h1])
                rw [h1] at h; cases h
              · (try rw [h1])
                obtain ⟨x1, x2, x3⟩ := x
                rw [h1] at h
                simp only [Res.bind_ok] at h
                have b1 := hf _ _ _ _ _ _ _ (by omega) h1
                split at h
                · rename_i hc
                  have := hasAt_true _ _ _ hc
                  cases h; omega
                · cases h
            · split at h
              · split at h
                · split at h
                  · cases h
                  · cases h; omega
                · cases h
              · cases h; omega
      · cases h
end Munch
/-
  PLAIN: the fuel never runs out; the counts are small; the weights are bounded.
-/
namespace Munch

theorem spanByte_out (s : ByteArray) (i : Nat) : spanByte s i ≠ .out := by
  unfold spanByte; split
  · split
    · split <;> simp
    · split <;> simp
  · simp
theorem span_out (s : ByteArray) (i : Nat) : span s i ≠ .out := by
  rcases Res.split (spanByte s i) with h1 | ⟨p, h1⟩ | ⟨a, h1⟩
  · (try rw [h1])
    exact absurd h1 (spanByte_out s i)
  · (try rw [h1])
    rw [span_bad1 _ _ _ h1]; simp
  · (try rw [h1])
    obtain ⟨v, j⟩ := a
    by_cases hd : hasAt s j 45 = true
    · rcases Res.split (spanByte s (j + 1)) with h2 | ⟨p, h2⟩ | ⟨b, h2⟩
      · (try rw [h2])
        exact absurd h2 (spanByte_out s _)
      · (try rw [h2])
        rw [span_bad2 _ _ _ _ _ h1 hd h2]; simp
      · (try rw [h2])
        obtain ⟨v2, j2⟩ := b
        by_cases hl : v2 < v
        · rw [span_low _ _ _ _ _ _ h1 hd h2 hl]; simp
        · rw [span_two _ _ _ _ _ _ h1 hd h2 hl]; simp
    · rw [span_plain _ _ _ _ h1 (by simpa using hd)]; simp
theorem spans_out (s : ByteArray) : ∀ (n i : Nat) (acc : List (Nat × Nat)), i ≤ s.size → s.size - i + 1 ≤ n → spans s n i acc ≠ .out := by
  intro n
  induction n with
  | zero => intro i acc hi h; omega
  | succ n ih =>
    intro i acc hi h
    rw [spans]
    split
    · simp
    · rcases Res.split (span s i) with hs | ⟨p, hs⟩ | ⟨x, hs⟩
      · (try rw [hs])
        exact absurd hs (span_out s i)
      · (try rw [hs])
        simp
      · (try rw [hs])
        obtain ⟨x, j⟩ := x
        have := span_ok _ _ _ _ hs
        simp only [Res.bind_ok]
        exact ih _ _ this.2.1 (by omega)
theorem setR_out (s : ByteArray) (n i : Nat) (hi : i ≤ s.size) (h : s.size - i + 1 ≤ n) : setR s n i ≠ .out := by
  unfold setR
  have hle : (if hasAt s i 94 then i + 1 else i) ≤ s.size := by
    split
    · rename_i hc; have := hasAt_true _ _ _ hc; omega
    · exact hi
  have := spans_out s n (if hasAt s i 94 then i + 1 else i) [] hle (by split <;> omega)
  rcases Res.split (spans s n (if hasAt s i 94 then i + 1 else i) []) with hs | ⟨p, hs⟩ | ⟨x, hs⟩
  · (try rw [hs])
    exact absurd hs this
  · (try rw [hs])
    simp
  · (try rw [hs])
    simp
theorem digit_out (s : ByteArray) (i lo : Nat) : digit s i lo ≠ .out := by
  unfold digit; split
  · split <;> simp
  · simp
theorem counts_out (s : ByteArray) (i : Nat) : counts s i ≠ .out := by
  unfold counts
  rcases Res.split (digit s i 0) with h1 | ⟨p, h1⟩ | ⟨m, h1⟩
  · (try rw [h1])
    exact absurd h1 (digit_out _ _ _)
  · (try rw [h1])
    simp
  · (try rw [h1])
    simp only [Res.bind_ok]
    split
    · rcases Res.split (digit s (i + 2) (max m 1)) with h2 | ⟨p, h2⟩ | ⟨h, h2⟩
      · (try rw [h2])
        exact absurd h2 (digit_out _ _ _)
      · (try rw [h2])
        simp
      · (try rw [h2])
        simp only [Res.bind_ok]; split <;> simp
    · simp
theorem tail_out (s : ByteArray) (n : Node) (i : Nat) : tail s n i ≠ .out := by
  unfold tail
  split
  · simp
  · split
    · simp
    · split
      · simp
      · split
        · rcases Res.split (counts s (i + 1)) with h | ⟨p, h⟩ | ⟨x, h⟩
          · (try rw [h])
            exact absurd h (counts_out _ _)
          · (try rw [h])
            simp
          · (try rw [h])
            simp
        · simp

theorem fuels (s : ByteArray) : ∀ n,
    (∀ i opn d acc, i ≤ s.size → 4 * (s.size - i) + 2 ≤ n → formF s n i opn d acc ≠ .out) ∧
    (∀ i opn d acc, i ≤ s.size → 4 * (s.size - i) + 1 ≤ n → rowF s n i opn d acc ≠ .out) ∧
    (∀ i opn d, i < s.size → 4 * (s.size - i) ≤ n → pieceF s n i opn d ≠ .out) ∧
    (∀ i opn d, i < s.size → 4 * (s.size - i) ≤ n + 1 → atomF s n i opn d ≠ .out) := by
  intro n
  induction n with
  | zero =>
    refine ⟨?_, ?_, ?_, ?_⟩
    · intro i opn d acc _ h; omega
    · intro i opn d acc _ h; omega
    · intro i opn d hi h; omega
    · intro i opn d hi h; omega
  | succ n ih =>
    obtain ⟨hf, hr, hp, ha⟩ := ih
    refine ⟨?_, ?_, ?_, ?_⟩
    · intro i opn d acc hi h
      rw [formF_s]
      rcases Res.split (rowF s n i opn d []) with h1 | ⟨p, h1⟩ | ⟨x, h1⟩
      · (try rw [h1])
        exact absurd h1 (hr i opn d [] hi (by omega))
      · (try rw [h1])
        simp
      · (try rw [h1])
        obtain ⟨x1, x2, x3⟩ := x
        simp only [Res.bind_ok]
        have b1 := (bounds s n).2.1 _ _ _ _ _ _ _ hi h1
        split
        · rename_i hc
          have := hasAt_true _ _ _ hc
          exact hf _ _ _ _ (by omega) (by omega)
        · simp
    · intro i opn d acc hi h
      rw [rowF_s]
      split
      · rename_i hb
        have hi' : i < s.size := by
          rcases Nat.lt_or_ge i s.size with h' | h'
          · exact h'
          · unfold begins at hb; rw [dif_neg (by omega)] at hb; cases hb
        rcases Res.split (pieceF s n i opn d) with h1 | ⟨p, h1⟩ | ⟨x, h1⟩
        · (try rw [h1])
          exact absurd h1 (hp i opn d hi' (by omega))
        · (try rw [h1])
          simp
        · (try rw [h1])
          obtain ⟨x1, x2, x3⟩ := x
          simp only [Res.bind_ok]
          have b1 := (bounds s n).2.2.1 _ _ _ _ _ _ h1
          exact hr _ _ _ _ b1.2 (by omega)
      · simp
    · intro i opn d hi h
      rw [pieceF_s]
      rcases Res.split (atomF s n i opn d) with h1 | ⟨p, h1⟩ | ⟨x, h1⟩
      · (try rw [h1])
        exact absurd h1 (ha i opn d hi (by omega))
      · (try rw [h1])
        simp
      · (try rw [h1])
        obtain ⟨x1, x2, x3⟩ := x
        simp only [Res.bind_ok]
        rcases Res.split (tail s x1 x2) with h2 | ⟨p, h2⟩ | ⟨y, h2⟩
        · (try rw [h2])
          exact absurd h2 (tail_out _ _ _)
        · (try rw [h2])
          simp
        · (try rw [h2])
          simp
    · intro i opn d hi h
      rw [atomF_s, dif_pos hi]
      split
      · simp
      · split
        · rcases Res.split (setR s n (i + 1)) with h1 | ⟨p, h1⟩ | ⟨x, h1⟩
          · (try rw [h1])
            exact absurd h1 (setR_out s n (i + 1) (by omega) (by omega))
          · (try rw [h1])
            simp
          · (try rw [h1])
            simp
        · split
          · rcases Res.split (formF s n (i + 1) (opn + 1) (deeper i opn d) []) with h1 | ⟨p, h1⟩ | ⟨x, h1⟩
            · (try rw [h1])
              exact absurd h1 (hf _ _ _ _ (by omega) (by omega))
            · (try rw [h1])
              simp
            · (try rw [h1])
              simp only [Res.bind_ok]; split <;> simp
          · split
            · split
              · split <;> simp
              · simp
            · simp

theorem pattern_ok (s : ByteArray) : ∀ (n i : Nat) (d : Option Nat) (acc l : List Part) (j : Nat) (d2 : Option Nat), i ≤ s.size → patternF s n i d acc = .ok (l, j, d2) → i ≤ j ∧ j ≤ s.size := by
  intro n
  induction n with
  | zero => intro i d acc l j d2 _ h; rw [patternF] at h; cases h
  | succ n ih =>
    intro i d acc l j d2 hi h
    rw [patternF] at h
    have hle : (if hasAt s i 33 then i + 1 else i) ≤ s.size := by
      split
      · rename_i hc; have := hasAt_true _ _ _ hc; omega
      · exact hi
    have hge : i ≤ (if hasAt s i 33 then i + 1 else i) := by split <;> omega
    rcases Res.split (formF s n (if hasAt s i 33 then i + 1 else i) 0 d []) with h1 | ⟨p, h1⟩ | ⟨x, h1⟩
    · (try rw [h1])
      rw [h1] at h; cases h
    · (try rw [h1])
      rw [h1] at h; cases h
    · (try rw [h1])
      obtain ⟨x1, x2, x3⟩ := x
      rw [h1] at h
      simp only [Res.bind_ok] at h
      have b1 := (bounds s n).1 _ _ _ _ _ _ _ hle h1
      split at h
      · rename_i hc
        have := hasAt_true _ _ _ hc
        have := ih _ _ _ _ _ _ (by omega) h
        omega
      · cases h; omega
theorem pattern_out (s : ByteArray) : ∀ (n i : Nat) (d : Option Nat) (acc : List Part), i ≤ s.size → 4 * (s.size - i) + 3 ≤ n → patternF s n i d acc ≠ .out := by
  intro n
  induction n with
  | zero => intro i d acc _ h; omega
  | succ n ih =>
    intro i d acc hi h
    rw [patternF]
    have hle : (if hasAt s i 33 then i + 1 else i) ≤ s.size := by
      split
      · rename_i hc; have := hasAt_true _ _ _ hc; omega
      · exact hi
    have hge : i ≤ (if hasAt s i 33 then i + 1 else i) := by split <;> omega
    rcases Res.split (formF s n (if hasAt s i 33 then i + 1 else i) 0 d []) with h1 | ⟨p, h1⟩ | ⟨x, h1⟩
    · (try rw [h1])
      exact absurd h1 ((fuels s n).1 _ _ _ _ hle (by omega))
    · (try rw [h1])
      simp
    · (try rw [h1])
      obtain ⟨x1, x2, x3⟩ := x
      simp only [Res.bind_ok]
      have b1 := (bounds s n).1 _ _ _ _ _ _ _ hle h1
      split
      · rename_i hc
        have := hasAt_true _ _ _ hc
        exact ih _ _ _ (by omega) (by omega)
      · simp
theorem list_out (s : ByteArray) : ∀ (n i : Nat) (d : Option Nat) (acc : List (List Part)), i ≤ s.size → 4 * (s.size - i) + 4 ≤ n → listF s n i d acc ≠ .out := by
  intro n
  induction n with
  | zero => intro i d acc _ h; omega
  | succ n ih =>
    intro i d acc hi h
    rw [listF]
    rcases Res.split (patternF s n i d []) with h1 | ⟨p, h1⟩ | ⟨x, h1⟩
    · (try rw [h1])
      exact absurd h1 (pattern_out s n i d [] hi (by omega))
    · (try rw [h1])
      simp
    · (try rw [h1])
      obtain ⟨x1, x2, x3⟩ := x
      simp only [Res.bind_ok]
      have b1 := pattern_ok _ _ _ _ _ _ _ _ hi h1
      split
      · rename_i hc
        simp only [Bool.and_eq_true] at hc
        have := hasAt_true _ _ _ hc.1
        exact ih _ _ _ (by omega) (by omega)
      · split <;> simp
theorem fuel_enough (s : ByteArray) : listF s (fuel s) 0 none [] ≠ .out := list_out s _ 0 none [] (by omega) (by unfold fuel; omega)

theorem counts_small (s : ByteArray) (i : Nat) (x : Nat × Nat) (h : counts s i = .ok x) : x.2 ≤ 9 := by
  unfold counts at h
  rcases Res.split (digit s i 0) with h1 | ⟨p, h1⟩ | ⟨m, h1⟩
  · (try rw [h1])
    rw [h1] at h; cases h
  · (try rw [h1])
    rw [h1] at h; cases h
  · (try rw [h1])
    rw [h1] at h
    simp only [Res.bind_ok] at h
    split at h
    · rcases Res.split (digit s (i + 2) (max m 1)) with h2 | ⟨p, h2⟩ | ⟨q, h2⟩
      · (try rw [h2])
        rw [h2] at h; cases h
      · (try rw [h2])
        rw [h2] at h; cases h
      · (try rw [h2])
        rw [h2] at h
        simp only [Res.bind_ok] at h
        split at h
        · cases h
          unfold digit at h2
          split at h2
          · split at h2
            · rename_i hi hd
              cases h2
              unfold isDigit at hd
              rw [dif_pos hi] at hd
              simp at hd
              show _ ≤ 9
              omega
            · cases h2
          · cases h2
        · cases h
    · cases h
theorem tail_small (s : ByteArray) (n : Node) (i : Nat) (nd : Node) (j : Nat) (hn : Small n) (h : tail s n i = .ok (nd, j)) : Small nd := by
  unfold tail at h
  split at h
  · cases h; rw [small_piece]; exact ⟨hn, by omega⟩
  · split at h
    · cases h; rw [small_piece]; exact ⟨hn, by omega⟩
    · split at h
      · cases h; rw [small_piece]; exact ⟨hn, by omega⟩
      · split at h
        · rcases Res.split (counts s (i + 1)) with hc | ⟨p, hc⟩ | ⟨x, hc⟩
          · (try rw [hc])
            rw [hc] at h; cases h
          · (try rw [hc])
            rw [hc] at h; cases h
          · (try rw [hc])
            rw [hc] at h; have := counts_small _ _ _ hc; cases h; rw [small_piece]; exact ⟨hn, by omega⟩
        · cases h; exact hn

theorem smalls (s : ByteArray) : ∀ n,
    (∀ i opn d acc nd j d2, (∀ x ∈ acc, Small x) → formF s n i opn d acc = .ok (nd, j, d2) → Small nd) ∧
    (∀ i opn d acc nd j d2, (∀ x ∈ acc, Small x) → rowF s n i opn d acc = .ok (nd, j, d2) → Small nd) ∧
    (∀ i opn d nd j d2, pieceF s n i opn d = .ok (nd, j, d2) → Small nd) ∧
    (∀ i opn d nd j d2, atomF s n i opn d = .ok (nd, j, d2) → Small nd) := by
  intro n
  induction n with
  | zero =>
    refine ⟨?_, ?_, ?_, ?_⟩
    · intro i opn d acc nd j d2 _ h; rw [formF_z] at h; cases h
    · intro i opn d acc nd j d2 _ h; rw [rowF_z] at h; cases h
    · intro i opn d nd j d2 h; rw [pieceF_z] at h; cases h
    · intro i opn d nd j d2 h; rw [atomF_z] at h; cases h
  | succ n ih =>
    obtain ⟨hf, hr, hp, ha⟩ := ih
    refine ⟨?_, ?_, ?_, ?_⟩
    · intro i opn d acc nd j d2 hacc h
      rw [formF_s] at h
      rcases Res.split (rowF s n i opn d []) with h1 | ⟨p, h1⟩ | ⟨x, h1⟩
      · (try rw [h1])
        rw [h1] at h; cases h
      · (try rw [h1])
        rw [h1] at h; cases h
      · (try rw [h1])
        obtain ⟨x1, x2, x3⟩ := x
        rw [h1] at h
        simp only [Res.bind_ok] at h
        have s1 := hr _ _ _ _ _ _ _ (fun x hx => by cases hx) h1
        have hall : ∀ x ∈ acc ++ [x1], Small x := by
          intro x hx
          rcases List.mem_append.1 hx with hx | hx
          · exact hacc x hx
          · simp at hx; subst hx; exact s1
        split at h
        · exact hf _ _ _ _ _ _ _ hall h
        · cases h; rw [small_form]; exact hall
    · intro i opn d acc nd j d2 hacc h
      rw [rowF_s] at h
      split at h
      · rcases Res.split (pieceF s n i opn d) with h1 | ⟨p, h1⟩ | ⟨x, h1⟩
        · (try rw [h1])
          rw [h1] at h; cases h
        · (try rw [h1])
          rw [h1] at h; cases h
        · (try rw [h1])
          obtain ⟨x1, x2, x3⟩ := x
          rw [h1] at h
          simp only [Res.bind_ok] at h
          have s1 := hp _ _ _ _ _ _ h1
          refine hr _ _ _ _ _ _ _ ?_ h
          intro x hx
          rcases List.mem_append.1 hx with hx | hx
          · exact hacc x hx
          · simp at hx; subst hx; exact s1
      · cases h; rw [small_row]; exact hacc
    · intro i opn d nd j d2 h
      rw [pieceF_s] at h
      rcases Res.split (atomF s n i opn d) with h1 | ⟨p, h1⟩ | ⟨x, h1⟩
      · (try rw [h1])
        rw [h1] at h; cases h
      · (try rw [h1])
        rw [h1] at h; cases h
      · (try rw [h1])
        obtain ⟨x1, x2, x3⟩ := x
        rw [h1] at h
        simp only [Res.bind_ok] at h
        rcases Res.split (tail s x1 x2) with h2 | ⟨p, h2⟩ | ⟨y, h2⟩
        · (try rw [h2])
          rw [h2] at h; cases h
        · (try rw [h2])
          rw [h2] at h; cases h
        · (try rw [h2])
          obtain ⟨y1, y2⟩ := y
          rw [h2] at h
          cases h
          exact tail_small _ _ _ _ _ (ha _ _ _ _ _ _ h1) h2
    · intro i opn d nd j d2 h
      rw [atomF_s] at h
      split at h
      · split at h
        · cases h; simp [everyN, small_set]
        · split at h
          · rcases Res.split (setR s n (i + 1)) with h1 | ⟨p, h1⟩ | ⟨x, h1⟩
            · (try rw [h1])
              rw [h1] at h; cases h
            · (try rw [h1])
              rw [h1] at h; cases h
            · (try rw [h1])
              obtain ⟨x1, x2⟩ := x
              rw [h1] at h
              unfold setR at h1
              rcases Res.split (spans s n (if hasAt s (i + 1) 94 then i + 1 + 1 else i + 1) []) with h2 | ⟨p, h2⟩ | ⟨y, h2⟩
              · (try rw [h2])
                rw [h2] at h1; cases h1
              · (try rw [h2])
                rw [h2] at h1; cases h1
              · (try rw [h2])
                rw [h2] at h1; cases h1; cases h; simp [small_set]
          · split at h
            · rcases Res.split (formF s n (i + 1) (opn + 1) (deeper i opn d) []) with h1 | ⟨p, h1⟩ | ⟨x, h1⟩
              · (try rw [h1])
                rw [h1] at h; cases h
              · (try rw [h1])
                rw [h1] at h; cases h
              · (try rw [h1])
                obtain ⟨x1, x2, x3⟩ := x
                rw [h1] at h
                simp only [Res.bind_ok] at h
                have s1 := hf _ _ _ _ _ _ _ (fun x hx => by cases hx) h1
                split at h
                · cases h; exact s1
                · cases h
            · split at h
              · split at h
                · split at h
                  · cases h
                  · cases h; simp [one, small_set]
                · cases h
              · cases h; simp [one, small_set]
      · cases h
end Munch
/-
  PLAIN: how heavy what was read from so many bytes can be.
-/
namespace Munch

/-- A weight that so many bytes can have. -/
def Can (w k : Nat) : Prop := w * 9 ^ k ≤ k * 14 ^ k

theorem pow_le_pow (k : Nat) : 9 ^ k ≤ 14 ^ k := Nat.pow_le_pow_left (by omega) k
theorem Can.zero (k : Nat) : Can 0 k := by unfold Can; rw [Nat.zero_mul]; exact Nat.zero_le _
theorem Can.mono {w a : Nat} (h : Can w a) (c : Nat) : Can w (a + c) := by
  unfold Can at *
  rw [Nat.pow_add, Nat.pow_add, ← Nat.mul_assoc]
  calc w * 9 ^ a * 9 ^ c ≤ a * 14 ^ a * 9 ^ c := Nat.mul_le_mul_right _ h
    _ ≤ a * 14 ^ a * 14 ^ c := Nat.mul_le_mul_left _ (pow_le_pow c)
    _ ≤ (a + c) * 14 ^ a * 14 ^ c := Nat.mul_le_mul_right _ (Nat.mul_le_mul_right _ (by omega))
    _ = (a + c) * (14 ^ a * 14 ^ c) := Nat.mul_assoc _ _ _
theorem Can.le {w a b : Nat} (h : Can w a) (hab : a ≤ b) : Can w b := by
  have := h.mono (b - a)
  rwa [show a + (b - a) = b by omega] at this
theorem Can.add {w v a b : Nat} (h : Can w a) (g : Can v b) : Can (w + v) (a + b) := by
  unfold Can at *
  have h1 : w * 9 ^ (a + b) ≤ a * 14 ^ (a + b) := by
    rw [Nat.pow_add, Nat.pow_add, ← Nat.mul_assoc, ← Nat.mul_assoc]
    exact Nat.le_trans (Nat.mul_le_mul_right _ h) (Nat.mul_le_mul_left _ (pow_le_pow b))
  have h2 : v * 9 ^ (a + b) ≤ b * 14 ^ (a + b) := by
    rw [Nat.add_comm a b, Nat.pow_add, Nat.pow_add, ← Nat.mul_assoc, ← Nat.mul_assoc]
    exact Nat.le_trans (Nat.mul_le_mul_right _ g) (Nat.mul_le_mul_left _ (pow_le_pow a))
  rw [Nat.add_mul, Nat.add_mul]
  omega
theorem Can.times {w a : Nat} (h : Can w a) (n : Nat) (hn : n ≤ 9) : Can (n * w) (a + 5) := by
  unfold Can at *
  have e1 : n * w * 9 ^ (a + 5) ≤ 9 * 59049 * (w * 9 ^ a) := by
    rw [Nat.pow_add, show (9 : Nat) ^ 5 = 59049 by decide]
    have : n * w * (9 ^ a * 59049) = n * (59049 * (w * 9 ^ a)) := by
      rw [Nat.mul_assoc, ← Nat.mul_assoc w, Nat.mul_comm (w * 9 ^ a)]
    rw [this, Nat.mul_assoc]
    exact Nat.mul_le_mul_right _ hn
  have e2 : (a + 5) * 14 ^ (a + 5) = 537824 * ((a + 5) * 14 ^ a) := by
    rw [Nat.pow_add, show (14 : Nat) ^ 5 = 537824 by decide, ← Nat.mul_assoc, Nat.mul_comm]
  rw [e2]
  have e3 : a * 14 ^ a ≤ (a + 5) * 14 ^ a := Nat.mul_le_mul_right _ (by omega)
  omega
theorem Can.one : Can 1 1 := by unfold Can; decide
theorem Can.bound {w k : Nat} (h : Can w k) (hk : k ≤ 80) : w ≤ 1000000000000000000 := by
  have h80 := h.le hk
  unfold Can at h80
  rcases Nat.lt_or_ge 1000000000000000000 w with hw | hw
  · exfalso
    have : 1000000000000000000 * 9 ^ 80 ≤ w * 9 ^ 80 := Nat.mul_le_mul_right _ (by omega)
    have h2 : 80 * 14 ^ 80 < 1000000000000000000 * 9 ^ 80 := by decide +kernel
    omega
  · exact hw

theorem weightsV_append (a b : List Node) : weightsV (a ++ b) = weightsV a + weightsV b := by
  induction a with
  | nil => simp [weightsV]
  | cons x r ih => simp [weightsV, ih]; omega
theorem weightsV_one (n : Node) : weightsV [n] = weightV n := by simp [weightsV]

theorem tail_can (s : ByteArray) (n : Node) (i a : Nat) (nd : Node) (j : Nat) (hc : Can (weightV n) a) (_hi : i ≤ s.size) (h : tail s n i = .ok (nd, j)) : Can (weightV nd) (a + (j - i)) := by
  unfold tail at h
  split at h
  · cases h; rw [weightV_piece, if_neg (by omega)]; exact hc.mono _
  · split at h
    · cases h; rw [weightV_piece, if_neg (by omega)]; exact hc.mono _
    · split at h
      · cases h; rw [weightV_piece, if_neg (by omega)]; exact hc.mono _
      · split at h
        · rcases Res.split (counts s (i + 1)) with hc' | ⟨p, hc'⟩ | ⟨x, hc'⟩
          · rw [hc'] at h; cases h
          · rw [hc'] at h; cases h
          · rw [hc'] at h
            have hs := counts_small _ _ _ hc'
            cases h
            rw [weightV_piece, show i + 5 - i = 5 by omega]
            split
            · rw [Int.toNat_natCast]; exact hc.times _ hs
            · exact hc.mono _
        · cases h; exact hc.mono _

theorem heavies (s : ByteArray) : ∀ n,
    (∀ i opn d acc nd j d2, i ≤ s.size → formF s n i opn d acc = .ok (nd, j, d2) → ∃ e, weightV nd = weightsV acc + e ∧ Can e (j - i)) ∧
    (∀ i opn d acc nd j d2, i ≤ s.size → rowF s n i opn d acc = .ok (nd, j, d2) → ∃ e, weightV nd = weightsV acc + e ∧ Can e (j - i)) ∧
    (∀ i opn d nd j d2, pieceF s n i opn d = .ok (nd, j, d2) → Can (weightV nd) (j - i)) ∧
    (∀ i opn d nd j d2, atomF s n i opn d = .ok (nd, j, d2) → Can (weightV nd) (j - i)) := by
  intro n
  induction n with
  | zero =>
    refine ⟨?_, ?_, ?_, ?_⟩
    · intro i opn d acc nd j d2 _ h; rw [formF_z] at h; cases h
    · intro i opn d acc nd j d2 _ h; rw [rowF_z] at h; cases h
    · intro i opn d nd j d2 h; rw [pieceF_z] at h; cases h
    · intro i opn d nd j d2 h; rw [atomF_z] at h; cases h
  | succ n ih =>
    obtain ⟨hf, hr, hp, ha⟩ := ih
    refine ⟨?_, ?_, ?_, ?_⟩
    · intro i opn d acc nd j d2 hi h
      rw [formF_s] at h
      rcases Res.split (rowF s n i opn d []) with h1 | ⟨p, h1⟩ | ⟨x, h1⟩
      · (try rw [h1])
        rw [h1] at h; cases h
      · (try rw [h1])
        rw [h1] at h; cases h
      · (try rw [h1])
        obtain ⟨x1, x2, x3⟩ := x
        rw [h1] at h
        simp only [Res.bind_ok] at h
        have b1 := (bounds s n).2.1 _ _ _ _ _ _ _ hi h1
        obtain ⟨e1, he1, hc1⟩ := hr _ _ _ _ _ _ _ hi h1
        rw [weightsV, Nat.zero_add] at he1
        split at h
        · rename_i hc
          have hh := hasAt_true _ _ _ hc
          have b2 := (bounds s n).1 _ _ _ _ _ _ _ (by omega) h
          obtain ⟨e2, he2, hc2⟩ := hf _ _ _ _ _ _ _ (by omega) h
          refine ⟨e1 + e2, ?_, (hc1.add hc2).le (by omega)⟩
          rw [he2, weightsV_append, weightsV_one, he1]; omega
        · cases h
          refine ⟨e1, ?_, hc1⟩
          rw [weightV_form, weightsV_append, weightsV_one, he1]
    · intro i opn d acc nd j d2 hi h
      rw [rowF_s] at h
      split at h
      · rcases Res.split (pieceF s n i opn d) with h1 | ⟨p, h1⟩ | ⟨x, h1⟩
        · (try rw [h1])
          rw [h1] at h; cases h
        · (try rw [h1])
          rw [h1] at h; cases h
        · (try rw [h1])
          obtain ⟨x1, x2, x3⟩ := x
          rw [h1] at h
          simp only [Res.bind_ok] at h
          have b1 := (bounds s n).2.2.1 _ _ _ _ _ _ h1
          have hc1 := hp _ _ _ _ _ _ h1
          have b2 := (bounds s n).2.1 _ _ _ _ _ _ _ b1.2 h
          obtain ⟨e2, he2, hc2⟩ := hr _ _ _ _ _ _ _ b1.2 h
          refine ⟨weightV x1 + e2, ?_, (hc1.add hc2).le (by omega)⟩
          rw [he2, weightsV_append, weightsV_one]; omega
      · cases h
        exact ⟨0, by rw [weightV_row]; rfl, Can.zero _⟩
    · intro i opn d nd j d2 h
      rw [pieceF_s] at h
      rcases Res.split (atomF s n i opn d) with h1 | ⟨p, h1⟩ | ⟨x, h1⟩
      · (try rw [h1])
        rw [h1] at h; cases h
      · (try rw [h1])
        rw [h1] at h; cases h
      · (try rw [h1])
        obtain ⟨x1, x2, x3⟩ := x
        rw [h1] at h
        simp only [Res.bind_ok] at h
        have b1 := (bounds s n).2.2.2 _ _ _ _ _ _ h1
        rcases Res.split (tail s x1 x2) with h2 | ⟨p, h2⟩ | ⟨y, h2⟩
        · (try rw [h2])
          rw [h2] at h; cases h
        · (try rw [h2])
          rw [h2] at h; cases h
        · (try rw [h2])
          obtain ⟨y1, y2⟩ := y
          rw [h2] at h
          cases h
          have b2 := tail_ok _ _ _ _ _ b1.2 h2
          exact (tail_can s x1 x2 _ _ _ (ha _ _ _ _ _ _ h1) b1.2 h2).le (by omega)
    · intro i opn d nd j d2 h
      have bb := (bounds s (n + 1)).2.2.2 _ _ _ _ _ _ h
      rw [atomF_s] at h
      split at h
      · split at h
        · cases h; rw [everyN, weightV_set]; exact Can.one.le (by omega)
        · split at h
          · rcases Res.split (setR s n (i + 1)) with h1 | ⟨p, h1⟩ | ⟨x, h1⟩
            · (try rw [h1])
              rw [h1] at h; cases h
            · (try rw [h1])
              rw [h1] at h; cases h
            · (try rw [h1])
              obtain ⟨x1, x2⟩ := x
              rw [h1] at h
              unfold setR at h1
              rcases Res.split (spans s n (if hasAt s (i + 1) 94 then i + 1 + 1 else i + 1) []) with h2 | ⟨p, h2⟩ | ⟨y, h2⟩
              · (try rw [h2])
                rw [h2] at h1; cases h1
              · (try rw [h2])
                rw [h2] at h1; cases h1
              · (try rw [h2])
                rw [h2] at h1; cases h1; cases h; rw [weightV_set]; exact Can.one.le (by omega)
          · split at h
            · rcases Res.split (formF s n (i + 1) (opn + 1) (deeper i opn d) []) with h1 | ⟨p, h1⟩ | ⟨x, h1⟩
              · (try rw [h1])
                rw [h1] at h; cases h
              · (try rw [h1])
                rw [h1] at h; cases h
              · (try rw [h1])
                obtain ⟨x1, x2, x3⟩ := x
                rw [h1] at h
                simp only [Res.bind_ok] at h
                obtain ⟨e, he, hc⟩ := hf _ _ _ _ _ _ _ (by omega) h1
                have b1 := (bounds s n).1 _ _ _ _ _ _ _ (by omega) h1
                rw [weightsV, Nat.zero_add] at he
                split at h
                · cases h; rw [he]; exact hc.le (by omega)
                · cases h
            · split at h
              · split at h
                · split at h
                  · cases h
                  · cases h; rw [one, weightV_set]; exact Can.one.le (by omega)
                · cases h
              · cases h; rw [one, weightV_set]; exact Can.one.le (by omega)
      · cases h

theorem weightP_append (a b : List Part) : weightP (a ++ b) = weightP a + weightP b := by unfold weightP; rw [List.map_append, weightsV_append]
theorem weightP_one (x : Part) : weightP [x] = weightV x.2 := by unfold weightP; exact weightsV_one _
theorem weightL_append (a b : List (List Part)) : weightL (a ++ b) = weightL a + weightL b := by
  induction a with
  | nil => simp [weightL]
  | cons x r ih => simp [weightL] at ih ⊢; omega
theorem weightL_one (x : List Part) : weightL [x] = weightP x := by simp [weightL]

theorem pattern_can (s : ByteArray) : ∀ (n i : Nat) (d : Option Nat) (acc l : List Part) (j : Nat) (d2 : Option Nat), i ≤ s.size → (∀ x ∈ acc, Small x.2) → patternF s n i d acc = .ok (l, j, d2) → (∃ e, weightP l = weightP acc + e ∧ Can e (j - i)) ∧ ∀ x ∈ l, Small x.2 := by
  intro n
  induction n with
  | zero => intro i d acc l j d2 _ _ h; rw [patternF] at h; cases h
  | succ n ih =>
    intro i d acc l j d2 hi hacc h
    rw [patternF] at h
    have hle : (if hasAt s i 33 then i + 1 else i) ≤ s.size := by
      split
      · rename_i hc; have := hasAt_true _ _ _ hc; omega
      · exact hi
    have hge : i ≤ (if hasAt s i 33 then i + 1 else i) := by split <;> omega
    rcases Res.split (formF s n (if hasAt s i 33 then i + 1 else i) 0 d []) with h1 | ⟨p, h1⟩ | ⟨x, h1⟩
    · (try rw [h1])
      rw [h1] at h; cases h
    · (try rw [h1])
      rw [h1] at h; cases h
    · (try rw [h1])
      obtain ⟨x1, x2, x3⟩ := x
      rw [h1] at h
      simp only [Res.bind_ok] at h
      have b1 := (bounds s n).1 _ _ _ _ _ _ _ hle h1
      have s1 := (smalls s n).1 _ _ _ _ _ _ _ (fun x hx => by cases hx) h1
      obtain ⟨e1, he1, hc1⟩ := (heavies s n).1 _ _ _ _ _ _ _ hle h1
      rw [weightsV, Nat.zero_add] at he1
      have hall : ∀ x ∈ acc ++ [(hasAt s i 33, x1)], Small x.2 := by
        intro x hx
        rcases List.mem_append.1 hx with hx | hx
        · exact hacc x hx
        · simp only [List.mem_singleton] at hx; subst hx; exact s1
      split at h
      · rename_i hc
        have hh := hasAt_true _ _ _ hc
        have b2 := pattern_ok _ _ _ _ _ _ _ _ (by omega) h
        obtain ⟨⟨e2, he2, hc2⟩, hs2⟩ := ih _ _ _ _ _ _ (by omega) hall h
        refine ⟨⟨e1 + e2, ?_, (hc1.add hc2).le (by omega)⟩, hs2⟩
        rw [he2, weightP_append, weightP_one]; simp only; omega
      · cases h
        refine ⟨⟨e1, ?_, hc1.le (by omega)⟩, hall⟩
        rw [weightP_append, weightP_one]; simp only; omega
theorem list_can (s : ByteArray) : ∀ (n i : Nat) (d : Option Nat) (acc l : List (List Part)) (d2 : Option Nat), i ≤ s.size → (∀ p ∈ acc, ∀ x ∈ p, Small x.2) → listF s n i d acc = .ok (l, d2) → (∃ e, weightL l = weightL acc + e ∧ Can e (s.size - i)) ∧ ∀ p ∈ l, ∀ x ∈ p, Small x.2 := by
  intro n
  induction n with
  | zero => intro i d acc l d2 _ _ h; rw [listF] at h; cases h
  | succ n ih =>
    intro i d acc l d2 hi hacc h
    rw [listF] at h
    rcases Res.split (patternF s n i d []) with h1 | ⟨p, h1⟩ | ⟨x, h1⟩
    · (try rw [h1])
      rw [h1] at h; cases h
    · (try rw [h1])
      rw [h1] at h; cases h
    · (try rw [h1])
      obtain ⟨x1, x2, x3⟩ := x
      rw [h1] at h
      simp only [Res.bind_ok] at h
      have b1 := pattern_ok _ _ _ _ _ _ _ _ hi h1
      obtain ⟨⟨e1, he1, hc1⟩, hs1⟩ := pattern_can s n _ _ _ _ _ _ hi (fun x hx => by cases hx) h1
      rw [show weightP [] = 0 from rfl, Nat.zero_add] at he1
      have hall : ∀ p ∈ acc ++ [x1], ∀ x ∈ p, Small x.2 := by
        intro p hp
        rcases List.mem_append.1 hp with hp | hp
        · exact hacc p hp
        · simp only [List.mem_singleton] at hp; subst hp; exact hs1
      split at h
      · rename_i hc
        simp only [Bool.and_eq_true] at hc
        have hh := hasAt_true _ _ _ hc.1
        obtain ⟨⟨e2, he2, hc2⟩, hs2⟩ := ih _ _ _ _ _ (by omega) hall h
        refine ⟨⟨e1 + e2, ?_, (hc1.add hc2).le (by omega)⟩, hs2⟩
        rw [he2, weightL_append, weightL_one]; omega
      · split at h
        · cases h
        · cases h
          refine ⟨⟨e1, ?_, hc1.le (by omega)⟩, hall⟩
          rw [weightL_append, weightL_one]; omega
end Munch
/-
  PLAIN: the words of a node, a part, a pattern; the tag.
-/
namespace Munch

/-- From lo to hi words (hi below 0: any number). -/
def Times (L : List UInt8 → Prop) (lo hi : Int) (w : List UInt8) : Prop := ∃ k : Nat, lo ≤ k ∧ (hi < 0 ∨ (k : Int) ≤ hi) ∧ Pow L k w

def LangPart (p : Part) (w : List UInt8) : Prop := if p.1 then ¬ Lang p.2 w else Lang p.2 w
def LangPat (p : List Part) (w : List UInt8) : Prop := ∀ x ∈ p, LangPart x w

theorem lang_piece (n : Node) (lo hi : Int) (w : List UInt8) : Lang (.piece n lo hi) w ↔ Times (Lang n) lo hi w := Iff.rfl

theorem cut_take {α : Type} (w u v : List α) (h : w = u ++ v) : u = w.take u.length ∧ v = w.drop u.length ∧ u.length ≤ w.length := by
  subst h; simp

theorem langRow_cons (n : Node) (r : List Node) (w : List UInt8) : LangRow (n :: r) w ↔ ∃ k, k ≤ w.length ∧ Lang n (w.take k) ∧ LangRow r (w.drop k) := by
  rw [LangRow]
  constructor
  · rintro ⟨u, v, h, h1, h2⟩
    obtain ⟨e1, e2, e3⟩ := cut_take w u v h
    exact ⟨u.length, e3, by rw [← e1]; exact h1, by rw [← e2]; exact h2⟩
  · rintro ⟨k, hk, h1, h2⟩
    exact ⟨w.take k, w.drop k, (List.take_append_drop k w).symm, h1, h2⟩

theorem pow_strip (L : List UInt8 → Prop) : ∀ (k : Nat) (w : List UInt8), w ≠ [] → Pow L k w → ∃ j, j + 1 ≤ k ∧ ∃ u v, w = u ++ v ∧ u ≠ [] ∧ L u ∧ Pow L j v := by
  intro k
  induction k with
  | zero => intro w hw h; exact absurd h hw
  | succ k ih =>
    intro w hw h
    obtain ⟨u, v, e, h1, h2⟩ := h
    by_cases hu : u = []
    · subst hu
      simp at e
      subst e
      obtain ⟨j, hj, r⟩ := ih w hw h2
      exact ⟨j, by omega, r⟩
    · exact ⟨k, by omega, u, v, e, hu, h1, h2⟩

theorem times_empty (L : List UInt8 → Prop) (hi : Int) : Times L 0 hi [] ↔ (hi < 0 ∨ 0 ≤ hi) ∨ Times L 0 hi [] := by
  constructor
  · exact Or.inr
  · rintro (h | h)
    · exact ⟨0, by omega, by omega, rfl⟩
    · exact h
theorem times_nil (L : List UInt8 → Prop) (hi : Int) : Times L 0 hi [] := ⟨0, by omega, by omega, rfl⟩
theorem times_none (L : List UInt8 → Prop) (lo : Int) (w : List UInt8) (h0 : 0 ≤ lo) (h : ¬ (w = [] ∧ lo = 0)) : ¬ Times L lo 0 w := by
  rintro ⟨k, h1, h2, h3⟩
  have : k = 0 := by omega
  subst this
  exact h ⟨h3, by omega⟩
theorem times_more (L : List UInt8 → Prop) (lo hi : Int) (w : List UInt8) (h0 : 0 < lo) (hi0 : hi ≠ 0) :
    Times L lo hi w ↔ ∃ j, j ≤ w.length ∧ L (w.take j) ∧ Times L (lo - 1) (if hi < 0 then -1 else hi - 1) (w.drop j) := by
  constructor
  · rintro ⟨k, h1, h2, h3⟩
    obtain ⟨k, rfl⟩ : ∃ k', k = k' + 1 := ⟨k - 1, by omega⟩
    obtain ⟨u, v, e, h4, h5⟩ := h3
    obtain ⟨e1, e2, e3⟩ := cut_take w u v e
    refine ⟨u.length, e3, by rw [← e1]; exact h4, k, by omega, ?_, by rw [← e2]; exact h5⟩
    split <;> omega
  · rintro ⟨j, _, h4, k, h1, h2, h3⟩
    refine ⟨k + 1, by omega, ?_, w.take j, w.drop j, (List.take_append_drop j w).symm, h4, h3⟩
    split at h2 <;> omega
theorem times_zero (L : List UInt8 → Prop) (hi : Int) (w : List UInt8) (hw : w ≠ []) (hi0 : hi ≠ 0) :
    Times L 0 hi w ↔ ∃ j, 1 ≤ j ∧ j ≤ w.length ∧ L (w.take j) ∧ Times L 0 (if hi < 0 then -1 else hi - 1) (w.drop j) := by
  constructor
  · rintro ⟨k, h1, h2, h3⟩
    obtain ⟨j, hj, u, v, e, hu, h4, h5⟩ := pow_strip L k w hw h3
    obtain ⟨e1, e2, e3⟩ := cut_take w u v e
    refine ⟨u.length, ?_, e3, by rw [← e1]; exact h4, j, by omega, ?_, by rw [← e2]; exact h5⟩
    · cases u with
      | nil => exact absurd rfl hu
      | cons a b => simp
    · split <;> omega
  · rintro ⟨j, _, _, h4, k, h1, h2, h3⟩
    refine ⟨k + 1, by omega, ?_, w.take j, w.drop j, (List.take_append_drop j w).symm, h4, h3⟩
    split at h2 <;> omega
theorem langAny_iff (l : List Node) (w : List UInt8) : LangAny l w ↔ ∃ n ∈ l, Lang n w := by
  induction l with
  | nil => simp [LangAny]
  | cons n r ih => simp [LangAny, ih]
end Munch
