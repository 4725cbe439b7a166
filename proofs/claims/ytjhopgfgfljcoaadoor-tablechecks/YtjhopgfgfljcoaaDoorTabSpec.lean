/-
  PLAIN: what munchref's table functions compute, on lists of bytes. Nothing of the dump.
-/
namespace Munch

/-- hex: the worth of a sign; -1: none. -/
def hexV (c : UInt8) : Int :=
  if 48 ≤ (c.toNat : Int) ∧ (c.toNat : Int) ≤ 57 then (c.toNat : Int) - 48
  else if 97 ≤ (c.toNat : Int) ∧ (c.toNat : Int) ≤ 102 then (c.toNat : Int) - 97 + 10 else -1

theorem hexV_range (c : UInt8) : -1 ≤ hexV c ∧ hexV c ≤ 15 := by
  unfold hexV; split
  · omega
  · split <;> omega

/-- number: the n signs ahead of the rest, in that base, v before them; -1: they do not stand there. -/
def numV (base : Int) : Int → List UInt8 → Nat → Int
  | v, _, 0 => v
  | _, [], _ + 1 => -1
  | v, c :: r, n + 1 => if hexV c < 0 ∨ base ≤ hexV c then -1 else numV base (base * v + hexV c) r n

theorem numV_done (base v : Int) (l : List UInt8) : numV base v l 0 = v := by cases l <;> rfl
theorem numV_nil (base v : Int) (n : Nat) : numV base v [] (n + 1) = -1 := rfl
theorem numV_bad (base v : Int) (c : UInt8) (r : List UInt8) (n : Nat) (h : hexV c < 0 ∨ base ≤ hexV c) : numV base v (c :: r) (n + 1) = -1 := by
  rw [numV, if_pos h]
theorem numV_good (base v : Int) (c : UInt8) (r : List UInt8) (n : Nat) (h0 : 0 ≤ hexV c) (h1 : hexV c < base) : numV base v (c :: r) (n + 1) = numV base (base * v + hexV c) r n := by
  rw [numV, if_neg (by omega)]

theorem drop_cons (s : ByteArray) (k : Nat) (h : k < s.size) : s.data.toList.drop k = s[k] :: s.data.toList.drop (k + 1) := by
  rw [List.drop_eq_getElem_cons (by simpa using h)]; rfl
theorem drop_nil (s : ByteArray) (k : Nat) (h : s.size ≤ k) : s.data.toList.drop k = [] := by
  apply List.drop_of_length_le; simpa using h

/-- pieces: what stands between the ';' (59), cur ahead of the rest. -/
def splitF : List UInt8 → List UInt8 → List (List UInt8)
  | cur, [] => [cur]
  | cur, c :: r => if c.toNat = 59 then cur :: splitF [] r else splitF (cur ++ [c]) r

theorem splitF_cut (cur : List UInt8) (c : UInt8) (r : List UInt8) (h : c.toNat = 59) : splitF cur (c :: r) = cur :: splitF [] r := by rw [splitF, if_pos h]
theorem splitF_go (cur : List UInt8) (c : UInt8) (r : List UInt8) (h : ¬ c.toNat = 59) : splitF cur (c :: r) = splitF (cur ++ [c]) r := by rw [splitF, if_neg h]

/-- The bytes of s from a up to b. -/
def seg (s : ByteArray) (a b : Nat) : List UInt8 := (s.data.toList.take b).drop a

theorem seg_self (s : ByteArray) (a : Nat) : seg s a a = [] := by
  unfold seg; apply List.drop_of_length_le; simp; omega
theorem seg_snoc (s : ByteArray) (a b : Nat) (hab : a ≤ b) (hb : b < s.size) : seg s a (b + 1) = seg s a b ++ [s[b]] := by
  unfold seg
  rw [List.take_succ_eq_append_getElem (by simpa using hb), List.drop_append_of_le_length (by simp; omega)]; rfl
theorem seg_end (s : ByteArray) (a : Nat) : seg s a s.size = s.data.toList.drop a := by
  unfold seg; rw [List.take_of_length_le (by simp)]
theorem extract_seg (s : ByteArray) (a b : Nat) : (s.extract a b).data.toList = seg s a b := by
  unfold seg
  rw [ByteArray.data_extract]; simp [List.drop_take]

theorem numV_len (base : Int) : ∀ (n : Nat) (v : Int) (l : List UInt8), 0 ≤ numV base v l n → n ≤ l.length := by
  intro n
  induction n with
  | zero => intro v l _; exact Nat.zero_le _
  | succ n ih =>
    intro v l h
    cases l with
    | nil => rw [numV_nil] at h; omega
    | cons c r =>
      rw [numV] at h
      split at h
      · omega
      · have := ih _ _ h; simp; omega

theorem numV_range (base : Int) (hb : 0 ≤ base) (hb' : base ≤ 16) : ∀ (n : Nat) (v : Int) (l : List UInt8), 0 ≤ v → -1 ≤ numV base v l n ∧ numV base v l n < (v + 1) * 16 ^ n := by
  intro n
  induction n with
  | zero => intro v l h; rw [numV_done]; omega
  | succ n ih =>
    intro v l h
    have hp : (0 : Int) < 16 ^ n := Int.pow_pos (by decide)
    have hp' : (16 : Int) ^ (n + 1) = 16 ^ n * 16 := Int.pow_succ 16 n
    have hpos : 0 ≤ (v + 1) * 16 ^ (n + 1) := Int.mul_nonneg (by omega) (by omega)
    cases l with
    | nil => rw [numV_nil]; omega
    | cons c r =>
      have hr := hexV_range c
      rw [numV]
      split
      · omega
      · have h1 : 0 ≤ base * v := Int.mul_nonneg hb h
        have h2 : base * v ≤ 16 * v := Int.mul_le_mul_of_nonneg_right hb' h
        have := ih (base * v + hexV c) r (by omega)
        have h3 : (base * v + hexV c + 1) * 16 ^ n ≤ (16 * (v + 1)) * 16 ^ n := Int.mul_le_mul_of_nonneg_right (by omega) (by omega)
        have h4 : (16 * (v + 1)) * (16 : Int) ^ n = (v + 1) * 16 ^ (n + 1) := by rw [hp']; rw [Int.mul_comm 16 (v + 1), Int.mul_assoc, Int.mul_comm 16 (16 ^ n)]
        omega
theorem num2 (l : List UInt8) : -1 ≤ numV 16 0 l 2 ∧ numV 16 0 l 2 ≤ 255 := by
  have := numV_range 16 (by decide) (by decide) 2 0 l (by decide); simp at this; omega
theorem num4 (l : List UInt8) : -1 ≤ numV 10 0 l 4 ∧ numV 10 0 l 4 ≤ 65535 := by
  have := numV_range 10 (by decide) (by decide) 4 0 l (by decide); simp at this; omega

abbrev Edge := Int × Int × Int

/-- Is the edge at the head of r a wrong one? -/
def badEdge (n : Int) (r : List UInt8) (last : Int) : Bool :=
  decide ((r.getD 0 0).toNat ≠ 44) || decide (numV 16 0 (r.drop 1) 2 ≤ last) || decide (numV 16 0 (r.drop 3) 2 < numV 16 0 (r.drop 1) 2) || decide (numV 10 0 (r.drop 6) 4 < 0) || decide (n ≤ numV 10 0 (r.drop 6) 4) || decide ((r.getD 5 0).toNat ≠ 62)

/-- The edges of a state's text behind its tag, with fuel. -/
def edgesF : Nat → Int → List UInt8 → Int → List Edge → Option (List Edge)
  | _, _, [], _, acc => some acc
  | 0, _, _ :: _, _, _ => none
  | k + 1, n, c :: r, last, acc => if badEdge n (c :: r) last then none else edgesF k n ((c :: r).drop 10) (numV 16 0 ((c :: r).drop 3) 2) (acc ++ [(numV 16 0 ((c :: r).drop 1) 2, numV 16 0 ((c :: r).drop 3) 2, numV 10 0 ((c :: r).drop 6) 4)])

theorem edgesF_fuel : ∀ (k m : Nat) (n : Int) (r : List UInt8) (last : Int) (acc : List Edge), r.length ≤ k → r.length ≤ m → edgesF k n r last acc = edgesF m n r last acc := by
  intro k
  induction k with
  | zero =>
    intro m n r last acc h _
    have hr : r = [] := List.eq_nil_of_length_eq_zero (by omega)
    subst hr
    cases m <;> rfl
  | succ k ih =>
    intro m n r last acc h hm
    cases r with
    | nil => cases m <;> rfl
    | cons c r =>
      obtain ⟨m, rfl⟩ : ∃ q, m = q + 1 := ⟨m - 1, by simp at hm; omega⟩
      rw [edgesF, edgesF]
      split
      · rfl
      · exact ih m n _ _ _ (by simp at h ⊢; omega) (by simp at hm ⊢; omega)

/-- The edges of a state's text behind its tag. -/
def edges (n : Int) (r : List UInt8) (last : Int) (acc : List Edge) : Option (List Edge) := edgesF r.length n r last acc

theorem edges_nil (n last : Int) (acc : List Edge) : edges n [] last acc = some acc := rfl
theorem edges_bad (n : Int) (r : List UInt8) (last : Int) (acc : List Edge) (h0 : r ≠ []) (h : badEdge n r last = true) : edges n r last acc = none := by
  cases r with
  | nil => exact absurd rfl h0
  | cons c r' => unfold edges; rw [List.length_cons, edgesF, if_pos h]
theorem edges_good (n : Int) (r : List UInt8) (last : Int) (acc : List Edge) (h0 : r ≠ []) (h : badEdge n r last = false) : edges n r last acc = edges n (r.drop 10) (numV 16 0 (r.drop 3) 2) (acc ++ [(numV 16 0 (r.drop 1) 2, numV 16 0 (r.drop 3) 2, numV 10 0 (r.drop 6) 4)]) := by
  cases r with
  | nil => exact absurd rfl h0
  | cons c r' =>
    unfold edges
    rw [List.length_cons, edgesF, if_neg (by rw [h]; decide)]
    exact edgesF_fuel _ _ _ _ _ _ (by simp) (Nat.le_refl _)

theorem edges_at_bad (s : ByteArray) (i : Nat) (hi : i < s.size) (n x : Int) (L : List Edge)
    (h : s[i].toNat ≠ 44 ∨ numV 16 0 (s.data.toList.drop (i + 1)) 2 ≤ x ∨ numV 16 0 (s.data.toList.drop (i + 3)) 2 < numV 16 0 (s.data.toList.drop (i + 1)) 2 ∨ numV 10 0 (s.data.toList.drop (i + 6)) 4 < 0 ∨ n ≤ numV 10 0 (s.data.toList.drop (i + 6)) 4 ∨ ∃ h : i + 5 < s.size, s[i + 5].toNat ≠ 62) :
    edges n (s.data.toList.drop i) x L = none := by
  apply edges_bad
  · rw [drop_cons s i hi]; simp
  · unfold badEdge
    simp only [List.drop_drop, List.getD_eq_getElem?_getD, List.getElem?_drop]
    have h0 : (s.data.toList[i + 0]?).getD 0 = s[i] := by
      rw [Nat.add_zero, List.getElem?_eq_getElem (by simpa using hi)]; rfl
    rw [h0]
    simp only [Bool.or_eq_true, decide_eq_true_eq]
    rcases h with h | h | h | h | h | ⟨h5, h⟩
    · simp [h]
    · simp [h]
    · simp [h]
    · simp [h]
    · simp [h]
    · right
      have h0 : (s.data.toList[i + 5]?).getD 0 = s[i + 5] := by
        rw [List.getElem?_eq_getElem (by simpa using h5)]; rfl
      rw [h0]; exact h
theorem edges_at_good (s : ByteArray) (i : Nat) (hi : i < s.size) (n x : Int) (L : List Edge) (h5 : i + 5 < s.size)
    (h : s[i].toNat = 44 ∧ ¬ numV 16 0 (s.data.toList.drop (i + 1)) 2 ≤ x ∧ ¬ numV 16 0 (s.data.toList.drop (i + 3)) 2 < numV 16 0 (s.data.toList.drop (i + 1)) 2 ∧ ¬ numV 10 0 (s.data.toList.drop (i + 6)) 4 < 0 ∧ ¬ n ≤ numV 10 0 (s.data.toList.drop (i + 6)) 4 ∧ s[i + 5].toNat = 62) :
    edges n (s.data.toList.drop i) x L = edges n (s.data.toList.drop (i + 10)) (numV 16 0 (s.data.toList.drop (i + 3)) 2) (L ++ [(numV 16 0 (s.data.toList.drop (i + 1)) 2, numV 16 0 (s.data.toList.drop (i + 3)) 2, numV 10 0 (s.data.toList.drop (i + 6)) 4)]) := by
  rw [edges_good]
  · simp only [List.drop_drop]
  · rw [drop_cons s i hi]; simp
  · unfold badEdge
    simp only [List.drop_drop, List.getD_eq_getElem?_getD, List.getElem?_drop]
    have h0 : (s.data.toList[i + 0]?).getD 0 = s[i] := by
      rw [Nat.add_zero, List.getElem?_eq_getElem (by simpa using hi)]; rfl
    have h1 : (s.data.toList[i + 5]?).getD 0 = s[i + 5] := by
      rw [List.getElem?_eq_getElem (by simpa using h5)]; rfl
    rw [h0, h1]
    obtain ⟨a, b, c, d, e, f⟩ := h
    simp [a, b, c, d, e, f]
theorem num4_len (s : ByteArray) (i : Nat) (h : 0 ≤ numV 10 0 (s.data.toList.drop (i + 6)) 4) : i + 10 ≤ s.size := by
  have := numV_len 10 4 0 _ h; simp at this; omega

def badTag (c : UInt8) : Bool := decide (c.toNat ≠ 45) && (decide (c.toNat < 48) || decide (52 < c.toNat))
def tagV (c : UInt8) : Int := if c.toNat = 45 then -1 else (c.toNat : Int) - 48

/-- The state that a text writes, among n. -/
def stateV (s : List UInt8) (n : Int) : Option (Int × List Edge) :=
  match s with
  | [] => none
  | c :: r => if badTag c then none else (edges n r (-1) []).map fun E => (tagV c, E)

/-- States: behind the first i ones, acc; .error: the number of the first that is none. -/
def statesV (n : Int) : Nat → List (List UInt8) → List (Int × List Edge) → Except Nat (List (Int × List Edge))
  | _, [], acc => .ok acc
  | i, p :: r, acc => if 9999 ≤ i then .error i else match stateV p n with
    | none => .error i
    | some x => statesV n (i + 1) r (acc ++ [x])

theorem statesV_nil (n : Int) (i : Nat) (acc : List (Int × List Edge)) : statesV n i [] acc = .ok acc := rfl
theorem statesV_many (n : Int) (i : Nat) (p : List UInt8) (r : List (List UInt8)) (acc : List (Int × List Edge)) (h : 9999 ≤ i) : statesV n i (p :: r) acc = .error i := by rw [statesV, if_pos h]
theorem statesV_bad (n : Int) (i : Nat) (p : List UInt8) (r : List (List UInt8)) (acc : List (Int × List Edge)) (h : stateV p n = none) : statesV n i (p :: r) acc = .error i := by
  rw [statesV]; split
  · rfl
  · rw [h]
theorem statesV_good (n : Int) (i : Nat) (p : List UInt8) (r : List (List UInt8)) (acc : List (Int × List Edge)) (x : Int × List Edge) (h0 : i < 9999) (h : stateV p n = some x) : statesV n i (p :: r) acc = statesV n (i + 1) r (acc ++ [x]) := by
  rw [statesV, if_neg (by omega), h]

/-- The whole table. -/
def tableV (t : List UInt8) : Except Nat (List (Int × List Edge)) := statesV ((splitF [] t).length) 0 (splitF [] t) []

theorem splitF_length : ∀ (l cur : List UInt8), 1 ≤ (splitF cur l).length ∧ (splitF cur l).length ≤ l.length + 1 := by
  intro l
  induction l with
  | nil => intro cur; simp [splitF]
  | cons c r ih =>
    intro cur
    rw [splitF]
    split
    · have := ih []; simp; omega
    · have := ih (cur ++ [c]); simp; omega

theorem splitF_size : ∀ (l cur p : List UInt8), p ∈ splitF cur l → p.length ≤ cur.length + l.length := by
  intro l
  induction l with
  | nil => intro cur p hp; simp [splitF] at hp; subst hp; simp
  | cons c r ih =>
    intro cur p hp
    rw [splitF] at hp
    split at hp
    · simp at hp
      rcases hp with rfl | hp
      · simp
      · have := ih _ _ hp; simp at this ⊢; omega
    · have := ih _ _ hp; simp at this ⊢; omega

end Munch
