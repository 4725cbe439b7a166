import Derived.Test.YtkoaeojdlanolaaGreatDoorCb05
import Derived.Test.YtkoaeojdlanolaaGreatDoorCb03
/-
  THE WALK of the reader's piece: nothing behind the atom.
-/
namespace Go.Proofs.YtkoaeojdlanolaaGreatDoor
open Go.RowKit

/-- The contract of piece, at a fuel. -/
def PieceSaid (n : Nat) : Prop := ∀ (R : Nat) (s : ByteArray) (i : Nat) (bad : Int) (d : Option Nat) (opn : Nat) (w : World), Rd w R s i bad (deepI d) opn → bad < 0 → s.size ≤ 1000 → opn ≤ i → i < s.size → Munch.pieceF s n i opn d ≠ .out →
    Calls Tryz.prog 62 #[ptr R] w fun e w' => NodePost (Munch.pieceF s n i opn d) R s bad opn w e w'

/-- Where atom has come to its end: what piece has in hand: its result's block B, the node's block, the reader. -/
structure Got (R : Nat) (s : ByteArray) (j : Nat) (bad dp opn : Int) (w W : World) (N : Nat) (c : List Value) : Prop where
  rd : Rd W R s (j : Nat) bad dp opn
  kept : Kept R w W
  res : Blk W w.heap.size 57 zero5
  node : Blk W N 57 c.toArray
  lt : w.heap.size < N
  ne : R < w.heap.size

set_option maxHeartbeats 1000000 in
/-- No atom: what was read is handed on. -/
theorem piece_bad (R : Nat) (s : ByteArray) (n i : Nat) (bad : Int) (d : Option Nat) (opn : Nat) (w : World) (hatom : AtomSaid n) (hr : Rd w R s i bad (deepI d) opn) (hb : bad < 0) (hs : s.size ≤ 1000) (ho : opn ≤ i) (hi : i < s.size) (p : Nat) (hat : Munch.atomF s n i opn d = .bad p) :
    Calls Tryz.prog 62 #[ptr R] w fun e w' => NodePost (Munch.pieceF s (n + 1) i opn d) R s bad opn w e w' := by
  have HOK : Hid (Munch.pieceF s (n + 1) i opn d = .bad p) := by show _ = _; rw [Munch.pieceF_s, hat]; rfl
  have hRB := hr.lt
  have HAT : Hid _ := hat; clear hat
  go_enter Tryz.func62, Tryz.ntmps62
  go_wp2_with fail
  refine (hatom R s i bad d opn _ (hr.alloc _) hb hs ho hi (by rw [HAT.out]; simp)).mono ?_
  rintro e w3 (⟨nd, j, d2, cs, hf, rfl, hn, hr3, hk3⟩ | ⟨p', d2, cs, hf, rfl, hsh, hr3, hk3⟩)
  · rw [HAT.out] at hf; cases hf
  · rw [HAT.out] at hf; cases hf
    obtain ⟨k, sa, sn, sc, ba, bn, bc, lo, hi', rfl⟩ := hsh
    have hz := hk3.size
    rw [size_alloc] at hz
    have hr5 := hr3.alloc (.cells #[.int .i64 k, .slice sa sn sc, .slice ba bn bc, .int .i64 lo, .int .i64 hi'] 57)
    have hk5 : Kept R w (w3.alloc (.cells #[.int .i64 k, .slice sa sn sc, .slice ba bn bc, .int .i64 lo, .int .i64 hi'] 57)) := ((((Kept.refl R w).alloc _).trans hk3)).alloc _
    have hB5 : Blk (w3.alloc (.cells #[.int .i64 k, .slice sa sn sc, .slice ba bn bc, .int .i64 lo, .int .i64 hi'] 57)) w.heap.size 57 zero5 := (hk3.blk (Blk.new w zero5 57) (by omega)).alloc _
    have hN5 := Blk.new w3 #[.int .i64 k, .slice sa sn sc, .slice ba bn bc, .int .i64 lo, .int .i64 hi'] 57
    have y2 := hr3.c2
    have hd0 : decide (0 ≤ (p : Int)) = true := by simp
    have hR3 := hr3.lt
    obtain ⟨q0, q1, q2, q3, q4⟩ := hB5.cells5
    have g0 := hB5.frozen 0
    have g1 := hB5.frozen 1
    have g2 := hB5.frozen 2
    have g3 := hB5.frozen 3
    have g4 := hB5.frozen 4
    obtain ⟨p0, p1, p2, p3, p4⟩ := hN5.cells5
    go_wp2_with fail
    go_quiet (fail)
    obtain ⟨z0, z1, z2, z3, z4⟩ := (hB5.drewN nq).put5_cells (.int .i64 k) (.slice sa sn sc) (.slice ba bn bc) (.int .i64 lo) (.int .i64 hi')
    go_wp2_with fail
    refine bodyPost_ret (v := .agg #[.int .i64 k, .slice sa sn sc, .slice ba bn bc, .int .i64 lo, .int .i64 hi']) (by simp [results, Tryz.results62, go_sem, z0, z1, z2, z3, z4]) rfl ?_
    exact Or.inr ⟨_, _, [.int .i64 k, .slice sa sn sc, .slice ba bn bc, .int .i64 lo, .int .i64 hi'], HOK.out, rfl, ⟨_, _, _, _, _, _, _, _, _, rfl⟩, (hr5.drewN nq).put5 (by omega) _ _ _ _ _, (hk5.drewN nq).put5 (Or.inr (Nat.le_refl _)) _ _ _ _ _⟩
end Go.Proofs.YtkoaeojdlanolaaGreatDoor
/-
  THE WALK of the reader's piece: the atom alone.
-/
namespace Go.Proofs.YtkoaeojdlanolaaGreatDoor
open Go.RowKit

theorem RowAt.ofBlk {w : World} {ok : Nat → Prop} {g : Nat} {e : TypeId} {cur : Array Value} (h : Blk w g e cur) (n size : Nat) (hn : n ≤ 1000000) (hc : cur.size = n * size) (hok : ok g) : RowAt w ok e size (.slice (some ⟨g, 0, none⟩) n n) n cur.toList :=
  ⟨⟨by rw [Array.length_toList]; exact hc, Or.inr ⟨g, n, cur, rfl, Nat.zero_le _, h, Nat.le_refl _, by unfold maxLen; omega, hc, List.take_of_length_le (by rw [Array.length_toList, hc]; exact Nat.le_refl _)⟩⟩, fun g' hg => by cases hg; exact hok⟩

set_option maxHeartbeats 1000000 in
theorem piece_end (R : Nat) (s : ByteArray) (n i : Nat) (bad : Int) (d : Option Nat) (opn : Nat) (w : World) (hatom : AtomSaid n) (hr : Rd w R s i bad (deepI d) opn) (hb : bad < 0) (hs : s.size ≤ 1000) (ho : opn ≤ i) (hi : i < s.size) (nd : Munch.Node) (j : Nat) (d2 : Option Nat) (hat : Munch.atomF s n i opn d = .ok (nd, j, d2)) (hj : s.size ≤ j) :
    Calls Tryz.prog 62 #[ptr R] w fun e w' => NodePost (Munch.pieceF s (n + 1) i opn d) R s bad opn w e w' := by
  have HOK : Hid (Munch.pieceF s (n + 1) i opn d = .ok (nd, j, d2)) := by
    show _ = _
    rw [Munch.pieceF_s, hat]
    simp [Munch.tail, Munch.hasAt_ge _ _ _ hj]
  have hRB := hr.lt
  have HAT : Hid _ := hat; clear hat
  go_enter Tryz.func62, Tryz.ntmps62
  go_wp2_with fail
  refine (hatom R s i bad d opn _ (hr.alloc _) hb hs ho hi (by rw [HAT.out]; simp)).mono ?_
  rintro e w3 (⟨nd', j', d2', cs, hf, rfl, hn, hr3, hk3⟩ | ⟨p', d2', cs, hf, rfl, hsh, hr3, hk3⟩)
  case inr => rw [HAT.out] at hf; cases hf
  rw [HAT.out] at hf; cases hf
  obtain ⟨k, sa, sn, sc, ba, bn, bc, lo, hi', rfl⟩ := hn.shape
  have hz := hk3.size
  rw [size_alloc] at hz
  have hr5 := hr3.alloc (.cells #[.int .i64 k, .slice sa sn sc, .slice ba bn bc, .int .i64 lo, .int .i64 hi'] 57)
  have hk5 : Kept R w (w3.alloc (.cells #[.int .i64 k, .slice sa sn sc, .slice ba bn bc, .int .i64 lo, .int .i64 hi'] 57)) := ((((Kept.refl R w).alloc _).trans hk3)).alloc _
  have hB5 : Blk (w3.alloc (.cells #[.int .i64 k, .slice sa sn sc, .slice ba bn bc, .int .i64 lo, .int .i64 hi'] 57)) w.heap.size 57 zero5 := (hk3.blk (Blk.new w zero5 57) (by omega)).alloc _
  have hN5 := Blk.new w3 #[.int .i64 k, .slice sa sn sc, .slice ba bn bc, .int .i64 lo, .int .i64 hi'] 57
  have hn5 : NodeIn (w3.alloc (.cells #[.int .i64 k, .slice sa sn sc, .slice ba bn bc, .int .i64 lo, .int .i64 hi'] 57)) (w.heap.size + 1 ≤ ·) nd [.int .i64 k, .slice sa sn sc, .slice ba bn bc, .int .i64 lo, .int .i64 hi'] := (hn.keep (w' := w3.alloc (.cells #[.int .i64 k, .slice sa sn sc, .slice ba bn bc, .int .i64 lo, .int .i64 hi'] 57)) (fun b hb _ => Below.heap_alloc w3 _ b hb)).mono (fun b _ h => by have : (w.alloc (.cells zero5 57)).heap.size ≤ b := h; rw [size_alloc] at this; exact this)
  have hR3 := hr3.lt
  have hdb : decide (0 ≤ bad) = false := by simp; omega
  have y0 := hr3.c0
  have y1 := hr3.c1
  have y2 := hr3.c2
  have hd1 : decide (s.size ≤ j) = true := by simp; omega
  obtain ⟨q0, q1, q2, q3, q4⟩ := hB5.cells5
  have g0 := hB5.frozen 0
  have g1 := hB5.frozen 1
  have g2 := hB5.frozen 2
  have g3 := hB5.frozen 3
  have g4 := hB5.frozen 4
  obtain ⟨p0, p1, p2, p3, p4⟩ := hN5.cells5
  go_wp2_with fail
  go_quiet (fail)
  obtain ⟨z0, z1, z2, z3, z4⟩ := (hB5.drewN nq).put5_cells (.int .i64 k) (.slice sa sn sc) (.slice ba bn bc) (.int .i64 lo) (.int .i64 hi')
  go_wp2_with fail
  refine bodyPost_ret (v := .agg #[.int .i64 k, .slice sa sn sc, .slice ba bn bc, .int .i64 lo, .int .i64 hi']) (by simp [results, Tryz.results62, go_sem, z0, z1, z2, z3, z4]) rfl ?_
  exact Or.inl ⟨_, _, _, [.int .i64 k, .slice sa sn sc, .slice ba bn bc, .int .i64 lo, .int .i64 hi'], HOK.out, rfl, NodeIn.up (hn5.drewN nq) (by omega) _ _ _ _ _, (hr5.drewN nq).put5 (by omega) _ _ _ _ _, (hk5.drewN nq).put5 (Or.inr (Nat.le_refl _)) _ _ _ _ _⟩

/-- The piece's own block behind the atom. -/
abbrev pieceCells (g : Nat) (lo hi : Int) : Array Value := #[.int .i64 4, .slice none 0 0, .slice (some ⟨g, 0, none⟩) 1 1, .int .i64 lo, .int .i64 hi]

set_option maxHeartbeats 1000000 in
theorem piece_star (R : Nat) (s : ByteArray) (n i : Nat) (bad : Int) (d : Option Nat) (opn : Nat) (w : World) (hatom : AtomSaid n) (hr : Rd w R s i bad (deepI d) opn) (hb : bad < 0) (hs : s.size ≤ 1000) (ho : opn ≤ i) (hi : i < s.size) (nd : Munch.Node) (j : Nat) (d2 : Option Nat) (hat : Munch.atomF s n i opn d = .ok (nd, j, d2)) (hj : j < s.size) (hc : s[j].toNat = 42) :
    Calls Tryz.prog 62 #[ptr R] w fun e w' => NodePost (Munch.pieceF s (n + 1) i opn d) R s bad opn w e w' := by
  have HOK : Hid (Munch.pieceF s (n + 1) i opn d = .ok (.piece nd 0 (-1), j + 1, d2)) := by
    show _ = _
    rw [Munch.pieceF_s, hat]
    simp [Munch.tail, Munch.hasAt_lt _ _ _ hj, hc]
  have k42 : ((s[j].toNat : Int) == 42) = true := by rw [hc]; rfl
  clear hc
  have hRB := hr.lt
  have HAT : Hid _ := hat; clear hat
  go_enter Tryz.func62, Tryz.ntmps62
  go_wp2_with fail
  refine (hatom R s i bad d opn _ (hr.alloc _) hb hs ho hi (by rw [HAT.out]; simp)).mono ?_
  rintro e w3 (⟨nd', j', d2', cs, hf, rfl, hn, hr3, hk3⟩ | ⟨p', d2', cs, hf, rfl, hsh, hr3, hk3⟩)
  case inr => rw [HAT.out] at hf; cases hf
  rw [HAT.out] at hf; cases hf
  obtain ⟨k, sa, sn, sc, ba, bn, bc, lo, hi', rfl⟩ := hn.shape
  have hz := hk3.size
  rw [size_alloc] at hz
  have hr5 := hr3.alloc (.cells #[.int .i64 k, .slice sa sn sc, .slice ba bn bc, .int .i64 lo, .int .i64 hi'] 57)
  have hk5 : Kept R w (w3.alloc (.cells #[.int .i64 k, .slice sa sn sc, .slice ba bn bc, .int .i64 lo, .int .i64 hi'] 57)) := ((((Kept.refl R w).alloc _).trans hk3)).alloc _
  have hB5 : Blk (w3.alloc (.cells #[.int .i64 k, .slice sa sn sc, .slice ba bn bc, .int .i64 lo, .int .i64 hi'] 57)) w.heap.size 57 zero5 := (hk3.blk (Blk.new w zero5 57) (by omega)).alloc _
  have hN5 := Blk.new w3 #[.int .i64 k, .slice sa sn sc, .slice ba bn bc, .int .i64 lo, .int .i64 hi'] 57
  have hn5 : NodeIn (w3.alloc (.cells #[.int .i64 k, .slice sa sn sc, .slice ba bn bc, .int .i64 lo, .int .i64 hi'] 57)) (fun b => w.heap.size + 1 ≤ b ∧ b + 1 < w3.heap.size + 1) nd [.int .i64 k, .slice sa sn sc, .slice ba bn bc, .int .i64 lo, .int .i64 hi'] := (hn.mono (ok' := fun b => w.heap.size + 1 ≤ b ∧ b + 1 < w3.heap.size + 1) (fun b hb h => by have : (w.alloc (.cells zero5 57)).heap.size ≤ b := h; rw [size_alloc] at this; exact ⟨this, by omega⟩)).keep (fun b hb _ => Below.heap_alloc w3 _ b hb)
  have hR3 := hr3.lt
  have hdb : decide (0 ≤ bad) = false := by simp; omega
  have y0 := hr3.c0
  have y1 := hr3.c1
  have y2 := hr3.c2
  have hd1 : decide (s.size ≤ j) = false := by simp; omega
  obtain ⟨p0, p1, p2, p3, p4⟩ := hN5.cells5
  go_wp2_with fail
  go_quiet (fail)
  obtain ⟨m1, hm1⟩ : ∃ m1 : Nat, m1 = nq := ⟨_, rfl⟩
  subst hm1
  go_wp2_with fail
  have hrX : Rd ((((w3.alloc (.cells #[.int .i64 k, .slice sa sn sc, .slice ba bn bc, .int .i64 lo, .int .i64 hi'] 57)).drewN m1).alloc (.cells #[.int .i64 k, .slice sa sn sc, .slice ba bn bc, .int .i64 lo, .int .i64 hi'] 57)).alloc (.cells (pieceCells (w3.heap.size + 1) 0 0) 57)) R s (j : Nat) bad (deepI d2) opn := ((hr5.drewN m1).alloc _).alloc _
  have hkX : Kept R w ((((w3.alloc (.cells #[.int .i64 k, .slice sa sn sc, .slice ba bn bc, .int .i64 lo, .int .i64 hi'] 57)).drewN m1).alloc (.cells #[.int .i64 k, .slice sa sn sc, .slice ba bn bc, .int .i64 lo, .int .i64 hi'] 57)).alloc (.cells (pieceCells (w3.heap.size + 1) 0 0) 57)) := ((hk5.drewN m1).alloc _).alloc _
  have hBX : Blk ((((w3.alloc (.cells #[.int .i64 k, .slice sa sn sc, .slice ba bn bc, .int .i64 lo, .int .i64 hi'] 57)).drewN m1).alloc (.cells #[.int .i64 k, .slice sa sn sc, .slice ba bn bc, .int .i64 lo, .int .i64 hi'] 57)).alloc (.cells (pieceCells (w3.heap.size + 1) 0 0) 57)) w.heap.size 57 zero5 := ((hB5.drewN m1).alloc _).alloc _
  have hNX : Blk ((((w3.alloc (.cells #[.int .i64 k, .slice sa sn sc, .slice ba bn bc, .int .i64 lo, .int .i64 hi'] 57)).drewN m1).alloc (.cells #[.int .i64 k, .slice sa sn sc, .slice ba bn bc, .int .i64 lo, .int .i64 hi'] 57)).alloc (.cells (pieceCells (w3.heap.size + 1) 0 0) 57)) w3.heap.size 57 #[.int .i64 k, .slice sa sn sc, .slice ba bn bc, .int .i64 lo, .int .i64 hi'] := ((hN5.drewN m1).alloc _).alloc _
  have hSX : Blk ((((w3.alloc (.cells #[.int .i64 k, .slice sa sn sc, .slice ba bn bc, .int .i64 lo, .int .i64 hi'] 57)).drewN m1).alloc (.cells #[.int .i64 k, .slice sa sn sc, .slice ba bn bc, .int .i64 lo, .int .i64 hi'] 57)).alloc (.cells (pieceCells (w3.heap.size + 1) 0 0) 57)) (w3.heap.size + 1) 57 #[.int .i64 k, .slice sa sn sc, .slice ba bn bc, .int .i64 lo, .int .i64 hi'] := by
    have := (Blk.new ((w3.alloc (.cells #[.int .i64 k, .slice sa sn sc, .slice ba bn bc, .int .i64 lo, .int .i64 hi'] 57)).drewN m1) #[.int .i64 k, .slice sa sn sc, .slice ba bn bc, .int .i64 lo, .int .i64 hi'] 57).alloc (.cells (pieceCells (w3.heap.size + 1) 0 0) 57)
    rw [show ((w3.alloc (.cells #[.int .i64 k, .slice sa sn sc, .slice ba bn bc, .int .i64 lo, .int .i64 hi'] 57)).drewN m1).heap.size = w3.heap.size + 1 from size_alloc _ _] at this
    exact this
  have hPX : Blk ((((w3.alloc (.cells #[.int .i64 k, .slice sa sn sc, .slice ba bn bc, .int .i64 lo, .int .i64 hi'] 57)).drewN m1).alloc (.cells #[.int .i64 k, .slice sa sn sc, .slice ba bn bc, .int .i64 lo, .int .i64 hi'] 57)).alloc (.cells (pieceCells (w3.heap.size + 1) 0 0) 57)) (w3.heap.size + 1 + 1) 57 (pieceCells (w3.heap.size + 1) 0 0) := by
    have := Blk.new (((w3.alloc (.cells #[.int .i64 k, .slice sa sn sc, .slice ba bn bc, .int .i64 lo, .int .i64 hi'] 57)).drewN m1).alloc (.cells #[.int .i64 k, .slice sa sn sc, .slice ba bn bc, .int .i64 lo, .int .i64 hi'] 57)) (pieceCells (w3.heap.size + 1) 0 0) 57
    rw [size_alloc, show ((w3.alloc (.cells #[.int .i64 k, .slice sa sn sc, .slice ba bn bc, .int .i64 lo, .int .i64 hi'] 57)).drewN m1).heap.size = w3.heap.size + 1 from size_alloc _ _] at this
    exact this
  have hnX : NodeIn ((((w3.alloc (.cells #[.int .i64 k, .slice sa sn sc, .slice ba bn bc, .int .i64 lo, .int .i64 hi'] 57)).drewN m1).alloc (.cells #[.int .i64 k, .slice sa sn sc, .slice ba bn bc, .int .i64 lo, .int .i64 hi'] 57)).alloc (.cells (pieceCells (w3.heap.size + 1) 0 0) 57)) (fun b => w.heap.size + 1 ≤ b ∧ b + 1 < w3.heap.size + 1) nd [.int .i64 k, .slice sa sn sc, .slice ba bn bc, .int .i64 lo, .int .i64 hi'] := (hn5.drewN m1).keep (fun b hb _ => (Below.heap_alloc _ _ b (by rw [size_alloc]; omega)).trans (Below.heap_alloc _ _ b hb))
  have hgt : w.heap.size + 1 ≤ w3.heap.size + 1 := by omega
  clear hr5 hk5 hB5 hN5 hn5 y0 y1 y2 p0 p1 p2 p3 p4 hr3 hk3 hn
  generalize ((((w3.alloc (.cells #[.int .i64 k, .slice sa sn sc, .slice ba bn bc, .int .i64 lo, .int .i64 hi'] 57)).drewN m1).alloc (.cells #[.int .i64 k, .slice sa sn sc, .slice ba bn bc, .int .i64 lo, .int .i64 hi'] 57)).alloc (.cells (pieceCells (w3.heap.size + 1) 0 0) 57)) = X at *
  generalize w3.heap.size + 1 = G at *
  have y0 := hrX.c0
  have y1 := hrX.c1
  have yf := hrX.fr 1
  obtain ⟨q0, q1, q2, q3, q4⟩ := hBX.cells5
  have g0 := hBX.frozen 0
  have g1 := hBX.frozen 1
  have g2 := hBX.frozen 2
  have g3 := hBX.frozen 3
  have g4 := hBX.frozen 4
  obtain ⟨p0, p1, p2, p3, p4⟩ := hPX.cells5
  have h3 := hPX.frozen 3
  have h4 := hPX.frozen 4
  have hRX := hrX.lt
  have s0 : ∀ a, ((X.drewN a).setCell ⟨G + 1, 4, none⟩ (.int .i64 (-1))).cell? ⟨G + 1, 4, none⟩ = some (.int .i64 (-1)) := fun a => by have := ((hPX.drewN a).set 4 (.int .i64 (-1))).cell 4; simpa using this
  go_quiet (fail)
  have hBY : Blk (((X.drewN nq).setCell ⟨G + 1, 4, none⟩ (.int .i64 (-1))).setCell ⟨R, 1, none⟩ (.int .i64 (j + 1))) w.heap.size 57 zero5 := ((hBX.drewN nq).setOther (by simp <;> omega) _).setOther (by simp <;> omega) _
  have hPY : Blk (((X.drewN nq).setCell ⟨G + 1, 4, none⟩ (.int .i64 (-1))).setCell ⟨R, 1, none⟩ (.int .i64 (j + 1))) (G + 1) 57 (pieceCells G 0 (-1)) := by
    have := ((hPX.drewN nq).set 4 (.int .i64 (-1))).setOther (a := ⟨R, 1, none⟩) (by simp <;> omega) (.int .i64 (j + 1))
    simpa using this
  have hSY : Blk (((X.drewN nq).setCell ⟨G + 1, 4, none⟩ (.int .i64 (-1))).setCell ⟨R, 1, none⟩ (.int .i64 (j + 1))) G 57 #[.int .i64 k, .slice sa sn sc, .slice ba bn bc, .int .i64 lo, .int .i64 hi'] := ((hSX.drewN nq).setOther (by simp <;> omega) _).setOther (by simp <;> omega) _
  have hrY : Rd (((X.drewN nq).setCell ⟨G + 1, 4, none⟩ (.int .i64 (-1))).setCell ⟨R, 1, none⟩ (.int .i64 (j + 1))) R s (j + 1 : Nat) bad (deepI d2) opn := (((hrX.drewN nq).other (by simp <;> omega) _).set1 _).at_ (by omega) rfl
  have hkY : Kept R w (((X.drewN nq).setCell ⟨G + 1, 4, none⟩ (.int .i64 (-1))).setCell ⟨R, 1, none⟩ (.int .i64 (j + 1))) := ((hkX.drewN nq).setCell (Or.inr (by simp <;> omega)) _).setR _ _
  have hnY : NodeIn (((X.drewN nq).setCell ⟨G + 1, 4, none⟩ (.int .i64 (-1))).setCell ⟨R, 1, none⟩ (.int .i64 (j + 1))) (fun b => w.heap.size + 1 ≤ b ∧ b + 1 < G) nd [.int .i64 k, .slice sa sn sc, .slice ba bn bc, .int .i64 lo, .int .i64 hi'] := (hnX.drewN nq).keep (fun b _ hok => (Below.heap_setCell _ _ _ b (by have := hok.1; simp <;> omega)).trans (Below.heap_setCell _ _ _ b (by have := hok.2; simp <;> omega)))
  obtain ⟨z0, z1, z2, z3, z4⟩ := hBY.put5_cells (.int .i64 4) (.slice none 0 0) (.slice (some ⟨G, 0, none⟩) 1 1) (.int .i64 0) (.int .i64 (-1))
  go_wp2_with fail
  refine bodyPost_ret (v := .agg (pieceCells G 0 (-1))) (by simp [results, Tryz.results62, go_sem, z0, z1, z2, z3, z4]) rfl ?_
  refine Or.inl ⟨_, _, _, [.int .i64 4, .slice none 0 0, .slice (some ⟨G, 0, none⟩) 1 1, .int .i64 0, .int .i64 (-1)], HOK.out, rfl, ?_, hrY.put5 (by omega) _ _ _ _ _, hkY.put5 (Or.inr (Nat.le_refl _)) _ _ _ _ _⟩
  refine NodeIn.piece nd [.int .i64 k, .slice sa sn sc, .slice ba bn bc, .int .i64 lo, .int .i64 hi'] _ _ _ (RowAt.ofBlk (cur := #[.int .i64 k, .slice sa sn sc, .slice ba bn bc, .int .i64 lo, .int .i64 hi']) ((put5_other _ _ _ _ _ _ (by omega)).trans hSY) 1 5 (by omega) rfl (by omega)) ?_
  exact (hnY.put5 (fun b hok => by have := hok.1; omega) _ _ _ _ _).mono (fun b _ hok => by have := hok.1; show w.heap.size ≤ b; omega)

end Go.Proofs.YtkoaeojdlanolaaGreatDoor
/-
  THE WALK of the reader's piece: + and ?.
-/
namespace Go.Proofs.YtkoaeojdlanolaaGreatDoor
open Go.RowKit

set_option maxHeartbeats 1000000 in
theorem piece_plus (R : Nat) (s : ByteArray) (n i : Nat) (bad : Int) (d : Option Nat) (opn : Nat) (w : World) (hatom : AtomSaid n) (hr : Rd w R s i bad (deepI d) opn) (hb : bad < 0) (hs : s.size ≤ 1000) (ho : opn ≤ i) (hi : i < s.size) (nd : Munch.Node) (j : Nat) (d2 : Option Nat) (hat : Munch.atomF s n i opn d = .ok (nd, j, d2)) (hj : j < s.size) (hc : s[j].toNat = 43) :
    Calls Tryz.prog 62 #[ptr R] w fun e w' => NodePost (Munch.pieceF s (n + 1) i opn d) R s bad opn w e w' := by
  have HOK : Hid (Munch.pieceF s (n + 1) i opn d = .ok (.piece nd 1 (-1), j + 1, d2)) := by
    show _ = _
    rw [Munch.pieceF_s, hat]
    simp [Munch.tail, Munch.hasAt_lt _ _ _ hj, hc]
  have k42 : ((s[j].toNat : Int) == 42) = false := by rw [hc]; rfl
  have k43 : ((s[j].toNat : Int) == 43) = true := by rw [hc]; rfl
  clear hc
  have hRB := hr.lt
  have HAT : Hid _ := hat; clear hat
  go_enter Tryz.func62, Tryz.ntmps62
  go_wp2_with fail
  refine (hatom R s i bad d opn _ (hr.alloc _) hb hs ho hi (by rw [HAT.out]; simp)).mono ?_
  rintro e w3 (⟨nd', j', d2', cs, hf, rfl, hn, hr3, hk3⟩ | ⟨p', d2', cs, hf, rfl, hsh, hr3, hk3⟩)
  case inr => rw [HAT.out] at hf; cases hf
  rw [HAT.out] at hf; cases hf
  obtain ⟨k, sa, sn, sc, ba, bn, bc, lo, hi', rfl⟩ := hn.shape
  have hz := hk3.size
  rw [size_alloc] at hz
  have hr5 := hr3.alloc (.cells #[.int .i64 k, .slice sa sn sc, .slice ba bn bc, .int .i64 lo, .int .i64 hi'] 57)
  have hk5 : Kept R w (w3.alloc (.cells #[.int .i64 k, .slice sa sn sc, .slice ba bn bc, .int .i64 lo, .int .i64 hi'] 57)) := ((((Kept.refl R w).alloc _).trans hk3)).alloc _
  have hB5 : Blk (w3.alloc (.cells #[.int .i64 k, .slice sa sn sc, .slice ba bn bc, .int .i64 lo, .int .i64 hi'] 57)) w.heap.size 57 zero5 := (hk3.blk (Blk.new w zero5 57) (by omega)).alloc _
  have hN5 := Blk.new w3 #[.int .i64 k, .slice sa sn sc, .slice ba bn bc, .int .i64 lo, .int .i64 hi'] 57
  have hn5 : NodeIn (w3.alloc (.cells #[.int .i64 k, .slice sa sn sc, .slice ba bn bc, .int .i64 lo, .int .i64 hi'] 57)) (fun b => w.heap.size + 1 ≤ b ∧ b + 1 < w3.heap.size + 1) nd [.int .i64 k, .slice sa sn sc, .slice ba bn bc, .int .i64 lo, .int .i64 hi'] := (hn.mono (ok' := fun b => w.heap.size + 1 ≤ b ∧ b + 1 < w3.heap.size + 1) (fun b hb h => by have : (w.alloc (.cells zero5 57)).heap.size ≤ b := h; rw [size_alloc] at this; exact ⟨this, by omega⟩)).keep (fun b hb _ => Below.heap_alloc w3 _ b hb)
  have hR3 := hr3.lt
  have hdb : decide (0 ≤ bad) = false := by simp; omega
  have y0 := hr3.c0
  have y1 := hr3.c1
  have y2 := hr3.c2
  have hd1 : decide (s.size ≤ j) = false := by simp; omega
  obtain ⟨p0, p1, p2, p3, p4⟩ := hN5.cells5
  go_wp2_with fail
  go_quiet (fail)
  obtain ⟨m1, hm1⟩ : ∃ m1 : Nat, m1 = nq := ⟨_, rfl⟩
  subst hm1
  go_wp2_with fail
  have hrX : Rd ((((w3.alloc (.cells #[.int .i64 k, .slice sa sn sc, .slice ba bn bc, .int .i64 lo, .int .i64 hi'] 57)).drewN m1).alloc (.cells #[.int .i64 k, .slice sa sn sc, .slice ba bn bc, .int .i64 lo, .int .i64 hi'] 57)).alloc (.cells (pieceCells (w3.heap.size + 1) 0 0) 57)) R s (j : Nat) bad (deepI d2) opn := ((hr5.drewN m1).alloc _).alloc _
  have hkX : Kept R w ((((w3.alloc (.cells #[.int .i64 k, .slice sa sn sc, .slice ba bn bc, .int .i64 lo, .int .i64 hi'] 57)).drewN m1).alloc (.cells #[.int .i64 k, .slice sa sn sc, .slice ba bn bc, .int .i64 lo, .int .i64 hi'] 57)).alloc (.cells (pieceCells (w3.heap.size + 1) 0 0) 57)) := ((hk5.drewN m1).alloc _).alloc _
  have hBX : Blk ((((w3.alloc (.cells #[.int .i64 k, .slice sa sn sc, .slice ba bn bc, .int .i64 lo, .int .i64 hi'] 57)).drewN m1).alloc (.cells #[.int .i64 k, .slice sa sn sc, .slice ba bn bc, .int .i64 lo, .int .i64 hi'] 57)).alloc (.cells (pieceCells (w3.heap.size + 1) 0 0) 57)) w.heap.size 57 zero5 := ((hB5.drewN m1).alloc _).alloc _
  have hNX : Blk ((((w3.alloc (.cells #[.int .i64 k, .slice sa sn sc, .slice ba bn bc, .int .i64 lo, .int .i64 hi'] 57)).drewN m1).alloc (.cells #[.int .i64 k, .slice sa sn sc, .slice ba bn bc, .int .i64 lo, .int .i64 hi'] 57)).alloc (.cells (pieceCells (w3.heap.size + 1) 0 0) 57)) w3.heap.size 57 #[.int .i64 k, .slice sa sn sc, .slice ba bn bc, .int .i64 lo, .int .i64 hi'] := ((hN5.drewN m1).alloc _).alloc _
  have hSX : Blk ((((w3.alloc (.cells #[.int .i64 k, .slice sa sn sc, .slice ba bn bc, .int .i64 lo, .int .i64 hi'] 57)).drewN m1).alloc (.cells #[.int .i64 k, .slice sa sn sc, .slice ba bn bc, .int .i64 lo, .int .i64 hi'] 57)).alloc (.cells (pieceCells (w3.heap.size + 1) 0 0) 57)) (w3.heap.size + 1) 57 #[.int .i64 k, .slice sa sn sc, .slice ba bn bc, .int .i64 lo, .int .i64 hi'] := by
    have := (Blk.new ((w3.alloc (.cells #[.int .i64 k, .slice sa sn sc, .slice ba bn bc, .int .i64 lo, .int .i64 hi'] 57)).drewN m1) #[.int .i64 k, .slice sa sn sc, .slice ba bn bc, .int .i64 lo, .int .i64 hi'] 57).alloc (.cells (pieceCells (w3.heap.size + 1) 0 0) 57)
    rw [show ((w3.alloc (.cells #[.int .i64 k, .slice sa sn sc, .slice ba bn bc, .int .i64 lo, .int .i64 hi'] 57)).drewN m1).heap.size = w3.heap.size + 1 from size_alloc _ _] at this
    exact this
  have hPX : Blk ((((w3.alloc (.cells #[.int .i64 k, .slice sa sn sc, .slice ba bn bc, .int .i64 lo, .int .i64 hi'] 57)).drewN m1).alloc (.cells #[.int .i64 k, .slice sa sn sc, .slice ba bn bc, .int .i64 lo, .int .i64 hi'] 57)).alloc (.cells (pieceCells (w3.heap.size + 1) 0 0) 57)) (w3.heap.size + 1 + 1) 57 (pieceCells (w3.heap.size + 1) 0 0) := by
    have := Blk.new (((w3.alloc (.cells #[.int .i64 k, .slice sa sn sc, .slice ba bn bc, .int .i64 lo, .int .i64 hi'] 57)).drewN m1).alloc (.cells #[.int .i64 k, .slice sa sn sc, .slice ba bn bc, .int .i64 lo, .int .i64 hi'] 57)) (pieceCells (w3.heap.size + 1) 0 0) 57
    rw [size_alloc, show ((w3.alloc (.cells #[.int .i64 k, .slice sa sn sc, .slice ba bn bc, .int .i64 lo, .int .i64 hi'] 57)).drewN m1).heap.size = w3.heap.size + 1 from size_alloc _ _] at this
    exact this
  have hnX : NodeIn ((((w3.alloc (.cells #[.int .i64 k, .slice sa sn sc, .slice ba bn bc, .int .i64 lo, .int .i64 hi'] 57)).drewN m1).alloc (.cells #[.int .i64 k, .slice sa sn sc, .slice ba bn bc, .int .i64 lo, .int .i64 hi'] 57)).alloc (.cells (pieceCells (w3.heap.size + 1) 0 0) 57)) (fun b => w.heap.size + 1 ≤ b ∧ b + 1 < w3.heap.size + 1) nd [.int .i64 k, .slice sa sn sc, .slice ba bn bc, .int .i64 lo, .int .i64 hi'] := (hn5.drewN m1).keep (fun b hb _ => (Below.heap_alloc _ _ b (by rw [size_alloc]; omega)).trans (Below.heap_alloc _ _ b hb))
  have hgt : w.heap.size + 1 ≤ w3.heap.size + 1 := by omega
  clear hr5 hk5 hB5 hN5 hn5 y0 y1 y2 p0 p1 p2 p3 p4 hr3 hk3 hn
  generalize ((((w3.alloc (.cells #[.int .i64 k, .slice sa sn sc, .slice ba bn bc, .int .i64 lo, .int .i64 hi'] 57)).drewN m1).alloc (.cells #[.int .i64 k, .slice sa sn sc, .slice ba bn bc, .int .i64 lo, .int .i64 hi'] 57)).alloc (.cells (pieceCells (w3.heap.size + 1) 0 0) 57)) = X at *
  generalize w3.heap.size + 1 = G at *
  have y0 := hrX.c0
  have y1 := hrX.c1
  have yf := hrX.fr 1
  obtain ⟨q0, q1, q2, q3, q4⟩ := hBX.cells5
  have g0 := hBX.frozen 0
  have g1 := hBX.frozen 1
  have g2 := hBX.frozen 2
  have g3 := hBX.frozen 3
  have g4 := hBX.frozen 4
  obtain ⟨p0, p1, p2, p3, p4⟩ := hPX.cells5
  have h3 := hPX.frozen 3
  have h4 := hPX.frozen 4
  have hRX := hrX.lt
  have s0 : ∀ a, ((X.drewN a).setCell ⟨G + 1, 3, none⟩ (.int .i64 1)).cell? ⟨G + 1, 3, none⟩ = some (.int .i64 1) := fun a => by have := ((hPX.drewN a).set 3 (.int .i64 1)).cell 3; simpa using this
  have s1 : ∀ a, (((X.drewN a).setCell ⟨G + 1, 3, none⟩ (.int .i64 1)).setCell ⟨G + 1, 4, none⟩ (.int .i64 (-1))).cell? ⟨G + 1, 4, none⟩ = some (.int .i64 (-1)) := fun a => by have := (((hPX.drewN a).set 3 (.int .i64 1)).set 4 (.int .i64 (-1))).cell 4; simpa using this
  go_quiet (fail)
  have hBY : Blk ((((X.drewN nq).setCell ⟨G + 1, 3, none⟩ (.int .i64 1)).setCell ⟨G + 1, 4, none⟩ (.int .i64 (-1))).setCell ⟨R, 1, none⟩ (.int .i64 (j + 1))) w.heap.size 57 zero5 := (((hBX.drewN nq).setOther (by simp <;> omega) _).setOther (by simp <;> omega) _).setOther (by simp <;> omega) _
  have hPY : Blk ((((X.drewN nq).setCell ⟨G + 1, 3, none⟩ (.int .i64 1)).setCell ⟨G + 1, 4, none⟩ (.int .i64 (-1))).setCell ⟨R, 1, none⟩ (.int .i64 (j + 1))) (G + 1) 57 (pieceCells G 1 (-1)) := by
    have := (((hPX.drewN nq).set 3 (.int .i64 1)).set 4 (.int .i64 (-1))).setOther (a := ⟨R, 1, none⟩) (by simp <;> omega) (.int .i64 (j + 1))
    simpa using this
  have hSY : Blk ((((X.drewN nq).setCell ⟨G + 1, 3, none⟩ (.int .i64 1)).setCell ⟨G + 1, 4, none⟩ (.int .i64 (-1))).setCell ⟨R, 1, none⟩ (.int .i64 (j + 1))) G 57 #[.int .i64 k, .slice sa sn sc, .slice ba bn bc, .int .i64 lo, .int .i64 hi'] := (((hSX.drewN nq).setOther (by simp <;> omega) _).setOther (by simp <;> omega) _).setOther (by simp <;> omega) _
  have hrY : Rd ((((X.drewN nq).setCell ⟨G + 1, 3, none⟩ (.int .i64 1)).setCell ⟨G + 1, 4, none⟩ (.int .i64 (-1))).setCell ⟨R, 1, none⟩ (.int .i64 (j + 1))) R s (j + 1 : Nat) bad (deepI d2) opn := ((((hrX.drewN nq).other (by simp <;> omega) _).other (by simp <;> omega) _).set1 _).at_ (by omega) rfl
  have hkY : Kept R w ((((X.drewN nq).setCell ⟨G + 1, 3, none⟩ (.int .i64 1)).setCell ⟨G + 1, 4, none⟩ (.int .i64 (-1))).setCell ⟨R, 1, none⟩ (.int .i64 (j + 1))) := (((hkX.drewN nq).setCell (Or.inr (by simp <;> omega)) _).setCell (Or.inr (by simp <;> omega)) _).setR _ _
  have hnY : NodeIn ((((X.drewN nq).setCell ⟨G + 1, 3, none⟩ (.int .i64 1)).setCell ⟨G + 1, 4, none⟩ (.int .i64 (-1))).setCell ⟨R, 1, none⟩ (.int .i64 (j + 1))) (fun b => w.heap.size + 1 ≤ b ∧ b + 1 < G) nd [.int .i64 k, .slice sa sn sc, .slice ba bn bc, .int .i64 lo, .int .i64 hi'] := (hnX.drewN nq).keep (fun b _ hok => (Below.heap_setCell _ _ _ b (by have := hok.1; simp <;> omega)).trans ((Below.heap_setCell _ _ _ b (by have := hok.2; simp <;> omega)).trans (Below.heap_setCell _ _ _ b (by have := hok.2; simp <;> omega))))
  obtain ⟨z0, z1, z2, z3, z4⟩ := hBY.put5_cells (.int .i64 4) (.slice none 0 0) (.slice (some ⟨G, 0, none⟩) 1 1) (.int .i64 1) (.int .i64 (-1))
  go_wp2_with fail
  refine bodyPost_ret (v := .agg (pieceCells G 1 (-1))) (by simp [results, Tryz.results62, go_sem, z0, z1, z2, z3, z4]) rfl ?_
  refine Or.inl ⟨_, _, _, [.int .i64 4, .slice none 0 0, .slice (some ⟨G, 0, none⟩) 1 1, .int .i64 1, .int .i64 (-1)], HOK.out, rfl, ?_, hrY.put5 (by omega) _ _ _ _ _, hkY.put5 (Or.inr (Nat.le_refl _)) _ _ _ _ _⟩
  refine NodeIn.piece nd [.int .i64 k, .slice sa sn sc, .slice ba bn bc, .int .i64 lo, .int .i64 hi'] _ _ _ (RowAt.ofBlk (cur := #[.int .i64 k, .slice sa sn sc, .slice ba bn bc, .int .i64 lo, .int .i64 hi']) ((put5_other _ _ _ _ _ _ (by omega)).trans hSY) 1 5 (by omega) rfl (by omega)) ?_
  exact (hnY.put5 (fun b hok => by have := hok.1; omega) _ _ _ _ _).mono (fun b _ hok => by have := hok.1; show w.heap.size ≤ b; omega)

set_option maxHeartbeats 1000000 in
theorem piece_quest (R : Nat) (s : ByteArray) (n i : Nat) (bad : Int) (d : Option Nat) (opn : Nat) (w : World) (hatom : AtomSaid n) (hr : Rd w R s i bad (deepI d) opn) (hb : bad < 0) (hs : s.size ≤ 1000) (ho : opn ≤ i) (hi : i < s.size) (nd : Munch.Node) (j : Nat) (d2 : Option Nat) (hat : Munch.atomF s n i opn d = .ok (nd, j, d2)) (hj : j < s.size) (hc : s[j].toNat = 63) :
    Calls Tryz.prog 62 #[ptr R] w fun e w' => NodePost (Munch.pieceF s (n + 1) i opn d) R s bad opn w e w' := by
  have HOK : Hid (Munch.pieceF s (n + 1) i opn d = .ok (.piece nd 0 1, j + 1, d2)) := by
    show _ = _
    rw [Munch.pieceF_s, hat]
    simp [Munch.tail, Munch.hasAt_lt _ _ _ hj, hc]
  have k42 : ((s[j].toNat : Int) == 42) = false := by rw [hc]; rfl
  have k43 : ((s[j].toNat : Int) == 43) = false := by rw [hc]; rfl
  have k63 : ((s[j].toNat : Int) == 63) = true := by rw [hc]; rfl
  clear hc
  have hRB := hr.lt
  have HAT : Hid _ := hat; clear hat
  go_enter Tryz.func62, Tryz.ntmps62
  go_wp2_with fail
  refine (hatom R s i bad d opn _ (hr.alloc _) hb hs ho hi (by rw [HAT.out]; simp)).mono ?_
  rintro e w3 (⟨nd', j', d2', cs, hf, rfl, hn, hr3, hk3⟩ | ⟨p', d2', cs, hf, rfl, hsh, hr3, hk3⟩)
  case inr => rw [HAT.out] at hf; cases hf
  rw [HAT.out] at hf; cases hf
  obtain ⟨k, sa, sn, sc, ba, bn, bc, lo, hi', rfl⟩ := hn.shape
  have hz := hk3.size
  rw [size_alloc] at hz
  have hr5 := hr3.alloc (.cells #[.int .i64 k, .slice sa sn sc, .slice ba bn bc, .int .i64 lo, .int .i64 hi'] 57)
  have hk5 : Kept R w (w3.alloc (.cells #[.int .i64 k, .slice sa sn sc, .slice ba bn bc, .int .i64 lo, .int .i64 hi'] 57)) := ((((Kept.refl R w).alloc _).trans hk3)).alloc _
  have hB5 : Blk (w3.alloc (.cells #[.int .i64 k, .slice sa sn sc, .slice ba bn bc, .int .i64 lo, .int .i64 hi'] 57)) w.heap.size 57 zero5 := (hk3.blk (Blk.new w zero5 57) (by omega)).alloc _
  have hN5 := Blk.new w3 #[.int .i64 k, .slice sa sn sc, .slice ba bn bc, .int .i64 lo, .int .i64 hi'] 57
  have hn5 : NodeIn (w3.alloc (.cells #[.int .i64 k, .slice sa sn sc, .slice ba bn bc, .int .i64 lo, .int .i64 hi'] 57)) (fun b => w.heap.size + 1 ≤ b ∧ b + 1 < w3.heap.size + 1) nd [.int .i64 k, .slice sa sn sc, .slice ba bn bc, .int .i64 lo, .int .i64 hi'] := (hn.mono (ok' := fun b => w.heap.size + 1 ≤ b ∧ b + 1 < w3.heap.size + 1) (fun b hb h => by have : (w.alloc (.cells zero5 57)).heap.size ≤ b := h; rw [size_alloc] at this; exact ⟨this, by omega⟩)).keep (fun b hb _ => Below.heap_alloc w3 _ b hb)
  have hR3 := hr3.lt
  have hdb : decide (0 ≤ bad) = false := by simp; omega
  have y0 := hr3.c0
  have y1 := hr3.c1
  have y2 := hr3.c2
  have hd1 : decide (s.size ≤ j) = false := by simp; omega
  obtain ⟨p0, p1, p2, p3, p4⟩ := hN5.cells5
  go_wp2_with fail
  go_quiet (fail)
  obtain ⟨m1, hm1⟩ : ∃ m1 : Nat, m1 = nq := ⟨_, rfl⟩
  subst hm1
  go_wp2_with fail
  have hrX : Rd ((((w3.alloc (.cells #[.int .i64 k, .slice sa sn sc, .slice ba bn bc, .int .i64 lo, .int .i64 hi'] 57)).drewN m1).alloc (.cells #[.int .i64 k, .slice sa sn sc, .slice ba bn bc, .int .i64 lo, .int .i64 hi'] 57)).alloc (.cells (pieceCells (w3.heap.size + 1) 0 0) 57)) R s (j : Nat) bad (deepI d2) opn := ((hr5.drewN m1).alloc _).alloc _
  have hkX : Kept R w ((((w3.alloc (.cells #[.int .i64 k, .slice sa sn sc, .slice ba bn bc, .int .i64 lo, .int .i64 hi'] 57)).drewN m1).alloc (.cells #[.int .i64 k, .slice sa sn sc, .slice ba bn bc, .int .i64 lo, .int .i64 hi'] 57)).alloc (.cells (pieceCells (w3.heap.size + 1) 0 0) 57)) := ((hk5.drewN m1).alloc _).alloc _
  have hBX : Blk ((((w3.alloc (.cells #[.int .i64 k, .slice sa sn sc, .slice ba bn bc, .int .i64 lo, .int .i64 hi'] 57)).drewN m1).alloc (.cells #[.int .i64 k, .slice sa sn sc, .slice ba bn bc, .int .i64 lo, .int .i64 hi'] 57)).alloc (.cells (pieceCells (w3.heap.size + 1) 0 0) 57)) w.heap.size 57 zero5 := ((hB5.drewN m1).alloc _).alloc _
  have hNX : Blk ((((w3.alloc (.cells #[.int .i64 k, .slice sa sn sc, .slice ba bn bc, .int .i64 lo, .int .i64 hi'] 57)).drewN m1).alloc (.cells #[.int .i64 k, .slice sa sn sc, .slice ba bn bc, .int .i64 lo, .int .i64 hi'] 57)).alloc (.cells (pieceCells (w3.heap.size + 1) 0 0) 57)) w3.heap.size 57 #[.int .i64 k, .slice sa sn sc, .slice ba bn bc, .int .i64 lo, .int .i64 hi'] := ((hN5.drewN m1).alloc _).alloc _
  have hSX : Blk ((((w3.alloc (.cells #[.int .i64 k, .slice sa sn sc, .slice ba bn bc, .int .i64 lo, .int .i64 hi'] 57)).drewN m1).alloc (.cells #[.int .i64 k, .slice sa sn sc, .slice ba bn bc, .int .i64 lo, .int .i64 hi'] 57)).alloc (.cells (pieceCells (w3.heap.size + 1) 0 0) 57)) (w3.heap.size + 1) 57 #[.int .i64 k, .slice sa sn sc, .slice ba bn bc, .int .i64 lo, .int .i64 hi'] := by
    have := (Blk.new ((w3.alloc (.cells #[.int .i64 k, .slice sa sn sc, .slice ba bn bc, .int .i64 lo, .int .i64 hi'] 57)).drewN m1) #[.int .i64 k, .slice sa sn sc, .slice ba bn bc, .int .i64 lo, .int .i64 hi'] 57).alloc (.cells (pieceCells (w3.heap.size + 1) 0 0) 57)
    rw [show ((w3.alloc (.cells #[.int .i64 k, .slice sa sn sc, .slice ba bn bc, .int .i64 lo, .int .i64 hi'] 57)).drewN m1).heap.size = w3.heap.size + 1 from size_alloc _ _] at this
    exact this
  have hPX : Blk ((((w3.alloc (.cells #[.int .i64 k, .slice sa sn sc, .slice ba bn bc, .int .i64 lo, .int .i64 hi'] 57)).drewN m1).alloc (.cells #[.int .i64 k, .slice sa sn sc, .slice ba bn bc, .int .i64 lo, .int .i64 hi'] 57)).alloc (.cells (pieceCells (w3.heap.size + 1) 0 0) 57)) (w3.heap.size + 1 + 1) 57 (pieceCells (w3.heap.size + 1) 0 0) := by
    have := Blk.new (((w3.alloc (.cells #[.int .i64 k, .slice sa sn sc, .slice ba bn bc, .int .i64 lo, .int .i64 hi'] 57)).drewN m1).alloc (.cells #[.int .i64 k, .slice sa sn sc, .slice ba bn bc, .int .i64 lo, .int .i64 hi'] 57)) (pieceCells (w3.heap.size + 1) 0 0) 57
    rw [size_alloc, show ((w3.alloc (.cells #[.int .i64 k, .slice sa sn sc, .slice ba bn bc, .int .i64 lo, .int .i64 hi'] 57)).drewN m1).heap.size = w3.heap.size + 1 from size_alloc _ _] at this
    exact this
  have hnX : NodeIn ((((w3.alloc (.cells #[.int .i64 k, .slice sa sn sc, .slice ba bn bc, .int .i64 lo, .int .i64 hi'] 57)).drewN m1).alloc (.cells #[.int .i64 k, .slice sa sn sc, .slice ba bn bc, .int .i64 lo, .int .i64 hi'] 57)).alloc (.cells (pieceCells (w3.heap.size + 1) 0 0) 57)) (fun b => w.heap.size + 1 ≤ b ∧ b + 1 < w3.heap.size + 1) nd [.int .i64 k, .slice sa sn sc, .slice ba bn bc, .int .i64 lo, .int .i64 hi'] := (hn5.drewN m1).keep (fun b hb _ => (Below.heap_alloc _ _ b (by rw [size_alloc]; omega)).trans (Below.heap_alloc _ _ b hb))
  have hgt : w.heap.size + 1 ≤ w3.heap.size + 1 := by omega
  clear hr5 hk5 hB5 hN5 hn5 y0 y1 y2 p0 p1 p2 p3 p4 hr3 hk3 hn
  generalize ((((w3.alloc (.cells #[.int .i64 k, .slice sa sn sc, .slice ba bn bc, .int .i64 lo, .int .i64 hi'] 57)).drewN m1).alloc (.cells #[.int .i64 k, .slice sa sn sc, .slice ba bn bc, .int .i64 lo, .int .i64 hi'] 57)).alloc (.cells (pieceCells (w3.heap.size + 1) 0 0) 57)) = X at *
  generalize w3.heap.size + 1 = G at *
  have y0 := hrX.c0
  have y1 := hrX.c1
  have yf := hrX.fr 1
  obtain ⟨q0, q1, q2, q3, q4⟩ := hBX.cells5
  have g0 := hBX.frozen 0
  have g1 := hBX.frozen 1
  have g2 := hBX.frozen 2
  have g3 := hBX.frozen 3
  have g4 := hBX.frozen 4
  obtain ⟨p0, p1, p2, p3, p4⟩ := hPX.cells5
  have h3 := hPX.frozen 3
  have h4 := hPX.frozen 4
  have hRX := hrX.lt
  have s0 : ∀ a, ((X.drewN a).setCell ⟨G + 1, 4, none⟩ (.int .i64 1)).cell? ⟨G + 1, 4, none⟩ = some (.int .i64 1) := fun a => by have := ((hPX.drewN a).set 4 (.int .i64 1)).cell 4; simpa using this
  go_quiet (fail)
  have hBY : Blk (((X.drewN nq).setCell ⟨G + 1, 4, none⟩ (.int .i64 1)).setCell ⟨R, 1, none⟩ (.int .i64 (j + 1))) w.heap.size 57 zero5 := ((hBX.drewN nq).setOther (by simp <;> omega) _).setOther (by simp <;> omega) _
  have hPY : Blk (((X.drewN nq).setCell ⟨G + 1, 4, none⟩ (.int .i64 1)).setCell ⟨R, 1, none⟩ (.int .i64 (j + 1))) (G + 1) 57 (pieceCells G 0 1) := by
    have := ((hPX.drewN nq).set 4 (.int .i64 1)).setOther (a := ⟨R, 1, none⟩) (by simp <;> omega) (.int .i64 (j + 1))
    simpa using this
  have hSY : Blk (((X.drewN nq).setCell ⟨G + 1, 4, none⟩ (.int .i64 1)).setCell ⟨R, 1, none⟩ (.int .i64 (j + 1))) G 57 #[.int .i64 k, .slice sa sn sc, .slice ba bn bc, .int .i64 lo, .int .i64 hi'] := ((hSX.drewN nq).setOther (by simp <;> omega) _).setOther (by simp <;> omega) _
  have hrY : Rd (((X.drewN nq).setCell ⟨G + 1, 4, none⟩ (.int .i64 1)).setCell ⟨R, 1, none⟩ (.int .i64 (j + 1))) R s (j + 1 : Nat) bad (deepI d2) opn := (((hrX.drewN nq).other (by simp <;> omega) _).set1 _).at_ (by omega) rfl
  have hkY : Kept R w (((X.drewN nq).setCell ⟨G + 1, 4, none⟩ (.int .i64 1)).setCell ⟨R, 1, none⟩ (.int .i64 (j + 1))) := ((hkX.drewN nq).setCell (Or.inr (by simp <;> omega)) _).setR _ _
  have hnY : NodeIn (((X.drewN nq).setCell ⟨G + 1, 4, none⟩ (.int .i64 1)).setCell ⟨R, 1, none⟩ (.int .i64 (j + 1))) (fun b => w.heap.size + 1 ≤ b ∧ b + 1 < G) nd [.int .i64 k, .slice sa sn sc, .slice ba bn bc, .int .i64 lo, .int .i64 hi'] := (hnX.drewN nq).keep (fun b _ hok => (Below.heap_setCell _ _ _ b (by have := hok.1; simp <;> omega)).trans (Below.heap_setCell _ _ _ b (by have := hok.2; simp <;> omega)))
  obtain ⟨z0, z1, z2, z3, z4⟩ := hBY.put5_cells (.int .i64 4) (.slice none 0 0) (.slice (some ⟨G, 0, none⟩) 1 1) (.int .i64 0) (.int .i64 1)
  go_wp2_with fail
  refine bodyPost_ret (v := .agg (pieceCells G 0 1)) (by simp [results, Tryz.results62, go_sem, z0, z1, z2, z3, z4]) rfl ?_
  refine Or.inl ⟨_, _, _, [.int .i64 4, .slice none 0 0, .slice (some ⟨G, 0, none⟩) 1 1, .int .i64 0, .int .i64 1], HOK.out, rfl, ?_, hrY.put5 (by omega) _ _ _ _ _, hkY.put5 (Or.inr (Nat.le_refl _)) _ _ _ _ _⟩
  refine NodeIn.piece nd [.int .i64 k, .slice sa sn sc, .slice ba bn bc, .int .i64 lo, .int .i64 hi'] _ _ _ (RowAt.ofBlk (cur := #[.int .i64 k, .slice sa sn sc, .slice ba bn bc, .int .i64 lo, .int .i64 hi']) ((put5_other _ _ _ _ _ _ (by omega)).trans hSY) 1 5 (by omega) rfl (by omega)) ?_
  exact (hnY.put5 (fun b hok => by have := hok.1; omega) _ _ _ _ _).mono (fun b _ hok => by have := hok.1; show w.heap.size ≤ b; omega)

end Go.Proofs.YtkoaeojdlanolaaGreatDoor
