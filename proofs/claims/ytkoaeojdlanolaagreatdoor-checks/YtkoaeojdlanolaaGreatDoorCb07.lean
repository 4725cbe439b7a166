import Derived.Test.YtkoaeojdlanolaaGreatDoorCb06
import Derived.Test.YtkoaeojdlanolaaGreatDoorCa02
/-
  THE WALK of the reader's piece: no sign behind the atom.
-/
namespace Go.Proofs.YtkoaeojdlanolaaGreatDoor
open Go.RowKit

set_option maxHeartbeats 1000000 in
theorem piece_none (R : Nat) (s : ByteArray) (n i : Nat) (bad : Int) (d : Option Nat) (opn : Nat) (w : World) (hatom : AtomSaid n) (hr : Rd w R s i bad (deepI d) opn) (hb : bad < 0) (hs : s.size ≤ 1000) (ho : opn ≤ i) (hi : i < s.size) (nd : Munch.Node) (j : Nat) (d2 : Option Nat) (hat : Munch.atomF s n i opn d = .ok (nd, j, d2)) (hj : j < s.size) (h42 : s[j].toNat ≠ 42) (h43 : s[j].toNat ≠ 43) (h63 : s[j].toNat ≠ 63) (h123 : s[j].toNat ≠ 123) :
    Calls Tryz.prog 62 #[ptr R] w fun e w' => NodePost (Munch.pieceF s (n + 1) i opn d) R s bad opn w e w' := by
  have HOK : Hid (Munch.pieceF s (n + 1) i opn d = .ok (nd, j, d2)) := by
    show _ = _
    rw [Munch.pieceF_s, hat]
    simp [Munch.tail, Munch.hasAt_lt _ _ _ hj, h42, h43, h63, h123]
  have k42 : ((s[j].toNat : Int) == 42) = false := by rw [beq_eq_false_iff_ne]; omega
  have k43 : ((s[j].toNat : Int) == 43) = false := by rw [beq_eq_false_iff_ne]; omega
  have k63 : ((s[j].toNat : Int) == 63) = false := by rw [beq_eq_false_iff_ne]; omega
  have k123 : ((s[j].toNat : Int) == 123) = false := by rw [beq_eq_false_iff_ne]; omega
  clear h42 h43 h63 h123
  have hRB := hr.lt
  have HAT : Hid _ := hat; clear hat
  go_enter Tryz.func62, Tryz.ntmps62
  go_wp2_with fail
  refine (hatom R s i bad d opn _ (hr.alloc _) hb hs ho hi (by rw [HAT.out]; simp)).mono ?_
  rintro e w3 (⟨nd', j', d2', cs, hf, rfl, hn, hr3, hk3⟩ | ⟨p', d2', cs, hf, rfl, hsh, hr3, hk3⟩)
  case inr => rw [HAT.out] at hf; cases hf
  rw [HAT.out] at hf; cases hf
  obtain ⟨k, sa, sn, sc, ba, bn, bc, lo, hi', rfl⟩ := hn.shape
  have hz := hk3.size
  rw [size_alloc] at hz
  have hr5 := hr3.alloc (.cells #[.int .i64 k, .slice sa sn sc, .slice ba bn bc, .int .i64 lo, .int .i64 hi'] 57)
  have hk5 : Kept R w (w3.alloc (.cells #[.int .i64 k, .slice sa sn sc, .slice ba bn bc, .int .i64 lo, .int .i64 hi'] 57)) := ((((Kept.refl R w).alloc _).trans hk3)).alloc _
  have hB5 : Blk (w3.alloc (.cells #[.int .i64 k, .slice sa sn sc, .slice ba bn bc, .int .i64 lo, .int .i64 hi'] 57)) w.heap.size 57 zero5 := (hk3.blk (Blk.new w zero5 57) (by omega)).alloc _
  have hN5 := Blk.new w3 #[.int .i64 k, .slice sa sn sc, .slice ba bn bc, .int .i64 lo, .int .i64 hi'] 57
  have hn5 : NodeIn (w3.alloc (.cells #[.int .i64 k, .slice sa sn sc, .slice ba bn bc, .int .i64 lo, .int .i64 hi'] 57)) (fun b => w.heap.size + 1 ≤ b ∧ b + 1 < w3.heap.size + 1) nd [.int .i64 k, .slice sa sn sc, .slice ba bn bc, .int .i64 lo, .int .i64 hi'] := (hn.mono (ok' := fun b => w.heap.size + 1 ≤ b ∧ b + 1 < w3.heap.size + 1) (fun b hb h => by have : (w.alloc (.cells zero5 57)).heap.size ≤ b := h; rw [size_alloc] at this; exact ⟨this, by omega⟩)).keep (fun b hb _ => Below.heap_alloc w3 _ b hb)
  have hR3 := hr3.lt
  have hdb : decide (0 ≤ bad) = false := by simp; omega
  have y0 := hr3.c0
  have y1 := hr3.c1
  have y2 := hr3.c2
  have hd1 : decide (s.size ≤ j) = false := by simp; omega
  obtain ⟨p0, p1, p2, p3, p4⟩ := hN5.cells5
  go_wp2_with fail
  go_quiet (fail)
  obtain ⟨m1, hm1⟩ : ∃ m1 : Nat, m1 = nq := ⟨_, rfl⟩
  subst hm1
  go_wp2_with fail
  have hrX : Rd ((((w3.alloc (.cells #[.int .i64 k, .slice sa sn sc, .slice ba bn bc, .int .i64 lo, .int .i64 hi'] 57)).drewN m1).alloc (.cells #[.int .i64 k, .slice sa sn sc, .slice ba bn bc, .int .i64 lo, .int .i64 hi'] 57)).alloc (.cells (pieceCells (w3.heap.size + 1) 0 0) 57)) R s (j : Nat) bad (deepI d2) opn := ((hr5.drewN m1).alloc _).alloc _
  have hkX : Kept R w ((((w3.alloc (.cells #[.int .i64 k, .slice sa sn sc, .slice ba bn bc, .int .i64 lo, .int .i64 hi'] 57)).drewN m1).alloc (.cells #[.int .i64 k, .slice sa sn sc, .slice ba bn bc, .int .i64 lo, .int .i64 hi'] 57)).alloc (.cells (pieceCells (w3.heap.size + 1) 0 0) 57)) := ((hk5.drewN m1).alloc _).alloc _
  have hBX : Blk ((((w3.alloc (.cells #[.int .i64 k, .slice sa sn sc, .slice ba bn bc, .int .i64 lo, .int .i64 hi'] 57)).drewN m1).alloc (.cells #[.int .i64 k, .slice sa sn sc, .slice ba bn bc, .int .i64 lo, .int .i64 hi'] 57)).alloc (.cells (pieceCells (w3.heap.size + 1) 0 0) 57)) w.heap.size 57 zero5 := ((hB5.drewN m1).alloc _).alloc _
  have hNX : Blk ((((w3.alloc (.cells #[.int .i64 k, .slice sa sn sc, .slice ba bn bc, .int .i64 lo, .int .i64 hi'] 57)).drewN m1).alloc (.cells #[.int .i64 k, .slice sa sn sc, .slice ba bn bc, .int .i64 lo, .int .i64 hi'] 57)).alloc (.cells (pieceCells (w3.heap.size + 1) 0 0) 57)) w3.heap.size 57 #[.int .i64 k, .slice sa sn sc, .slice ba bn bc, .int .i64 lo, .int .i64 hi'] := ((hN5.drewN m1).alloc _).alloc _
  have hSX : Blk ((((w3.alloc (.cells #[.int .i64 k, .slice sa sn sc, .slice ba bn bc, .int .i64 lo, .int .i64 hi'] 57)).drewN m1).alloc (.cells #[.int .i64 k, .slice sa sn sc, .slice ba bn bc, .int .i64 lo, .int .i64 hi'] 57)).alloc (.cells (pieceCells (w3.heap.size + 1) 0 0) 57)) (w3.heap.size + 1) 57 #[.int .i64 k, .slice sa sn sc, .slice ba bn bc, .int .i64 lo, .int .i64 hi'] := by
    have := (Blk.new ((w3.alloc (.cells #[.int .i64 k, .slice sa sn sc, .slice ba bn bc, .int .i64 lo, .int .i64 hi'] 57)).drewN m1) #[.int .i64 k, .slice sa sn sc, .slice ba bn bc, .int .i64 lo, .int .i64 hi'] 57).alloc (.cells (pieceCells (w3.heap.size + 1) 0 0) 57)
    rw [show ((w3.alloc (.cells #[.int .i64 k, .slice sa sn sc, .slice ba bn bc, .int .i64 lo, .int .i64 hi'] 57)).drewN m1).heap.size = w3.heap.size + 1 from size_alloc _ _] at this
    exact this
  have hPX : Blk ((((w3.alloc (.cells #[.int .i64 k, .slice sa sn sc, .slice ba bn bc, .int .i64 lo, .int .i64 hi'] 57)).drewN m1).alloc (.cells #[.int .i64 k, .slice sa sn sc, .slice ba bn bc, .int .i64 lo, .int .i64 hi'] 57)).alloc (.cells (pieceCells (w3.heap.size + 1) 0 0) 57)) (w3.heap.size + 1 + 1) 57 (pieceCells (w3.heap.size + 1) 0 0) := by
    have := Blk.new (((w3.alloc (.cells #[.int .i64 k, .slice sa sn sc, .slice ba bn bc, .int .i64 lo, .int .i64 hi'] 57)).drewN m1).alloc (.cells #[.int .i64 k, .slice sa sn sc, .slice ba bn bc, .int .i64 lo, .int .i64 hi'] 57)) (pieceCells (w3.heap.size + 1) 0 0) 57
    rw [size_alloc, show ((w3.alloc (.cells #[.int .i64 k, .slice sa sn sc, .slice ba bn bc, .int .i64 lo, .int .i64 hi'] 57)).drewN m1).heap.size = w3.heap.size + 1 from size_alloc _ _] at this
    exact this
  have hnX : NodeIn ((((w3.alloc (.cells #[.int .i64 k, .slice sa sn sc, .slice ba bn bc, .int .i64 lo, .int .i64 hi'] 57)).drewN m1).alloc (.cells #[.int .i64 k, .slice sa sn sc, .slice ba bn bc, .int .i64 lo, .int .i64 hi'] 57)).alloc (.cells (pieceCells (w3.heap.size + 1) 0 0) 57)) (fun b => w.heap.size + 1 ≤ b ∧ b + 1 < w3.heap.size + 1) nd [.int .i64 k, .slice sa sn sc, .slice ba bn bc, .int .i64 lo, .int .i64 hi'] := (hn5.drewN m1).keep (fun b hb _ => (Below.heap_alloc _ _ b (by rw [size_alloc]; omega)).trans (Below.heap_alloc _ _ b hb))
  have hgt : w.heap.size + 1 ≤ w3.heap.size + 1 := by omega
  clear hr5 hk5 hB5 hN5 hn5 y0 y1 y2 p0 p1 p2 p3 p4 hr3 hk3 hn
  generalize ((((w3.alloc (.cells #[.int .i64 k, .slice sa sn sc, .slice ba bn bc, .int .i64 lo, .int .i64 hi'] 57)).drewN m1).alloc (.cells #[.int .i64 k, .slice sa sn sc, .slice ba bn bc, .int .i64 lo, .int .i64 hi'] 57)).alloc (.cells (pieceCells (w3.heap.size + 1) 0 0) 57)) = X at *
  generalize w3.heap.size + 1 = G at *
  have y0 := hrX.c0
  have y1 := hrX.c1
  have yf := hrX.fr 1
  obtain ⟨q0, q1, q2, q3, q4⟩ := hBX.cells5
  have g0 := hBX.frozen 0
  have g1 := hBX.frozen 1
  have g2 := hBX.frozen 2
  have g3 := hBX.frozen 3
  have g4 := hBX.frozen 4
  obtain ⟨p0, p1, p2, p3, p4⟩ := hPX.cells5
  have h3 := hPX.frozen 3
  have h4 := hPX.frozen 4
  have hRX := hrX.lt
  obtain ⟨n0, n1, n2, n3, n4⟩ := hNX.cells5
  go_quiet (fail)
  obtain ⟨z0, z1, z2, z3, z4⟩ := (hBX.drewN nq).put5_cells (.int .i64 k) (.slice sa sn sc) (.slice ba bn bc) (.int .i64 lo) (.int .i64 hi')
  go_wp2_with fail
  refine bodyPost_ret (v := .agg #[.int .i64 k, .slice sa sn sc, .slice ba bn bc, .int .i64 lo, .int .i64 hi']) (by simp [results, Tryz.results62, go_sem, z0, z1, z2, z3, z4]) rfl ?_
  refine Or.inl ⟨_, _, _, [.int .i64 k, .slice sa sn sc, .slice ba bn bc, .int .i64 lo, .int .i64 hi'], HOK.out, rfl, ?_, (hrX.drewN nq).put5 (by omega) _ _ _ _ _, (hkX.drewN nq).put5 (Or.inr (Nat.le_refl _)) _ _ _ _ _⟩
  exact ((hnX.drewN nq).put5 (fun b hok => by have := hok.1; omega) _ _ _ _ _).mono (fun b _ hok => by have := hok.1; show w.heap.size ≤ b; omega)

/-- What piece has in hand while it reads the counts. -/
structure PInv (R : Nat) (s : ByteArray) (w : World) (G : Nat) (nd : Munch.Node) (c : List Value) (jj : Nat) (bd dp opn lo hi : Int) (Y : World) : Prop where
  rd : Rd Y R s (jj : Nat) bd dp opn
  kept : Kept R w Y
  res : Blk Y w.heap.size 57 zero5
  sub : Blk Y G 57 c.toArray
  pc : Blk Y (G + 1) 57 (pieceCells G lo hi)
  node : NodeIn Y (fun b => w.heap.size + 1 ≤ b ∧ b + 1 < G) nd c
  ne : R < w.heap.size
  lt : w.heap.size + 1 ≤ G
namespace PInv
variable {R : Nat} {s : ByteArray} {w : World} {G : Nat} {nd : Munch.Node} {c : List Value} {jj : Nat} {bd dp opn lo hi : Int} {Y : World}
theorem drewN (h : PInv R s w G nd c jj bd dp opn lo hi Y) (n : Nat) : PInv R s w G nd c jj bd dp opn lo hi (Y.drewN n) := ⟨h.rd.drewN n, h.kept.drewN n, h.res.drewN n, h.sub.drewN n, h.pc.drewN n, h.node.drewN n, h.ne, h.lt⟩
theorem set1 (h : PInv R s w G nd c jj bd dp opn lo hi Y) (j2 : Nat) : PInv R s w G nd c j2 bd dp opn lo hi (Y.setCell ⟨R, 1, none⟩ (.int .i64 j2)) :=
  ⟨h.rd.set1 _, h.kept.setR _ _, h.res.setOther (by have := h.ne; simp <;> omega) _, h.sub.setOther (by have := h.ne; have := h.lt; simp <;> omega) _, h.pc.setOther (by have := h.ne; have := h.lt; simp <;> omega) _, h.node.keep (fun b _ hok => Below.heap_setCell _ _ _ b (by have := hok.1; have := h.ne; simp <;> omega)), h.ne, h.lt⟩
theorem call (h : PInv R s w G nd c jj bd dp opn lo hi Y) {Y' : World} {j2 : Nat} {bd2 : Int} (hr : Rd Y' R s (j2 : Nat) bd2 dp opn) (hk : Kept R Y Y') : PInv R s w G nd c j2 bd2 dp opn lo hi Y' :=
  ⟨hr, h.kept.trans hk, hk.blk h.res (by have := h.ne; omega), hk.blk h.sub (by have := h.ne; have := h.lt; omega), hk.blk h.pc (by have := h.ne; have := h.lt; omega), h.node.keep (fun b hb hok => hk.block b hb (by have := hok.1; have := h.ne; omega)), h.ne, h.lt⟩
theorem set3 (h : PInv R s w G nd c jj bd dp opn lo hi Y) (v : Int) : PInv R s w G nd c jj bd dp opn v hi (Y.setCell ⟨G + 1, 3, none⟩ (.int .i64 v)) :=
  ⟨h.rd.other (by have := h.ne; have := h.lt; simp <;> omega) _, h.kept.setCell (Or.inr (by have := h.lt; simp <;> omega)) _, h.res.setOther (by have := h.lt; simp <;> omega) _, h.sub.setOther (by simp) _, by have := h.pc.set 3 (.int .i64 v); simpa using this, h.node.keep (fun b _ hok => Below.heap_setCell _ _ _ b (by have := hok.2; simp <;> omega)), h.ne, h.lt⟩
theorem set4 (h : PInv R s w G nd c jj bd dp opn lo hi Y) (v : Int) : PInv R s w G nd c jj bd dp opn lo v (Y.setCell ⟨G + 1, 4, none⟩ (.int .i64 v)) :=
  ⟨h.rd.other (by have := h.ne; have := h.lt; simp <;> omega) _, h.kept.setCell (Or.inr (by have := h.lt; simp <;> omega)) _, h.res.setOther (by have := h.lt; simp <;> omega) _, h.sub.setOther (by simp) _, by have := h.pc.set 4 (.int .i64 v); simpa using this, h.node.keep (fun b _ hok => Below.heap_setCell _ _ _ b (by have := hok.2; simp <;> omega)), h.ne, h.lt⟩
end PInv

end Go.Proofs.YtkoaeojdlanolaaGreatDoor
/-
  THE WALK of the reader's piece: the counts.
-/
namespace Go.Proofs.YtkoaeojdlanolaaGreatDoor
open Go.RowKit

set_option maxHeartbeats 3000000 in
theorem piece_count (R : Nat) (s : ByteArray) (n i : Nat) (bad : Int) (d : Option Nat) (opn : Nat) (w : World) (hatom : AtomSaid n) (hr : Rd w R s i bad (deepI d) opn) (hb : bad < 0) (hs : s.size ≤ 1000) (ho : opn ≤ i) (hi : i < s.size) (nd : Munch.Node) (j : Nat) (d2 : Option Nat) (hat : Munch.atomF s n i opn d = .ok (nd, j, d2)) (hj : j < s.size) (hc : s[j].toNat = 123) :
    Calls Tryz.prog 62 #[ptr R] w fun e w' => NodePost (Munch.pieceF s (n + 1) i opn d) R s bad opn w e w' := by
  have HPF : Hid (Munch.pieceF s (n + 1) i opn d = (Munch.counts s (j + 1)).bind fun x => .ok (.piece nd x.1 x.2, j + 5, d2)) := by
    show _ = _
    rw [Munch.pieceF_s, hat]
    simp [Munch.tail, Munch.hasAt_lt _ _ _ hj, hc]
    cases Munch.counts s (j + 1) <;> rfl
  have k42 : ((s[j].toNat : Int) == 42) = false := by rw [hc]; rfl
  have k43 : ((s[j].toNat : Int) == 43) = false := by rw [hc]; rfl
  have k63 : ((s[j].toNat : Int) == 63) = false := by rw [hc]; rfl
  have k123 : ((s[j].toNat : Int) == 123) = true := by rw [hc]; rfl
  clear hc
  have hRB := hr.lt
  have HAT : Hid _ := hat; clear hat
  go_enter Tryz.func62, Tryz.ntmps62
  go_wp2_with fail
  refine (hatom R s i bad d opn _ (hr.alloc _) hb hs ho hi (by rw [HAT.out]; simp)).mono ?_
  rintro e w3 (⟨nd', j', d2', cs, hf, rfl, hn, hr3, hk3⟩ | ⟨p', d2', cs, hf, rfl, hsh, hr3, hk3⟩)
  case inr => rw [HAT.out] at hf; cases hf
  rw [HAT.out] at hf; cases hf
  obtain ⟨k, sa, sn, sc, ba, bn, bc, lo, hi', rfl⟩ := hn.shape
  have hz := hk3.size
  rw [size_alloc] at hz
  have hr5 := hr3.alloc (.cells #[.int .i64 k, .slice sa sn sc, .slice ba bn bc, .int .i64 lo, .int .i64 hi'] 57)
  have hk5 : Kept R w (w3.alloc (.cells #[.int .i64 k, .slice sa sn sc, .slice ba bn bc, .int .i64 lo, .int .i64 hi'] 57)) := ((((Kept.refl R w).alloc _).trans hk3)).alloc _
  have hB5 : Blk (w3.alloc (.cells #[.int .i64 k, .slice sa sn sc, .slice ba bn bc, .int .i64 lo, .int .i64 hi'] 57)) w.heap.size 57 zero5 := (hk3.blk (Blk.new w zero5 57) (by omega)).alloc _
  have hN5 := Blk.new w3 #[.int .i64 k, .slice sa sn sc, .slice ba bn bc, .int .i64 lo, .int .i64 hi'] 57
  have hn5 : NodeIn (w3.alloc (.cells #[.int .i64 k, .slice sa sn sc, .slice ba bn bc, .int .i64 lo, .int .i64 hi'] 57)) (fun b => w.heap.size + 1 ≤ b ∧ b + 1 < w3.heap.size + 1) nd [.int .i64 k, .slice sa sn sc, .slice ba bn bc, .int .i64 lo, .int .i64 hi'] := (hn.mono (ok' := fun b => w.heap.size + 1 ≤ b ∧ b + 1 < w3.heap.size + 1) (fun b hb h => by have : (w.alloc (.cells zero5 57)).heap.size ≤ b := h; rw [size_alloc] at this; exact ⟨this, by omega⟩)).keep (fun b hb _ => Below.heap_alloc w3 _ b hb)
  have hR3 := hr3.lt
  have hdb : decide (0 ≤ bad) = false := by simp; omega
  have y0 := hr3.c0
  have y1 := hr3.c1
  have y2 := hr3.c2
  have hd1 : decide (s.size ≤ j) = false := by simp; omega
  obtain ⟨p0, p1, p2, p3, p4⟩ := hN5.cells5
  go_wp2_with fail
  go_quiet (fail)
  obtain ⟨m1, hm1⟩ : ∃ m1 : Nat, m1 = nq := ⟨_, rfl⟩
  subst hm1
  go_wp2_with fail
  have hrX : Rd ((((w3.alloc (.cells #[.int .i64 k, .slice sa sn sc, .slice ba bn bc, .int .i64 lo, .int .i64 hi'] 57)).drewN m1).alloc (.cells #[.int .i64 k, .slice sa sn sc, .slice ba bn bc, .int .i64 lo, .int .i64 hi'] 57)).alloc (.cells (pieceCells (w3.heap.size + 1) 0 0) 57)) R s (j : Nat) bad (deepI d2) opn := ((hr5.drewN m1).alloc _).alloc _
  have hkX : Kept R w ((((w3.alloc (.cells #[.int .i64 k, .slice sa sn sc, .slice ba bn bc, .int .i64 lo, .int .i64 hi'] 57)).drewN m1).alloc (.cells #[.int .i64 k, .slice sa sn sc, .slice ba bn bc, .int .i64 lo, .int .i64 hi'] 57)).alloc (.cells (pieceCells (w3.heap.size + 1) 0 0) 57)) := ((hk5.drewN m1).alloc _).alloc _
  have hBX : Blk ((((w3.alloc (.cells #[.int .i64 k, .slice sa sn sc, .slice ba bn bc, .int .i64 lo, .int .i64 hi'] 57)).drewN m1).alloc (.cells #[.int .i64 k, .slice sa sn sc, .slice ba bn bc, .int .i64 lo, .int .i64 hi'] 57)).alloc (.cells (pieceCells (w3.heap.size + 1) 0 0) 57)) w.heap.size 57 zero5 := ((hB5.drewN m1).alloc _).alloc _
  have hNX : Blk ((((w3.alloc (.cells #[.int .i64 k, .slice sa sn sc, .slice ba bn bc, .int .i64 lo, .int .i64 hi'] 57)).drewN m1).alloc (.cells #[.int .i64 k, .slice sa sn sc, .slice ba bn bc, .int .i64 lo, .int .i64 hi'] 57)).alloc (.cells (pieceCells (w3.heap.size + 1) 0 0) 57)) w3.heap.size 57 #[.int .i64 k, .slice sa sn sc, .slice ba bn bc, .int .i64 lo, .int .i64 hi'] := ((hN5.drewN m1).alloc _).alloc _
  have hSX : Blk ((((w3.alloc (.cells #[.int .i64 k, .slice sa sn sc, .slice ba bn bc, .int .i64 lo, .int .i64 hi'] 57)).drewN m1).alloc (.cells #[.int .i64 k, .slice sa sn sc, .slice ba bn bc, .int .i64 lo, .int .i64 hi'] 57)).alloc (.cells (pieceCells (w3.heap.size + 1) 0 0) 57)) (w3.heap.size + 1) 57 #[.int .i64 k, .slice sa sn sc, .slice ba bn bc, .int .i64 lo, .int .i64 hi'] := by
    have := (Blk.new ((w3.alloc (.cells #[.int .i64 k, .slice sa sn sc, .slice ba bn bc, .int .i64 lo, .int .i64 hi'] 57)).drewN m1) #[.int .i64 k, .slice sa sn sc, .slice ba bn bc, .int .i64 lo, .int .i64 hi'] 57).alloc (.cells (pieceCells (w3.heap.size + 1) 0 0) 57)
    rw [show ((w3.alloc (.cells #[.int .i64 k, .slice sa sn sc, .slice ba bn bc, .int .i64 lo, .int .i64 hi'] 57)).drewN m1).heap.size = w3.heap.size + 1 from size_alloc _ _] at this
    exact this
  have hPX : Blk ((((w3.alloc (.cells #[.int .i64 k, .slice sa sn sc, .slice ba bn bc, .int .i64 lo, .int .i64 hi'] 57)).drewN m1).alloc (.cells #[.int .i64 k, .slice sa sn sc, .slice ba bn bc, .int .i64 lo, .int .i64 hi'] 57)).alloc (.cells (pieceCells (w3.heap.size + 1) 0 0) 57)) (w3.heap.size + 1 + 1) 57 (pieceCells (w3.heap.size + 1) 0 0) := by
    have := Blk.new (((w3.alloc (.cells #[.int .i64 k, .slice sa sn sc, .slice ba bn bc, .int .i64 lo, .int .i64 hi'] 57)).drewN m1).alloc (.cells #[.int .i64 k, .slice sa sn sc, .slice ba bn bc, .int .i64 lo, .int .i64 hi'] 57)) (pieceCells (w3.heap.size + 1) 0 0) 57
    rw [size_alloc, show ((w3.alloc (.cells #[.int .i64 k, .slice sa sn sc, .slice ba bn bc, .int .i64 lo, .int .i64 hi'] 57)).drewN m1).heap.size = w3.heap.size + 1 from size_alloc _ _] at this
    exact this
  have hnX : NodeIn ((((w3.alloc (.cells #[.int .i64 k, .slice sa sn sc, .slice ba bn bc, .int .i64 lo, .int .i64 hi'] 57)).drewN m1).alloc (.cells #[.int .i64 k, .slice sa sn sc, .slice ba bn bc, .int .i64 lo, .int .i64 hi'] 57)).alloc (.cells (pieceCells (w3.heap.size + 1) 0 0) 57)) (fun b => w.heap.size + 1 ≤ b ∧ b + 1 < w3.heap.size + 1) nd [.int .i64 k, .slice sa sn sc, .slice ba bn bc, .int .i64 lo, .int .i64 hi'] := (hn5.drewN m1).keep (fun b hb _ => (Below.heap_alloc _ _ b (by rw [size_alloc]; omega)).trans (Below.heap_alloc _ _ b hb))
  have hgt : w.heap.size + 1 ≤ w3.heap.size + 1 := by omega
  clear hr5 hk5 hB5 hN5 hn5 y0 y1 y2 p0 p1 p2 p3 p4 hr3 hk3 hn
  generalize ((((w3.alloc (.cells #[.int .i64 k, .slice sa sn sc, .slice ba bn bc, .int .i64 lo, .int .i64 hi'] 57)).drewN m1).alloc (.cells #[.int .i64 k, .slice sa sn sc, .slice ba bn bc, .int .i64 lo, .int .i64 hi'] 57)).alloc (.cells (pieceCells (w3.heap.size + 1) 0 0) 57)) = X at *
  generalize w3.heap.size + 1 = G at *
  have y0 := hrX.c0
  have y1 := hrX.c1
  have yf := hrX.fr 1
  obtain ⟨q0, q1, q2, q3, q4⟩ := hBX.cells5
  have g0 := hBX.frozen 0
  have g1 := hBX.frozen 1
  have g2 := hBX.frozen 2
  have g3 := hBX.frozen 3
  have g4 := hBX.frozen 4
  obtain ⟨p0, p1, p2, p3, p4⟩ := hPX.cells5
  have h3 := hPX.frozen 3
  have h4 := hPX.frozen 4
  have hRX := hrX.lt
  go_quiet (fail)
  have iv0 : PInv R s w G nd [.int .i64 k, .slice sa sn sc, .slice ba bn bc, .int .i64 lo, .int .i64 hi'] (j + 1) bad (deepI d2) opn 0 0 ((X.drewN nq).setCell ⟨R, 1, none⟩ (.int .i64 (j + 1 : Nat))) := PInv.set1 ⟨hrX.drewN nq, hkX.drewN nq, hBX.drewN nq, hSX.drewN nq, hPX.drewN nq, hnX.drewN nq, by omega, by omega⟩ _
  go_wp2_with fail
  clear hrX hkX hBX hNX hSX hPX hnX y0 y1 yf q0 q1 q2 q3 q4 g0 g1 g2 g3 g4 p0 p1 p2 p3 p4 h3 h4 hRX
  refine (digit_any R s (j + 1) 0 bad (deepI d2) opn _ iv0.rd hb hs).mono ?_
  rintro e w4 (⟨m, hm, hm9, rfl, hr4, hk4⟩ | ⟨hm, rfl, hr4, hk4⟩)
  · skip
    have iv4 := iv0.call hr4 hk4
    have iv5 := iv4.set3 m
    have f5 := iv4.pc.frozen 3
    obtain ⟨u0, u1, u2, u3, u4⟩ := iv4.pc.cells5
    have HCM : Hid (Munch.counts s (j + 1) = if Munch.hasAt s (j + 1 + 1) 44 then (Munch.digit s (j + 1 + 2) (max m 1)).bind fun h => if Munch.hasAt s (j + 1 + 3) 125 then .ok (m, h) else .bad (j + 1 + 3) else .bad (j + 1 + 1)) := by show _ = _; unfold Munch.counts; rw [hm]; rfl
    clear hm
    go_wp2_with fail
    by_cases h44 : Munch.hasAt s (j + 1 + 1) 44 = true
    · have HC : Hid (Munch.counts s (j + 1) = (Munch.digit s (j + 1 + 2) (max m 1)).bind fun h => if Munch.hasAt s (j + 1 + 3) 125 then .ok (m, h) else .bad (j + 1 + 3)) := by show _ = _; rw [HCM.out, if_pos h44]
      refine (sign_ok R s (j + 1 + 1) _ _ _ 44 _ iv5.rd hb hs h44).mono ?_
      rintro e w6 ⟨rfl, hr6, hk6⟩
      clear h44 HCM
      have iv6 := iv5.call hr6 hk6
      by_cases hm1 : (m : Int) < 1
      · have hmax : max m 1 = 1 := by omega
        obtain ⟨v0, v1, v2, v3, v4⟩ := iv6.pc.cells5
        go_wp2_with fail
        refine (digit_any R s (j + 1 + 1 + 1) 1 bad (deepI d2) opn _ iv6.rd hb hs).mono ?_
        rintro e w7 (⟨h, hh, hh9, rfl, hr7, hk7⟩ | ⟨hh, rfl, hr7, hk7⟩)
        · have HC2 : Hid (Munch.counts s (j + 1) = if Munch.hasAt s (j + 1 + 3) 125 then .ok (m, h) else .bad (j + 1 + 3)) := by show _ = _; rw [HC.out, hmax, show j + 1 + 2 = j + 1 + 1 + 1 from rfl, hh]; rfl
          clear hh
          have iv7 := iv6.call hr7 hk7
          have iv8 := iv7.set4 h
          have f8 := iv7.pc.frozen 4
          obtain ⟨t0, t1, t2, t3, t4⟩ := iv7.pc.cells5
          go_wp2_with fail
          by_cases h125 : Munch.hasAt s (j + 1 + 1 + 1 + 1) 125 = true
          · have HOK : Hid (Munch.pieceF s (n + 1) i opn d = .ok (.piece nd m h, j + 5, d2)) := by show _ = _; rw [HPF.out, HC2.out, show j + 1 + 3 = j + 1 + 1 + 1 + 1 from rfl, if_pos h125]; rfl
            refine (sign_ok R s (j + 1 + 1 + 1 + 1) _ _ _ 125 _ iv8.rd hb hs h125).mono ?_
            rintro e w9 ⟨rfl, hr9, hk9⟩
            clear h125
            have iv9 := iv8.call hr9 hk9
            obtain ⟨q0, q1, q2, q3, q4⟩ := iv9.res.cells5
            have g0 := iv9.res.frozen 0
            have g1 := iv9.res.frozen 1
            have g2 := iv9.res.frozen 2
            have g3 := iv9.res.frozen 3
            have g4 := iv9.res.frozen 4
            obtain ⟨p0, p1, p2, p3, p4⟩ := iv9.pc.cells5
            obtain ⟨z0, z1, z2, z3, z4⟩ := iv9.res.put5_cells (.int .i64 4) (.slice none 0 0) (.slice (some ⟨G, 0, none⟩) 1 1) (.int .i64 m) (.int .i64 h)
            go_wp2_with fail
            refine bodyPost_ret (v := .agg (pieceCells G m h)) (by simp [results, Tryz.results62, go_sem, z0, z1, z2, z3, z4]) rfl ?_
            refine Or.inl ⟨_, _, _, [.int .i64 4, .slice none 0 0, .slice (some ⟨G, 0, none⟩) 1 1, .int .i64 m, .int .i64 h], HOK.out, rfl, ?_, iv9.rd.put5 (by omega) _ _ _ _ _, iv9.kept.put5 (Or.inr (Nat.le_refl _)) _ _ _ _ _⟩
            refine NodeIn.piece nd [.int .i64 k, .slice sa sn sc, .slice ba bn bc, .int .i64 lo, .int .i64 hi'] _ _ _ (RowAt.ofBlk (cur := #[.int .i64 k, .slice sa sn sc, .slice ba bn bc, .int .i64 lo, .int .i64 hi']) ((put5_other _ _ _ _ _ _ (by omega)).trans iv9.sub) 1 5 (by omega) rfl (by omega)) ?_
            exact (iv9.node.put5 (fun b hok => by have := hok.1; omega) _ _ _ _ _).mono (fun b _ hok => by have := hok.1; show w.heap.size ≤ b; omega)
          · have HOK : Hid (Munch.pieceF s (n + 1) i opn d = .bad (j + 1 + 1 + 1 + 1)) := by show _ = _; rw [HPF.out, HC2.out, show j + 1 + 3 = j + 1 + 1 + 1 + 1 from rfl, if_neg h125]; rfl
            refine (sign_bad R s (j + 1 + 1 + 1 + 1) _ _ _ 125 _ iv8.rd hb (by simpa using h125)).mono ?_
            rintro e w9 ⟨rfl, hr9, hk9⟩
            clear h125
            have iv9 := iv8.call hr9 hk9
            obtain ⟨q0, q1, q2, q3, q4⟩ := iv9.res.cells5
            have g0 := iv9.res.frozen 0
            have g1 := iv9.res.frozen 1
            have g2 := iv9.res.frozen 2
            have g3 := iv9.res.frozen 3
            have g4 := iv9.res.frozen 4
            obtain ⟨p0, p1, p2, p3, p4⟩ := iv9.pc.cells5
            obtain ⟨z0, z1, z2, z3, z4⟩ := iv9.res.put5_cells (.int .i64 4) (.slice none 0 0) (.slice (some ⟨G, 0, none⟩) 1 1) (.int .i64 m) (.int .i64 h)
            go_wp2_with fail
            refine bodyPost_ret (v := .agg (pieceCells G m h)) (by simp [results, Tryz.results62, go_sem, z0, z1, z2, z3, z4]) rfl ?_
            exact Or.inr ⟨_, _, [.int .i64 4, .slice none 0 0, .slice (some ⟨G, 0, none⟩) 1 1, .int .i64 m, .int .i64 h], HOK.out, rfl, ⟨_, _, _, _, _, _, _, _, _, rfl⟩, iv9.rd.put5 (by omega) _ _ _ _ _, iv9.kept.put5 (Or.inr (Nat.le_refl _)) _ _ _ _ _⟩
        · have HOK : Hid (Munch.pieceF s (n + 1) i opn d = .bad (j + 1 + 1 + 1)) := by show _ = _; rw [HPF.out, HC.out, hmax, show j + 1 + 2 = j + 1 + 1 + 1 from rfl, hh]; rfl
          clear hh
          have iv7 := iv6.call hr7 hk7
          have iv8 := iv7.set4 0
          have f8 := iv7.pc.frozen 4
          obtain ⟨t0, t1, t2, t3, t4⟩ := iv7.pc.cells5
          go_wp2_with fail
          refine (sign_no R s ((j + 1 + 1 + 1 : Nat) : Int) _ _ _ _ _ iv8.rd (by omega)).mono ?_
          rintro e w9 ⟨rfl, hr9, hk9⟩
          have iv9 := iv8.call hr9 hk9
          obtain ⟨q0, q1, q2, q3, q4⟩ := iv9.res.cells5
          have g0 := iv9.res.frozen 0
          have g1 := iv9.res.frozen 1
          have g2 := iv9.res.frozen 2
          have g3 := iv9.res.frozen 3
          have g4 := iv9.res.frozen 4
          obtain ⟨p0, p1, p2, p3, p4⟩ := iv9.pc.cells5
          obtain ⟨z0, z1, z2, z3, z4⟩ := iv9.res.put5_cells (.int .i64 4) (.slice none 0 0) (.slice (some ⟨G, 0, none⟩) 1 1) (.int .i64 m) (.int .i64 0)
          go_wp2_with fail
          refine bodyPost_ret (v := .agg (pieceCells G m 0)) (by simp [results, Tryz.results62, go_sem, z0, z1, z2, z3, z4]) rfl ?_
          exact Or.inr ⟨_, _, [.int .i64 4, .slice none 0 0, .slice (some ⟨G, 0, none⟩) 1 1, .int .i64 m, .int .i64 0], HOK.out, rfl, ⟨_, _, _, _, _, _, _, _, _, rfl⟩, iv9.rd.put5 (by omega) _ _ _ _ _, iv9.kept.put5 (Or.inr (Nat.le_refl _)) _ _ _ _ _⟩
      · have hmax : max m 1 = m := by omega
        obtain ⟨v0, v1, v2, v3, v4⟩ := iv6.pc.cells5
        go_wp2_with fail
        refine (digit_any R s (j + 1 + 1 + 1) m bad (deepI d2) opn _ iv6.rd hb hs).mono ?_
        rintro e w7 (⟨h, hh, hh9, rfl, hr7, hk7⟩ | ⟨hh, rfl, hr7, hk7⟩)
        · have HC2 : Hid (Munch.counts s (j + 1) = if Munch.hasAt s (j + 1 + 3) 125 then .ok (m, h) else .bad (j + 1 + 3)) := by show _ = _; rw [HC.out, hmax, show j + 1 + 2 = j + 1 + 1 + 1 from rfl, hh]; rfl
          clear hh
          have iv7 := iv6.call hr7 hk7
          have iv8 := iv7.set4 h
          have f8 := iv7.pc.frozen 4
          obtain ⟨t0, t1, t2, t3, t4⟩ := iv7.pc.cells5
          go_wp2_with fail
          by_cases h125 : Munch.hasAt s (j + 1 + 1 + 1 + 1) 125 = true
          · have HOK : Hid (Munch.pieceF s (n + 1) i opn d = .ok (.piece nd m h, j + 5, d2)) := by show _ = _; rw [HPF.out, HC2.out, show j + 1 + 3 = j + 1 + 1 + 1 + 1 from rfl, if_pos h125]; rfl
            refine (sign_ok R s (j + 1 + 1 + 1 + 1) _ _ _ 125 _ iv8.rd hb hs h125).mono ?_
            rintro e w9 ⟨rfl, hr9, hk9⟩
            clear h125
            have iv9 := iv8.call hr9 hk9
            obtain ⟨q0, q1, q2, q3, q4⟩ := iv9.res.cells5
            have g0 := iv9.res.frozen 0
            have g1 := iv9.res.frozen 1
            have g2 := iv9.res.frozen 2
            have g3 := iv9.res.frozen 3
            have g4 := iv9.res.frozen 4
            obtain ⟨p0, p1, p2, p3, p4⟩ := iv9.pc.cells5
            obtain ⟨z0, z1, z2, z3, z4⟩ := iv9.res.put5_cells (.int .i64 4) (.slice none 0 0) (.slice (some ⟨G, 0, none⟩) 1 1) (.int .i64 m) (.int .i64 h)
            go_wp2_with fail
            refine bodyPost_ret (v := .agg (pieceCells G m h)) (by simp [results, Tryz.results62, go_sem, z0, z1, z2, z3, z4]) rfl ?_
            refine Or.inl ⟨_, _, _, [.int .i64 4, .slice none 0 0, .slice (some ⟨G, 0, none⟩) 1 1, .int .i64 m, .int .i64 h], HOK.out, rfl, ?_, iv9.rd.put5 (by omega) _ _ _ _ _, iv9.kept.put5 (Or.inr (Nat.le_refl _)) _ _ _ _ _⟩
            refine NodeIn.piece nd [.int .i64 k, .slice sa sn sc, .slice ba bn bc, .int .i64 lo, .int .i64 hi'] _ _ _ (RowAt.ofBlk (cur := #[.int .i64 k, .slice sa sn sc, .slice ba bn bc, .int .i64 lo, .int .i64 hi']) ((put5_other _ _ _ _ _ _ (by omega)).trans iv9.sub) 1 5 (by omega) rfl (by omega)) ?_
            exact (iv9.node.put5 (fun b hok => by have := hok.1; omega) _ _ _ _ _).mono (fun b _ hok => by have := hok.1; show w.heap.size ≤ b; omega)
          · have HOK : Hid (Munch.pieceF s (n + 1) i opn d = .bad (j + 1 + 1 + 1 + 1)) := by show _ = _; rw [HPF.out, HC2.out, show j + 1 + 3 = j + 1 + 1 + 1 + 1 from rfl, if_neg h125]; rfl
            refine (sign_bad R s (j + 1 + 1 + 1 + 1) _ _ _ 125 _ iv8.rd hb (by simpa using h125)).mono ?_
            rintro e w9 ⟨rfl, hr9, hk9⟩
            clear h125
            have iv9 := iv8.call hr9 hk9
            obtain ⟨q0, q1, q2, q3, q4⟩ := iv9.res.cells5
            have g0 := iv9.res.frozen 0
            have g1 := iv9.res.frozen 1
            have g2 := iv9.res.frozen 2
            have g3 := iv9.res.frozen 3
            have g4 := iv9.res.frozen 4
            obtain ⟨p0, p1, p2, p3, p4⟩ := iv9.pc.cells5
            obtain ⟨z0, z1, z2, z3, z4⟩ := iv9.res.put5_cells (.int .i64 4) (.slice none 0 0) (.slice (some ⟨G, 0, none⟩) 1 1) (.int .i64 m) (.int .i64 h)
            go_wp2_with fail
            refine bodyPost_ret (v := .agg (pieceCells G m h)) (by simp [results, Tryz.results62, go_sem, z0, z1, z2, z3, z4]) rfl ?_
            exact Or.inr ⟨_, _, [.int .i64 4, .slice none 0 0, .slice (some ⟨G, 0, none⟩) 1 1, .int .i64 m, .int .i64 h], HOK.out, rfl, ⟨_, _, _, _, _, _, _, _, _, rfl⟩, iv9.rd.put5 (by omega) _ _ _ _ _, iv9.kept.put5 (Or.inr (Nat.le_refl _)) _ _ _ _ _⟩
        · have HOK : Hid (Munch.pieceF s (n + 1) i opn d = .bad (j + 1 + 1 + 1)) := by show _ = _; rw [HPF.out, HC.out, hmax, show j + 1 + 2 = j + 1 + 1 + 1 from rfl, hh]; rfl
          clear hh
          have iv7 := iv6.call hr7 hk7
          have iv8 := iv7.set4 0
          have f8 := iv7.pc.frozen 4
          obtain ⟨t0, t1, t2, t3, t4⟩ := iv7.pc.cells5
          go_wp2_with fail
          refine (sign_no R s ((j + 1 + 1 + 1 : Nat) : Int) _ _ _ _ _ iv8.rd (by omega)).mono ?_
          rintro e w9 ⟨rfl, hr9, hk9⟩
          have iv9 := iv8.call hr9 hk9
          obtain ⟨q0, q1, q2, q3, q4⟩ := iv9.res.cells5
          have g0 := iv9.res.frozen 0
          have g1 := iv9.res.frozen 1
          have g2 := iv9.res.frozen 2
          have g3 := iv9.res.frozen 3
          have g4 := iv9.res.frozen 4
          obtain ⟨p0, p1, p2, p3, p4⟩ := iv9.pc.cells5
          obtain ⟨z0, z1, z2, z3, z4⟩ := iv9.res.put5_cells (.int .i64 4) (.slice none 0 0) (.slice (some ⟨G, 0, none⟩) 1 1) (.int .i64 m) (.int .i64 0)
          go_wp2_with fail
          refine bodyPost_ret (v := .agg (pieceCells G m 0)) (by simp [results, Tryz.results62, go_sem, z0, z1, z2, z3, z4]) rfl ?_
          exact Or.inr ⟨_, _, [.int .i64 4, .slice none 0 0, .slice (some ⟨G, 0, none⟩) 1 1, .int .i64 m, .int .i64 0], HOK.out, rfl, ⟨_, _, _, _, _, _, _, _, _, rfl⟩, iv9.rd.put5 (by omega) _ _ _ _ _, iv9.kept.put5 (Or.inr (Nat.le_refl _)) _ _ _ _ _⟩
    · have HOK : Hid (Munch.pieceF s (n + 1) i opn d = .bad (j + 1 + 1)) := by show _ = _; rw [HPF.out, HCM.out, if_neg h44]; rfl
      refine (sign_bad R s (j + 1 + 1) _ _ _ 44 _ iv5.rd hb (by simpa using h44)).mono ?_
      rintro e w6 ⟨rfl, hr6, hk6⟩
      clear h44 HCM
      have iv6 := iv5.call hr6 hk6
      by_cases hm1 : (m : Int) < 1
      · skip
        obtain ⟨v0, v1, v2, v3, v4⟩ := iv6.pc.cells5
        go_wp2_with fail
        refine (digit_no R s (j + 1 + 1) _ _ _ _ _ iv6.rd (by omega)).mono ?_
        rintro e w7 ⟨rfl, hr7, hk7⟩
        have iv7 := iv6.call hr7 hk7
        have iv8 := iv7.set4 0
        have f8 := iv7.pc.frozen 4
        obtain ⟨t0, t1, t2, t3, t4⟩ := iv7.pc.cells5
        go_wp2_with fail
        refine (sign_no R s ((j + 1 + 1 : Nat) : Int) _ _ _ _ _ iv8.rd (by omega)).mono ?_
        rintro e w9 ⟨rfl, hr9, hk9⟩
        have iv9 := iv8.call hr9 hk9
        obtain ⟨q0, q1, q2, q3, q4⟩ := iv9.res.cells5
        have g0 := iv9.res.frozen 0
        have g1 := iv9.res.frozen 1
        have g2 := iv9.res.frozen 2
        have g3 := iv9.res.frozen 3
        have g4 := iv9.res.frozen 4
        obtain ⟨p0, p1, p2, p3, p4⟩ := iv9.pc.cells5
        obtain ⟨z0, z1, z2, z3, z4⟩ := iv9.res.put5_cells (.int .i64 4) (.slice none 0 0) (.slice (some ⟨G, 0, none⟩) 1 1) (.int .i64 m) (.int .i64 0)
        go_wp2_with fail
        refine bodyPost_ret (v := .agg (pieceCells G m 0)) (by simp [results, Tryz.results62, go_sem, z0, z1, z2, z3, z4]) rfl ?_
        exact Or.inr ⟨_, _, [.int .i64 4, .slice none 0 0, .slice (some ⟨G, 0, none⟩) 1 1, .int .i64 m, .int .i64 0], HOK.out, rfl, ⟨_, _, _, _, _, _, _, _, _, rfl⟩, iv9.rd.put5 (by omega) _ _ _ _ _, iv9.kept.put5 (Or.inr (Nat.le_refl _)) _ _ _ _ _⟩
      · skip
        obtain ⟨v0, v1, v2, v3, v4⟩ := iv6.pc.cells5
        go_wp2_with fail
        refine (digit_no R s (j + 1 + 1) _ _ _ _ _ iv6.rd (by omega)).mono ?_
        rintro e w7 ⟨rfl, hr7, hk7⟩
        have iv7 := iv6.call hr7 hk7
        have iv8 := iv7.set4 0
        have f8 := iv7.pc.frozen 4
        obtain ⟨t0, t1, t2, t3, t4⟩ := iv7.pc.cells5
        go_wp2_with fail
        refine (sign_no R s ((j + 1 + 1 : Nat) : Int) _ _ _ _ _ iv8.rd (by omega)).mono ?_
        rintro e w9 ⟨rfl, hr9, hk9⟩
        have iv9 := iv8.call hr9 hk9
        obtain ⟨q0, q1, q2, q3, q4⟩ := iv9.res.cells5
        have g0 := iv9.res.frozen 0
        have g1 := iv9.res.frozen 1
        have g2 := iv9.res.frozen 2
        have g3 := iv9.res.frozen 3
        have g4 := iv9.res.frozen 4
        obtain ⟨p0, p1, p2, p3, p4⟩ := iv9.pc.cells5
        obtain ⟨z0, z1, z2, z3, z4⟩ := iv9.res.put5_cells (.int .i64 4) (.slice none 0 0) (.slice (some ⟨G, 0, none⟩) 1 1) (.int .i64 m) (.int .i64 0)
        go_wp2_with fail
        refine bodyPost_ret (v := .agg (pieceCells G m 0)) (by simp [results, Tryz.results62, go_sem, z0, z1, z2, z3, z4]) rfl ?_
        exact Or.inr ⟨_, _, [.int .i64 4, .slice none 0 0, .slice (some ⟨G, 0, none⟩) 1 1, .int .i64 m, .int .i64 0], HOK.out, rfl, ⟨_, _, _, _, _, _, _, _, _, rfl⟩, iv9.rd.put5 (by omega) _ _ _ _ _, iv9.kept.put5 (Or.inr (Nat.le_refl _)) _ _ _ _ _⟩
  · have HOK : Hid (Munch.pieceF s (n + 1) i opn d = .bad (j + 1)) := by show _ = _; rw [HPF.out]; unfold Munch.counts; rw [hm]; rfl
    clear hm
    have iv4 := iv0.call hr4 hk4
    have iv5 := iv4.set3 0
    have f5 := iv4.pc.frozen 3
    obtain ⟨u0, u1, u2, u3, u4⟩ := iv4.pc.cells5
    go_wp2_with fail
    refine (sign_no R s ((j + 1 : Nat) : Int) _ _ _ _ _ iv5.rd (by omega)).mono ?_
    rintro e w6 ⟨rfl, hr6, hk6⟩
    have iv6 := iv5.call hr6 hk6
    obtain ⟨v0, v1, v2, v3, v4⟩ := iv6.pc.cells5
    go_wp2_with fail
    refine (digit_no R s (j + 1) _ _ _ _ _ iv6.rd (by omega)).mono ?_
    rintro e w7 ⟨rfl, hr7, hk7⟩
    have iv7 := iv6.call hr7 hk7
    have iv8 := iv7.set4 0
    have f8 := iv7.pc.frozen 4
    obtain ⟨t0, t1, t2, t3, t4⟩ := iv7.pc.cells5
    go_wp2_with fail
    refine (sign_no R s ((j + 1 : Nat) : Int) _ _ _ _ _ iv8.rd (by omega)).mono ?_
    rintro e w9 ⟨rfl, hr9, hk9⟩
    have iv9 := iv8.call hr9 hk9
    obtain ⟨q0, q1, q2, q3, q4⟩ := iv9.res.cells5
    have g0 := iv9.res.frozen 0
    have g1 := iv9.res.frozen 1
    have g2 := iv9.res.frozen 2
    have g3 := iv9.res.frozen 3
    have g4 := iv9.res.frozen 4
    obtain ⟨p0, p1, p2, p3, p4⟩ := iv9.pc.cells5
    obtain ⟨z0, z1, z2, z3, z4⟩ := iv9.res.put5_cells (.int .i64 4) (.slice none 0 0) (.slice (some ⟨G, 0, none⟩) 1 1) (.int .i64 0) (.int .i64 0)
    go_wp2_with fail
    refine bodyPost_ret (v := .agg (pieceCells G 0 0)) (by simp [results, Tryz.results62, go_sem, z0, z1, z2, z3, z4]) rfl ?_
    exact Or.inr ⟨_, _, [.int .i64 4, .slice none 0 0, .slice (some ⟨G, 0, none⟩) 1 1, .int .i64 0, .int .i64 0], HOK.out, rfl, ⟨_, _, _, _, _, _, _, _, _, rfl⟩, iv9.rd.put5 (by omega) _ _ _ _ _, iv9.kept.put5 (Or.inr (Nat.le_refl _)) _ _ _ _ _⟩
end Go.Proofs.YtkoaeojdlanolaaGreatDoor
/-
  A LIST OF NODES IN MEMORY, being built: the row's own block stands apart from the blocks of what is in it.
-/
namespace Go.Proofs.YtkoaeojdlanolaaGreatDoor
open Go.RowKit

structure Subs (w : World) (ok : Nat → Prop) (v : Value) (l : List Munch.Node) (cs : List (List Value)) : Prop where
  len : cs.length = l.length
  row : RowAt w ok 57 5 v l.length cs.flatten
  sub : ∀ (i : Nat) n c, l[i]? = some n → cs[i]? = some c → NodeIn w (fun b => ok b ∧ v.ownBlock ≠ some b) n c

theorem Subs.nil (w : World) (ok : Nat → Prop) : Subs w ok (.slice none 0 0) [] [] := ⟨rfl, RowAt.nil _ _ _ _, fun i n c h => by simp at h⟩
theorem Subs.keep {w w' : World} {ok : Nat → Prop} {v : Value} {l : List Munch.Node} {cs : List (List Value)} (h : Subs w ok v l cs) (hk : ∀ b, b < w.heap.size → ok b → w'.heap[b]? = w.heap[b]?) : Subs w' ok v l cs :=
  ⟨h.len, h.row.keep hk, fun i n c hi hc => (h.sub i n c hi hc).keep (fun b hb hok => hk b hb hok.1)⟩
theorem Subs.mono {w : World} {ok ok' : Nat → Prop} {v : Value} {l : List Munch.Node} {cs : List (List Value)} (h : Subs w ok v l cs) (hk : ∀ b, b < w.heap.size → ok b → ok' b) : Subs w ok' v l cs :=
  ⟨h.len, h.row.mono hk, fun i n c hi hc => (h.sub i n c hi hc).mono (fun b hb hok => ⟨hk b hb hok.1, hok.2⟩)⟩
theorem Subs.children {w : World} {ok : Nat → Prop} {v : Value} {l : List Munch.Node} {cs : List (List Value)} (h : Subs w ok v l cs) : ∀ (i : Nat) n c, l[i]? = some n → cs[i]? = some c → NodeIn w ok n c :=
  fun i n c hi hc => (h.sub i n c hi hc).mono (fun _ _ hok => hok.1)
theorem Subs.append {w w' : World} {ok : Nat → Prop} {v v' : Value} {l : List Munch.Node} {cs : List (List Value)} {n : Munch.Node} {c : List Value} (h : Subs w ok v l cs) (hc : NodeIn w (fun b => ok b ∧ v.ownBlock ≠ some b) n c)
    (ha : Appended w w' 57 5 v v' (l.length + 1) (cs.flatten ++ c)) (hnew : ∀ g, w.heap.size ≤ g → ok g) : Subs w' ok v' (l ++ [n]) (cs ++ [c]) := by
  have hk : ∀ b, b < w.heap.size → (ok b ∧ v.ownBlock ≠ some b) → w'.heap[b]? = w.heap[b]? := fun b hb hok => ha.grown.block b hb (fun e => hok.2 e.symm)
  have up : ∀ m x, NodeIn w (fun b => ok b ∧ v.ownBlock ≠ some b) m x → NodeIn w' (fun b => ok b ∧ v'.ownBlock ≠ some b) m x := by
    intro m x hx
    have h1 : NodeIn w (fun b => (ok b ∧ v.ownBlock ≠ some b) ∧ v'.ownBlock ≠ some b) m x := hx.mono (fun b hb hok => ⟨hok, by
      rcases ha.place with hp | hp
      · rw [hp]; exact hok.2
      · intro e; have := hp b e; omega⟩)
    exact (h1.keep (fun b hb hok => hk b hb hok.1)).mono (fun b _ hok => ⟨hok.1.1, hok.2⟩)
  refine ⟨by simp [h.len], ?_, ?_⟩
  · have := ha.row h.row hnew
    simpa using this
  · intro i m x hi hx
    by_cases hlt : i < l.length
    · rw [List.getElem?_append_left hlt] at hi
      rw [List.getElem?_append_left (by rw [h.len]; exact hlt)] at hx
      exact up _ _ (h.sub i m x hi hx)
    · rw [List.getElem?_append_right (by omega)] at hi
      rw [List.getElem?_append_right (by rw [h.len]; omega)] at hx
      by_cases h0 : i - l.length = 0
      · rw [h0] at hi; rw [h.len, h0] at hx
        simp at hi hx
        subst hi; subst hx
        exact up _ _ hc
      · rw [List.getElem?_eq_none (by simp; omega)] at hi; cases hi

theorem refPiece_any (n : Nat) (hatom : AtomSaid n) : PieceSaid (n + 1) := by
  intro R s i bad d opn w hr hb hs ho hi hout
  rcases Munch.Res.split (Munch.atomF s n i opn d) with hat | ⟨p, hat⟩ | ⟨x, hat⟩
  · (try rw [hat])
    exact absurd (by rw [Munch.pieceF_s, hat]; rfl) hout
  · (try rw [hat])
    exact piece_bad R s n i bad d opn w hatom hr hb hs ho hi p hat
  · (try rw [hat])
    obtain ⟨nd, j, d2⟩ := x
    by_cases hj : j < s.size
    · by_cases h1 : s[j].toNat = 42
      · exact piece_star R s n i bad d opn w hatom hr hb hs ho hi nd j d2 hat hj h1
      · by_cases h2 : s[j].toNat = 43
        · exact piece_plus R s n i bad d opn w hatom hr hb hs ho hi nd j d2 hat hj h2
        · by_cases h3 : s[j].toNat = 63
          · exact piece_quest R s n i bad d opn w hatom hr hb hs ho hi nd j d2 hat hj h3
          · by_cases h4 : s[j].toNat = 123
            · exact piece_count R s n i bad d opn w hatom hr hb hs ho hi nd j d2 hat hj h4
            · exact piece_none R s n i bad d opn w hatom hr hb hs ho hi nd j d2 hat hj h1 h2 h3 h4
    · exact piece_end R s n i bad d opn w hatom hr hb hs ho hi nd j d2 hat (by omega)
theorem piece_zero : PieceSaid 0 := fun R s i bad d opn w _ _ _ _ _ hout => absurd (by rw [Munch.pieceF_z]) hout
theorem atom_zero : AtomSaid 0 := fun R s i bad d opn w _ _ _ _ _ hout => absurd (by rw [Munch.atomF_z]) hout
end Go.Proofs.YtkoaeojdlanolaaGreatDoor
/-
  THE WALK of the reader's form.
-/
namespace Go.Proofs.YtkoaeojdlanolaaGreatDoor
open Go.RowKit

theorem infoNode : (Tryz.prog.info? 57).map (fun i => (i.zero, i.size, i.bytes)) = some (some (.agg zero5), 5, 72) := by kernel_rfl

theorem cell_five_new (w : World) (a b c d e : Value) (t : TypeId) : ∀ j u, [a, b, c, d, e][j]? = some u → (w.alloc (.cells #[a, b, c, d, e] t)).cell? ((⟨w.heap.size, 0, none⟩ : Addr).add j) = some u := by
  intro j u hj
  match j, hj with
  | 0, hj => simp at hj; subst hj; simp [Addr.add]
  | 1, hj => simp at hj; subst hj; simp [Addr.add]
  | 2, hj => simp at hj; subst hj; simp [Addr.add]
  | 3, hj => simp at hj; subst hj; simp [Addr.add]
  | 4, hj => simp at hj; subst hj; simp [Addr.add]
theorem shape_one (k : Int) (sa : Option Addr) (sn sc : Nat) (ba : Option Addr) (bn bc : Nat) (lo hi : Int) : ∀ u ∈ [Value.int .i64 k, .slice sa sn sc, .slice ba bn bc, .int .i64 lo, .int .i64 hi], u.oneCell' = true := by
  intro u hu; simp at hu; rcases hu with rfl | rfl | rfl | rfl | rfl <;> rfl

/-- A struct of kind q with these parts. -/
abbrev kindCells (q : Int) (v : Value) : Array Value := #[.int .i64 q, .slice none 0 0, v, .int .i64 0, .int .i64 0]

/-- The blocks of the inner loop. -/
structure IMem (R B Q : Nat) (w : World) (vF : Value) (l : List Munch.Node) (cs : List (List Value)) (vR : Value) (Y : World) : Prop where
  res : Blk Y B 57 zero5
  fb : Blk Y (B + 1) 57 (kindCells 3 vF)
  qb : Blk Y Q 57 (kindCells 2 vR)
  kept : Kept R w Y
  sub : Subs Y (fun b => B + 2 ≤ b ∧ b < Q) vF l cs
  bw : B = w.heap.size
  ne : R < B
  lt : B + 2 ≤ Q
namespace IMem
variable {R B Q : Nat} {w : World} {vF : Value} {l : List Munch.Node} {cs : List (List Value)} {vR : Value} {Y : World}
theorem drewN (h : IMem R B Q w vF l cs vR Y) (n : Nat) : IMem R B Q w vF l cs vR (Y.drewN n) := ⟨h.res.drewN n, h.fb.drewN n, h.qb.drewN n, h.kept.drewN n, Subs.keep h.sub (w' := Y.drewN n) (fun _ _ _ => rfl), h.bw, h.ne, h.lt⟩
theorem alloc (h : IMem R B Q w vF l cs vR Y) (o : Obj) : IMem R B Q w vF l cs vR (Y.alloc o) := ⟨h.res.alloc o, h.fb.alloc o, h.qb.alloc o, h.kept.alloc o, h.sub.keep (fun b hb _ => Below.heap_alloc Y o b hb), h.bw, h.ne, h.lt⟩
theorem call (h : IMem R B Q w vF l cs vR Y) {Y' : World} (hk : Kept R Y Y') : IMem R B Q w vF l cs vR Y' :=
  ⟨hk.blk h.res (by have := h.ne; omega), hk.blk h.fb (by have := h.ne; omega), hk.blk h.qb (by have := h.ne; have := h.lt; omega), h.kept.trans hk, h.sub.keep (fun b hb hok => hk.block b hb (by have := h.ne; have := hok.1; omega)), h.bw, h.ne, h.lt⟩
/-- The row of pieces has grown, and is stored. -/
theorem grow (h : IMem R B Q w vF l cs vR Y) {Y' : World} {v' : Value} {n n' : Nat} {xs xs' : List Value} (hrow : RowAt Y (Q + 1 ≤ ·) 57 5 vR n xs) (ha : Appended Y Y' 57 5 vR v' n' xs') : IMem R B Q w vF l cs v' (Y'.setCell ⟨Q, 2, none⟩ v') := by
  have hown : ∀ b, b ≤ Q → some b ≠ vR.ownBlock := fun b hb e => by have h1 : Q + 1 ≤ b := hrow.blk b e.symm; omega
  have hne := h.ne
  have hlt := h.lt
  refine ⟨(h.res.grown ha.grown (hown _ (by omega))).setOther (by simp <;> omega) _, (h.fb.grown ha.grown (hown _ (by omega))).setOther (by simp <;> omega) _, ?_, ?_, ?_, h.bw, h.ne, h.lt⟩
  · have := (h.qb.grown ha.grown (hown _ (by omega))).set 2 v'
    simpa using this
  · exact (h.kept.grown ha.grown (fun g hg => Or.inr (by have h1 : Q + 1 ≤ g := hrow.blk g hg; have := h.bw; omega))).setCell (Or.inr (by have := h.bw; simp <;> omega)) _
  · exact (h.sub.keep (w' := Y') (fun b hb hok => ha.grown.block b hb (hown b (by have := hok.2; omega)))).keep (fun b _ hok => Below.heap_setCell _ _ _ b (by have := hok.2; simp <;> omega))
theorem rdGrow (h : IMem R B Q w vF l cs vR Y) {Y' : World} {v' : Value} {n n' : Nat} {xs xs' : List Value} (hrow : RowAt Y (Q + 1 ≤ ·) 57 5 vR n xs) (ha : Appended Y Y' 57 5 vR v' n' xs') {s : ByteArray} {i bad dp opn : Int} (hr : Rd Y R s i bad dp opn) : Rd (Y'.setCell ⟨Q, 2, none⟩ v') R s i bad dp opn :=
  (hr.grown ha.grown (fun e => by have h1 : Q + 1 ≤ R := hrow.blk R e.symm; have := h.ne; have := h.lt; omega)).other (by have := h.ne; have := h.lt; simp <;> omega) _
end IMem

/-- The outer list has grown, and is stored. -/
theorem outer_grow {R B : Nat} {w Y Y' : World} {vF v' : Value} {n n' : Nat} {xs xs' : List Value} (hres : Blk Y B 57 zero5) (hfb : Blk Y (B + 1) 57 (kindCells 3 vF)) (hk : Kept R w Y) (hbw : B = w.heap.size) (hne : R < B)
    (hrow : RowAt Y (B + 2 ≤ ·) 57 5 vF n xs) (ha : Appended Y Y' 57 5 vF v' n' xs') :
    Blk (Y'.setCell ⟨B + 1, 2, none⟩ v') B 57 zero5 ∧ Blk (Y'.setCell ⟨B + 1, 2, none⟩ v') (B + 1) 57 (kindCells 3 v') ∧ Kept R w (Y'.setCell ⟨B + 1, 2, none⟩ v') ∧
    RowAt (Y'.setCell ⟨B + 1, 2, none⟩ v') (B + 2 ≤ ·) 57 5 v' n' xs' ∧ (∀ {s : ByteArray} {i bad dp opn : Int}, Rd Y R s i bad dp opn → Rd (Y'.setCell ⟨B + 1, 2, none⟩ v') R s i bad dp opn) := by
  have hown : ∀ b, b ≤ B + 1 → some b ≠ vF.ownBlock := fun b hb e => by have h1 : B + 2 ≤ b := hrow.blk b e.symm; omega
  have hrow' : RowAt Y' (B + 2 ≤ ·) 57 5 v' n' xs' := ha.row hrow (fun g hg => by have := hfb.lt; show B + 2 ≤ g; omega)
  refine ⟨(hres.grown ha.grown (hown _ (by omega))).setOther (by simp) _, ?_, ?_, ?_, ?_⟩
  · have := (hfb.grown ha.grown (hown _ (by omega))).set 2 v'
    simpa using this
  · exact (hk.grown ha.grown (fun g hg => Or.inr (by have h1 : B + 2 ≤ g := hrow.blk g hg; omega))).setCell (Or.inr (by simp <;> omega)) _
  · exact hrow'.keep (fun b _ hok => Below.heap_setCell _ _ _ b (by have : B + 2 ≤ b := hok; simp <;> omega))
  · intro s i bad dp opn hr
    exact (hr.grown ha.grown (hown _ (by omega))).other (by simp <;> omega) _

/-- The outer loop, in memory. -/
def FInv (R : Nat) (s : ByteArray) (bad : Int) (opn : Nat) (B : Nat) (w : World) (R0 : Munch.Res (Munch.Node × Nat × Option Nat)) (k : Nat) (more : Value) (wr : World) : Prop :=
  ∃ vF, Blk wr B 57 zero5 ∧ Blk wr (B + 1) 57 (kindCells 3 vF) ∧ Kept R w wr ∧
  ((more = .bool true ∧ ∃ i d l cs, Rd wr R s (i : Nat) bad (deepI d) opn ∧ opn ≤ i ∧ i ≤ s.size ∧ l.length ≤ i ∧ Subs wr (B + 2 ≤ ·) vF l cs ∧ Munch.formF s k i opn d l = R0) ∨
   (more = .bool false ∧ ∃ i d l cs, Rd wr R s (i : Nat) bad (deepI d) opn ∧ Subs wr (B + 2 ≤ ·) vF l cs ∧ R0 = .ok (.form l, i, d)) ∨
   (more = .bool false ∧ ∃ (p : Nat) (d : Int) (n : Nat) (xs : List Value), Rd wr R s (p : Nat) (p : Nat) d opn ∧ RowAt wr (B + 2 ≤ ·) 57 5 vF n xs ∧ R0 = .bad p))

/-- The inner loop: Q the row's block. -/
def IInv (R : Nat) (s : ByteArray) (bad : Int) (opn : Nat) (B Q : Nat) (w : World) (vF : Value) (l : List Munch.Node) (cs : List (List Value)) (R1 : Munch.Res (Munch.Node × Nat × Option Nat)) (k : Nat) (ok : Value) (wr : World) : Prop :=
  ∃ vR, IMem R B Q w vF l cs vR wr ∧
  ((∃ i d lR cR, ok = .bool (Munch.begins s i) ∧ Rd wr R s (i : Nat) bad (deepI d) opn ∧ opn ≤ i ∧ i ≤ s.size ∧ lR.length ≤ i ∧ l.length ≤ i ∧ Subs wr (Q + 1 ≤ ·) vR lR cR ∧ Munch.rowF s k i opn d lR = R1) ∨
   (ok = .bool false ∧ ∃ (p : Nat) (d : Int) (n : Nat) (xs : List Value), n ≤ 1001 ∧ l.length ≤ 1000 ∧ Rd wr R s (p : Nat) (p : Nat) d opn ∧ RowAt wr (Q + 1 ≤ ·) 57 5 vR n xs ∧ R1 = .bad p))

set_option maxHeartbeats 4000000 in
theorem form_any (N : Nat) (hpiece : ∀ m, m < N → PieceSaid m) : FormSaid N := by
  intro R s i bad d opn w hr hb hs ho hi hout
  have hRB := hr.lt
  obtain ⟨i0, hi0, hz0, hz1, hz2⟩ := info_parts infoNode
  have HOUT : Hid _ := hout; clear hout
  go_enter Tryz.func30, Tryz.ntmps30
  go_wp2_with fail
  go_loopg [4] N (fun k more wr => k ≤ N ∧ FInv R s bad opn w.heap.size w (Munch.formF s N i opn d []) k more wr)
  case atStart =>
    refine ⟨Nat.le_refl _, .slice none 0 0, ?_, ?_, ?_, Or.inl ⟨rfl, i, d, [], [], ?_, ho, hi, by simp, Subs.nil _ _, rfl⟩⟩
    · exact (Blk.new w zero5 57).alloc _
    · have := Blk.new (w.alloc (.cells zero5 57)) (kindCells 3 (.slice none 0 0)) 57
      rw [size_alloc] at this
      exact this
    · exact ((Kept.refl R w).alloc _).alloc _
    · exact (hr.alloc _).alloc _
  case round =>
    obtain ⟨wo, rfl⟩ : ∃ wo : World, wo = wr := ⟨_, rfl⟩
    obtain ⟨hgN, vF, hB, hF, hK, hcase⟩ := hrel
    have hFl := hF.lt
    rcases hcase with ⟨rfl, i1, d1, l, cs, hr1, ho1, hi1, hll, hsub, hfo⟩ | ⟨rfl, i1, d1, l, cs, hr1, hsub, hR⟩ | ⟨rfl, p, d1, n, xs, hr1, hrow, hR⟩
    · -- one row more
      obtain ⟨K, rfl⟩ : ∃ K, gk = K + 1 := by
        cases gk with
        | zero => exact absurd (by rw [← hfo, Munch.formF_z]) HOUT.out
        | succ K => exact ⟨K, rfl⟩
      have HFO : Hid (Munch.formF s N i opn d [] = (Munch.rowF s K i1 opn d1 []).bind fun x => if Munch.hasAt s x.2.1 124 then Munch.formF s K (x.2.1 + 1) opn x.2.2 (l ++ [x.1]) else .ok (.form (l ++ [x.1]), x.2)) := by show _ = _; rw [← hfo, Munch.formF_s]
      have HRO : Hid (Munch.rowF s K i1 opn d1 [] ≠ .out) := fun h => HOUT.out (by rw [HFO.out, h]; rfl)
      clear hfo
      go_wp2_with fail
      refine (begins_ok R s i1 bad (deepI d1) opn _ (hr1.alloc _) hb).mono ?_
      rintro e w2 ⟨rfl, n2, rfl⟩
      go_wp2_with fail
      go_loopg [6] K (fun k ok wr => k ≤ K ∧ IInv R s bad opn w.heap.size wo.heap.size w vF l cs (Munch.rowF s K i1 opn d1 []) k ok wr)
      case atStart =>
        refine ⟨Nat.le_refl _, .slice none 0 0, ⟨?_, ?_, ?_, ?_, ?_, rfl, hRB, hFl⟩, Or.inl ⟨i1, d1, [], [], rfl, ?_, ho1, hi1, by simp, hll, Subs.nil _ _, rfl⟩⟩
        · exact (hB.alloc _).drewN _
        · exact (hF.alloc _).drewN _
        · exact (Blk.new wo (kindCells 2 (.slice none 0 0)) 57).drewN _
        · exact (hK.alloc _).drewN _
        · exact (hsub.mono (ok' := fun b => w.heap.size + 2 ≤ b ∧ b < wo.heap.size) (fun b hb h => ⟨h, hb⟩)).keep (fun b hb _ => Below.heap_alloc wo _ b hb)
        · exact (hr1.alloc _).drewN _
      case round =>
        obtain ⟨hgK, vR, im, hcase'⟩ := hrel
        have hQl := im.qb.lt
        have hsz : w.heap.size ≤ wr.heap.size := im.kept.size
        rcases hcase' with ⟨i2, d2, lR, cR, rfl, hr2, ho2, hi2, hlr, hll2, hsR, hro⟩ | ⟨rfl, p, d2, n, xs, hn, hln, hr2, hrow, hR1⟩
        · obtain ⟨M, rfl⟩ : ∃ M, gk = M + 1 := by
            cases gk with
            | zero => exact absurd (by rw [← hro, Munch.rowF_z]) HRO.out
            | succ M => exact ⟨M, rfl⟩
          by_cases hbg : Munch.begins s i2 = true
          · have hi2' : i2 < s.size := by
              rcases Nat.lt_or_ge i2 s.size with h | h
              · exact h
              · unfold Munch.begins at hbg; rw [dif_neg (by omega)] at hbg; cases hbg
            have HRW : Hid (Munch.rowF s K i1 opn d1 [] = (Munch.pieceF s M i2 opn d2).bind fun x => Munch.rowF s M x.2.1 opn x.2.2 (lR ++ [x.1])) := by show _ = _; rw [← hro, Munch.rowF_s, if_pos hbg]
            have HPO : Hid (Munch.pieceF s M i2 opn d2 ≠ .out) := fun h => HRO.out (by rw [HRW.out, h]; rfl)
            clear hro
            rw [hbg]
            clear hbg
            go_wp2_with fail
            refine (hpiece M (by omega) R s i2 bad d2 opn _ hr2 hb hs ho2 hi2' HPO.out).mono ?_
            rintro e w3 (⟨nd, j, d3, cN, hpf, rfl, hn, hr3, hk3⟩ | ⟨p, d3, cN, hpf, rfl, hsh, hr3, hk3⟩)
            · have hjb := (Munch.bounds s M).2.2.1 _ _ _ _ _ _ hpf
              have HPF : Hid _ := hpf; clear hpf
              obtain ⟨k, sa, sn, sc, ba, bn, bc, lo, hi', rfl⟩ := hn.shape
              have im3 := im.call hk3
              have imX := (im3.alloc (.cells #[.int .i64 k, .slice sa sn sc, .slice ba bn bc, .int .i64 lo, .int .i64 hi'] 57)).alloc (.cells #[.int .i64 k, .slice sa sn sc, .slice ba bn bc, .int .i64 lo, .int .i64 hi'] 57)
              have hrX := (hr3.alloc (.cells #[.int .i64 k, .slice sa sn sc, .slice ba bn bc, .int .i64 lo, .int .i64 hi'] 57)).alloc (.cells #[.int .i64 k, .slice sa sn sc, .slice ba bn bc, .int .i64 lo, .int .i64 hi'] 57)
              have hz3 := hk3.size
              have hsX : Subs ((w3.alloc (.cells #[.int .i64 k, .slice sa sn sc, .slice ba bn bc, .int .i64 lo, .int .i64 hi'] 57)).alloc (.cells #[.int .i64 k, .slice sa sn sc, .slice ba bn bc, .int .i64 lo, .int .i64 hi'] 57)) (wo.heap.size + 1 ≤ ·) vR lR cR := ((hsR.keep (fun b hb hok => hk3.block b hb (by have : wo.heap.size + 1 ≤ b := hok; have := im.ne; have := im.lt; omega))).keep (fun b hb _ => Below.heap_alloc w3 _ b hb)).keep (fun b hb _ => Below.heap_alloc _ _ b hb)
              have hX2 : ((w3.alloc (.cells #[.int .i64 k, .slice sa sn sc, .slice ba bn bc, .int .i64 lo, .int .i64 hi'] 57)).alloc (.cells #[.int .i64 k, .slice sa sn sc, .slice ba bn bc, .int .i64 lo, .int .i64 hi'] 57)).heap.size = w3.heap.size + 1 + 1 := by rw [size_alloc, size_alloc]
              have hnX : NodeIn ((w3.alloc (.cells #[.int .i64 k, .slice sa sn sc, .slice ba bn bc, .int .i64 lo, .int .i64 hi'] 57)).alloc (.cells #[.int .i64 k, .slice sa sn sc, .slice ba bn bc, .int .i64 lo, .int .i64 hi'] 57)) (fun b => wo.heap.size + 1 ≤ b ∧ vR.ownBlock ≠ some b) nd [.int .i64 k, .slice sa sn sc, .slice ba bn bc, .int .i64 lo, .int .i64 hi'] := ((hn.mono (ok' := fun b => wo.heap.size + 1 ≤ b ∧ vR.ownBlock ≠ some b) (fun b _ hok => by have h1 : wr.heap.size ≤ b := hok; exact ⟨by omega, fun e => by have := hsR.row.lt b e; omega⟩)).keep (fun b hb _ => Below.heap_alloc w3 _ b hb)).keep (fun b hb _ => Below.heap_alloc _ _ b hb)
              obtain ⟨ao, cap, rfl⟩ := hsR.row.shape
              obtain ⟨u0, u1, u2, u3, u4⟩ := im3.qb.cells5
              have uf := im3.qb.frozen 2
              have hR3 := hr3.lt
              have hQ3 := im3.qb.lt
              go_wp2_with (at_builtin; refine wpList_append_sep _ rfl (.tmp 17) (.tmp 19) 55 rfl 57 i0 (.agg zero5) 5 72 Tryz.underlying55 hi0 hz0 hz1 hz2 rfl (by decide) _ lR.length cR.flatten rfl hsX.row.own ⟨w3.heap.size + 1, 0, none⟩ 1 1 [.int .i64 k, .slice sa sn sc, .slice ba bn bc, .int .i64 lo, .int .i64 hi'] rfl rfl (by have := cell_five_new (w3.alloc (.cells #[.int .i64 k, .slice sa sn sc, .slice ba bn bc, .int .i64 lo, .int .i64 hi'] 57)) (.int .i64 k) (.slice sa sn sc) (.slice ba bn bc) (.int .i64 lo) (.int .i64 hi') 57; rw [size_alloc] at this; exact this) (shape_one _ _ _ _ _ _ _ _ _) (by unfold maxLen; omega) (by omega) ?_)
              intro v' w4 hap
              have im4 := imX.grow hsX.row hap
              have hr4 := imX.rdGrow hsX.row hap hrX
              have hs4 : Subs (w4.setCell ⟨wo.heap.size, 2, none⟩ v') (wo.heap.size + 1 ≤ ·) v' (lR ++ [nd]) (cR ++ [[.int .i64 k, .slice sa sn sc, .slice ba bn bc, .int .i64 lo, .int .i64 hi']]) := (hsX.append hnX hap (fun g hg => by rw [hX2] at hg; show wo.heap.size + 1 ≤ g; omega)).keep (fun b _ hok => Below.heap_setCell _ _ _ b (by have : wo.heap.size + 1 ≤ b := hok; simp <;> omega))
              have hsh4 : ∃ ao' cap', v' = .slice ao' (lR.length + 1) cap' := by have := hs4.row.shape; simpa using this
              obtain ⟨ao', cap', rfl⟩ := hsh4
              have hq4 := imX.qb.grown hap.grown (fun e => by have h1 : wo.heap.size + 1 ≤ wo.heap.size := hsX.row.blk _ e.symm; omega)
              obtain ⟨x0, x1, x2, x3, x4⟩ := hq4.cells5
              have xf := hq4.frozen 2
              clear hap hsX imX hrX u0 u1 u2 u3 u4 uf
              go_wp2_with fail
              refine (begins_ok R s j bad (deepI d3) opn _ hr4 hb).mono ?_
              rintro e w5 ⟨rfl, n5, rfl⟩
              go_wp2_with fail
              go_roundg M
              case measure => omega
              case rel => exact ⟨by omega, _, im4.drewN n5, Or.inl ⟨j, d3, _, _, rfl, hr4.drewN n5, by omega, hjb.2, by simp; omega, by omega, Subs.keep hs4 (fun _ _ _ => rfl), by rw [HRW.out, HPF.out]; rfl⟩⟩
            · have HPF : Hid _ := hpf; clear hpf
              obtain ⟨k, sa, sn, sc, ba, bn, bc, lo, hi', rfl⟩ := hsh
              have im3 := im.call hk3
              have imX := (im3.alloc (.cells #[.int .i64 k, .slice sa sn sc, .slice ba bn bc, .int .i64 lo, .int .i64 hi'] 57)).alloc (.cells #[.int .i64 k, .slice sa sn sc, .slice ba bn bc, .int .i64 lo, .int .i64 hi'] 57)
              have hrX := (hr3.alloc (.cells #[.int .i64 k, .slice sa sn sc, .slice ba bn bc, .int .i64 lo, .int .i64 hi'] 57)).alloc (.cells #[.int .i64 k, .slice sa sn sc, .slice ba bn bc, .int .i64 lo, .int .i64 hi'] 57)
              have hz3 := hk3.size
              have hsX : Subs ((w3.alloc (.cells #[.int .i64 k, .slice sa sn sc, .slice ba bn bc, .int .i64 lo, .int .i64 hi'] 57)).alloc (.cells #[.int .i64 k, .slice sa sn sc, .slice ba bn bc, .int .i64 lo, .int .i64 hi'] 57)) (wo.heap.size + 1 ≤ ·) vR lR cR := ((hsR.keep (fun b hb hok => hk3.block b hb (by have : wo.heap.size + 1 ≤ b := hok; have := im.ne; have := im.lt; omega))).keep (fun b hb _ => Below.heap_alloc w3 _ b hb)).keep (fun b hb _ => Below.heap_alloc _ _ b hb)
              have hX2 : ((w3.alloc (.cells #[.int .i64 k, .slice sa sn sc, .slice ba bn bc, .int .i64 lo, .int .i64 hi'] 57)).alloc (.cells #[.int .i64 k, .slice sa sn sc, .slice ba bn bc, .int .i64 lo, .int .i64 hi'] 57)).heap.size = w3.heap.size + 1 + 1 := by rw [size_alloc, size_alloc]
              obtain ⟨ao, cap, rfl⟩ := hsR.row.shape
              obtain ⟨u0, u1, u2, u3, u4⟩ := im3.qb.cells5
              have uf := im3.qb.frozen 2
              have hR3 := hr3.lt
              have hQ3 := im3.qb.lt
              go_wp2_with (at_builtin; refine wpList_append_sep _ rfl (.tmp 17) (.tmp 19) 55 rfl 57 i0 (.agg zero5) 5 72 Tryz.underlying55 hi0 hz0 hz1 hz2 rfl (by decide) _ lR.length cR.flatten rfl hsX.row.own ⟨w3.heap.size + 1, 0, none⟩ 1 1 [.int .i64 k, .slice sa sn sc, .slice ba bn bc, .int .i64 lo, .int .i64 hi'] rfl rfl (by have := cell_five_new (w3.alloc (.cells #[.int .i64 k, .slice sa sn sc, .slice ba bn bc, .int .i64 lo, .int .i64 hi'] 57)) (.int .i64 k) (.slice sa sn sc) (.slice ba bn bc) (.int .i64 lo) (.int .i64 hi') 57; rw [size_alloc] at this; exact this) (shape_one _ _ _ _ _ _ _ _ _) (by unfold maxLen; omega) (by omega) ?_)
              intro v' w4 hap
              have im4 := imX.grow hsX.row hap
              have hr4 := imX.rdGrow hsX.row hap hrX
              have hrow4 : RowAt (w4.setCell ⟨wo.heap.size, 2, none⟩ v') (wo.heap.size + 1 ≤ ·) 57 5 v' (lR.length + 1) (cR.flatten ++ [.int .i64 k, .slice sa sn sc, .slice ba bn bc, .int .i64 lo, .int .i64 hi']) := (hap.row hsX.row (fun g hg => by rw [hX2] at hg; show wo.heap.size + 1 ≤ g; omega)).keep (fun b _ hok => Below.heap_setCell _ _ _ b (by have : wo.heap.size + 1 ≤ b := hok; simp <;> omega))
              obtain ⟨ao', cap', rfl⟩ := hrow4.shape
              have hq4 := imX.qb.grown hap.grown (fun e => by have h1 : wo.heap.size + 1 ≤ wo.heap.size := hsX.row.blk _ e.symm; omega)
              obtain ⟨x0, x1, x2, x3, x4⟩ := hq4.cells5
              have xf := hq4.frozen 2
              clear hap hsX imX hrX u0 u1 u2 u3 u4 uf
              go_wp2_with fail
              refine (begins_no R s p p d3 opn _ hr4 (by omega)).mono ?_
              rintro e w5 ⟨rfl, n5, rfl⟩
              go_wp2_with fail
              go_roundg M
              case measure => omega
              case rel => exact ⟨by omega, _, im4.drewN n5, Or.inr ⟨rfl, p, d3, _, _, by omega, by omega, hr4.drewN n5, RowAt.keep hrow4 (fun _ _ _ => rfl), by rw [HRW.out, HPF.out]; rfl⟩⟩
          · have hbg' : Munch.begins s i2 = false := by simpa using hbg
            have HRO1 : Hid (Munch.rowF s K i1 opn d1 [] = .ok (.row lR, i2, d2)) := by show _ = _; rw [← hro, Munch.rowF_s, if_neg hbg]
            clear hro
            rw [hbg']
            clear hbg hbg'
            have hshR : ∃ ra rn rc, vR = .slice ra rn rc := by obtain ⟨a, c, h⟩ := hsR.row.shape; exact ⟨a, _, c, h⟩
            obtain ⟨ra, rn, rc, rfl⟩ := hshR
            obtain ⟨fa, fc, rfl⟩ := im.sub.row.shape
            have resX := im.res.alloc (.cells (kindCells 2 (.slice ra rn rc)) 57)
            have fbX := im.fb.alloc (.cells (kindCells 2 (.slice ra rn rc)) 57)
            have keptX := im.kept.alloc (.cells (kindCells 2 (.slice ra rn rc)) 57)
            have hrX := hr2.alloc (.cells (kindCells 2 (.slice ra rn rc)) 57)
            have sFX : Subs (wr.alloc (.cells (kindCells 2 (.slice ra rn rc)) 57)) (w.heap.size + 2 ≤ ·) (.slice fa l.length fc) l cs := (im.sub.mono (ok' := (w.heap.size + 2 ≤ ·)) (fun b _ h => h.1)).keep (fun b hb _ => Below.heap_alloc wr _ b hb)
            have nX : NodeIn (wr.alloc (.cells (kindCells 2 (.slice ra rn rc)) 57)) (fun b => w.heap.size + 2 ≤ b ∧ (Value.slice fa l.length fc).ownBlock ≠ some b) (.row lR) [.int .i64 2, .slice none 0 0, .slice ra rn rc, .int .i64 0, .int .i64 0] := ((NodeIn.row lR _ cR hsR.len hsR.row hsR.children).mono (ok' := fun b => w.heap.size + 2 ≤ b ∧ (Value.slice fa l.length fc).ownBlock ≠ some b) (fun b _ h => by have h1 : wo.heap.size + 1 ≤ b := h; exact ⟨by omega, fun e => by have := (im.sub.row.blk b e).2; omega⟩)).keep (fun b hb _ => Below.heap_alloc wr _ b hb)
            obtain ⟨u0, u1, u2, u3, u4⟩ := im.qb.cells5
            obtain ⟨y0, y1, y2, y3, y4⟩ := im.fb.cells5
            have yf := im.fb.frozen 2
            have hR2 := hr2.lt
            go_wp2_with (at_builtin; refine wpList_append_sep _ rfl (.tmp 25) (.tmp 27) 55 rfl 57 i0 (.agg zero5) 5 72 Tryz.underlying55 hi0 hz0 hz1 hz2 rfl (by decide) _ l.length cs.flatten rfl sFX.row.own ⟨wr.heap.size, 0, none⟩ 1 1 [.int .i64 2, .slice none 0 0, .slice ra rn rc, .int .i64 0, .int .i64 0] rfl rfl (cell_five_new wr _ _ _ _ _ _) (shape_one _ _ _ _ _ _ _ _ _) (by unfold maxLen; omega) (by omega) ?_)
            intro v' w4 hap
            obtain ⟨res4, fb4, kept4, row4, rd4⟩ := outer_grow resX fbX keptX rfl hRB sFX.row hap
            have hr4 := rd4 hrX
            have hnew : ∀ g, (wr.alloc (.cells (kindCells 2 (.slice ra rn rc)) 57)).heap.size ≤ g → w.heap.size + 2 ≤ g := fun g hg => by rw [size_alloc] at hg; omega
            have s4 : Subs (w4.setCell ⟨w.heap.size + 1, 2, none⟩ v') (w.heap.size + 2 ≤ ·) v' (l ++ [.row lR]) (cs ++ [[.int .i64 2, .slice none 0 0, .slice ra rn rc, .int .i64 0, .int .i64 0]]) := (sFX.append nX hap hnew).keep (fun b _ hok => Below.heap_setCell _ _ _ b (by have : w.heap.size + 2 ≤ b := hok; simp <;> omega))
            have hq4 := fbX.grown hap.grown (fun e => by have h1 : w.heap.size + 2 ≤ w.heap.size + 1 := sFX.row.blk _ e.symm; omega)
            obtain ⟨x0, x1, x2, x3, x4⟩ := hq4.cells5
            have xf := hq4.frozen 2
            obtain ⟨va, vc, rfl⟩ := row4.shape
            clear hap rd4 u0 u1 u2 u3 u4 y0 y1 y2 y3 y4 yf
            go_wp2_with fail

            refine (here_ok R s i2 bad (deepI d2) opn 124 _ hr4 hb).mono ?_
            rintro e w5 ⟨rfl, n5, rfl⟩
            have hR4 := hr4.lt
            have m1 := hr4.c1
            have mf := hr4.fr 1
            by_cases h124 : Munch.hasAt s i2 124 = true
            · have hj := Munch.hasAt_true _ _ _ h124
              have HNX : Hid (Munch.formF s K (i2 + 1) opn d2 (l ++ [.row lR]) = Munch.formF s N i opn d []) := by show _ = _; rw [HFO.out, HRO1.out]; simp [h124]
              rw [h124]
              clear h124
              go_wp2_with fail
              go_roundg K
              case measure => omega
              case rel =>
                refine ⟨by omega, _, (res4.drewN n5).setOther (by simp <;> omega) _, (fb4.drewN n5).setOther (by simp <;> omega) _, (kept4.drewN n5).setR _ _, Or.inl ⟨rfl, i2 + 1, d2, _, cs ++ [[.int .i64 2, .slice none 0 0, .slice ra rn rc, .int .i64 0, .int .i64 0]], ((hr4.drewN n5).set1 _).at_ (by omega) rfl, by omega, by omega, by simp; omega, ?_, HNX.out⟩⟩
                exact Subs.keep s4 (fun b _ hok => Below.heap_setCell _ _ _ b (by have : w.heap.size + 2 ≤ b := hok; simp <;> omega))
            · have h124' : Munch.hasAt s i2 124 = false := by simpa using h124
              have HNX : Hid (Munch.formF s N i opn d [] = .ok (.form (l ++ [.row lR]), i2, d2)) := by show _ = _; rw [HFO.out, HRO1.out]; simp [h124']
              rw [h124']
              clear h124 h124'
              go_wp2_with fail
              go_roundg K
              case measure => omega
              case rel => exact ⟨by omega, _, res4.drewN n5, fb4.drewN n5, kept4.drewN n5, Or.inr (Or.inl ⟨rfl, i2, d2, _, _, hr4.drewN n5, Subs.keep s4 (fun _ _ _ => rfl), HNX.out⟩)⟩
        · skip
          have HNX : Hid (Munch.formF s N i opn d [] = .bad p) := by show _ = _; rw [HFO.out, hR1]; rfl
          clear hR1
          have hshR : ∃ ra rn rc, vR = .slice ra rn rc := by obtain ⟨a, c, h⟩ := hrow.shape; exact ⟨a, _, c, h⟩
          obtain ⟨ra, rn, rc, rfl⟩ := hshR
          obtain ⟨fa, fc, rfl⟩ := im.sub.row.shape
          have resX := im.res.alloc (.cells (kindCells 2 (.slice ra rn rc)) 57)
          have fbX := im.fb.alloc (.cells (kindCells 2 (.slice ra rn rc)) 57)
          have keptX := im.kept.alloc (.cells (kindCells 2 (.slice ra rn rc)) 57)
          have hrX := hr2.alloc (.cells (kindCells 2 (.slice ra rn rc)) 57)
          have sFX : Subs (wr.alloc (.cells (kindCells 2 (.slice ra rn rc)) 57)) (w.heap.size + 2 ≤ ·) (.slice fa l.length fc) l cs := (im.sub.mono (ok' := (w.heap.size + 2 ≤ ·)) (fun b _ h => h.1)).keep (fun b hb _ => Below.heap_alloc wr _ b hb)
          obtain ⟨u0, u1, u2, u3, u4⟩ := im.qb.cells5
          obtain ⟨y0, y1, y2, y3, y4⟩ := im.fb.cells5
          have yf := im.fb.frozen 2
          have hR2 := hr2.lt
          go_wp2_with (at_builtin; refine wpList_append_sep _ rfl (.tmp 25) (.tmp 27) 55 rfl 57 i0 (.agg zero5) 5 72 Tryz.underlying55 hi0 hz0 hz1 hz2 rfl (by decide) _ l.length cs.flatten rfl sFX.row.own ⟨wr.heap.size, 0, none⟩ 1 1 [.int .i64 2, .slice none 0 0, .slice ra rn rc, .int .i64 0, .int .i64 0] rfl rfl (cell_five_new wr _ _ _ _ _ _) (shape_one _ _ _ _ _ _ _ _ _) (by unfold maxLen; omega) (by omega) ?_)
          intro v' w4 hap
          obtain ⟨res4, fb4, kept4, row4, rd4⟩ := outer_grow resX fbX keptX rfl hRB sFX.row hap
          have hr4 := rd4 hrX
          have hq4 := fbX.grown hap.grown (fun e => by have h1 : w.heap.size + 2 ≤ w.heap.size + 1 := sFX.row.blk _ e.symm; omega)
          obtain ⟨x0, x1, x2, x3, x4⟩ := hq4.cells5
          have xf := hq4.frozen 2
          obtain ⟨va, vc, rfl⟩ := row4.shape
          clear hap rd4 u0 u1 u2 u3 u4 y0 y1 y2 y3 y4 yf
          go_wp2_with fail

          refine (here_no R s p p d2 opn _ _ hr4 (by omega)).mono ?_
          rintro e w5 ⟨rfl, n5, rfl⟩
          go_wp2_with fail
          go_roundg K
          case measure => omega
          case rel => exact ⟨by omega, _, res4.drewN n5, fb4.drewN n5, kept4.drewN n5, Or.inr (Or.inr ⟨rfl, p, d2, _, _, hr4.drewN n5, RowAt.keep row4 (fun _ _ _ => rfl), HNX.out⟩)⟩
    · skip
      obtain ⟨fa, fc, rfl⟩ := hsub.row.shape
      have HR : Hid _ := hR; clear hR
      obtain ⟨q0, q1, q2, q3, q4⟩ := hB.cells5
      have g0 := hB.frozen 0
      have g1 := hB.frozen 1
      have g2 := hB.frozen 2
      have g3 := hB.frozen 3
      have g4 := hB.frozen 4
      obtain ⟨p0, p1, p2, p3, p4⟩ := hF.cells5
      obtain ⟨z0, z1, z2, z3, z4⟩ := hB.put5_cells (.int .i64 3) (.slice none 0 0) (.slice fa l.length fc) (.int .i64 0) (.int .i64 0)
      go_wp2_with fail
      refine bodyPost_ret (v := .agg (kindCells 3 (.slice fa l.length fc))) (by simp [results, Tryz.results30, go_sem, z0, z1, z2, z3, z4]) rfl ?_
      refine Or.inl ⟨_, _, _, [.int .i64 3, .slice none 0 0, .slice fa l.length fc, .int .i64 0, .int .i64 0], HR.out, rfl, ?_, hr1.put5 (by omega) _ _ _ _ _, hK.put5 (Or.inr (Nat.le_refl _)) _ _ _ _ _⟩
      exact ((NodeIn.form l _ cs hsub.len hsub.row hsub.children).put5 (fun b hok => by have : w.heap.size + 2 ≤ b := hok; omega) _ _ _ _ _).mono (fun b _ hok => by have : w.heap.size + 2 ≤ b := hok; show w.heap.size ≤ b; omega)
    · skip
      obtain ⟨fa, fc, rfl⟩ := hrow.shape
      have HR : Hid _ := hR; clear hR
      obtain ⟨q0, q1, q2, q3, q4⟩ := hB.cells5
      have g0 := hB.frozen 0
      have g1 := hB.frozen 1
      have g2 := hB.frozen 2
      have g3 := hB.frozen 3
      have g4 := hB.frozen 4
      obtain ⟨p0, p1, p2, p3, p4⟩ := hF.cells5
      obtain ⟨z0, z1, z2, z3, z4⟩ := hB.put5_cells (.int .i64 3) (.slice none 0 0) (.slice fa n fc) (.int .i64 0) (.int .i64 0)
      go_wp2_with fail
      refine bodyPost_ret (v := .agg (kindCells 3 (.slice fa n fc))) (by simp [results, Tryz.results30, go_sem, z0, z1, z2, z3, z4]) rfl ?_
      exact Or.inr ⟨_, _, [.int .i64 3, .slice none 0 0, .slice fa n fc, .int .i64 0, .int .i64 0], HR.out, rfl, ⟨_, _, _, _, _, _, _, _, _, rfl⟩, hr1.put5 (by omega) _ _ _ _ _, hK.put5 (Or.inr (Nat.le_refl _)) _ _ _ _ _⟩
end Go.Proofs.YtkoaeojdlanolaaGreatDoor
