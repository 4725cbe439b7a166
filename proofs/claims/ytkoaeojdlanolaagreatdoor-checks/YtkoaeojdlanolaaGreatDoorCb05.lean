import Derived.Test.YtkoaeojdlanolaaGreatDoorCb04
import Derived.Deep.RegionWith
/-
  THE WALKS of the reader's atom: all but the bracket.
-/
namespace Go.Proofs.YtkoaeojdlanolaaGreatDoor
open Go.RowKit

def deepI : Option Nat → Int
  | none => -1
  | some d => (d : Int)

def NodePost (r : Munch.Res (Munch.Node × Nat × Option Nat)) (R : Nat) (s : ByteArray) (bad opn : Int) (w : World) (e : Ending) (w' : World) : Prop :=
  (∃ nd j d cs, r = .ok (nd, j, d) ∧ e = .returned (.agg cs.toArray) ∧ NodeIn w' (w.heap.size ≤ ·) nd cs ∧ Rd w' R s (j : Nat) bad (deepI d) opn ∧ Kept R w w') ∨
  (∃ p d cs, r = .bad p ∧ e = .returned (.agg cs.toArray) ∧ Shape cs ∧ Rd w' R s (p : Nat) (p : Nat) d opn ∧ Kept R w w')

/-- The node that a callee handed back, stored into the result's block. -/
theorem NodeIn.put5 {w : World} {ok : Nat → Prop} {n : Munch.Node} {c : List Value} (h : NodeIn w ok n c) {b : Nat} (hb : ∀ k, ok k → k ≠ b) (a0 a1 a2 a3 a4 : Value) : NodeIn (Go.put5 w b a0 a1 a2 a3 a4) ok n c :=
  h.keep fun k _ hk => put5_other _ _ _ _ _ _ (hb k hk)
theorem NodeIn.up {w : World} {n : Munch.Node} {c : List Value} {a b : Nat} (h : NodeIn w (a ≤ ·) n c) (hab : b < a) (a0 a1 a2 a3 a4 : Value) : NodeIn (Go.put5 w b a0 a1 a2 a3 a4) (b ≤ ·) n c :=
  (h.put5 (fun k hk => by have : a ≤ k := hk; omega) _ _ _ _ _).mono (fun x _ hx => by have : a ≤ x := hx; show b ≤ x; omega)

set_option maxHeartbeats 1000000 in
theorem atom_dot (R : Nat) (s : ByteArray) (n i : Nat) (bad : Int) (d : Option Nat) (opn : Nat) (w : World) (hr : Rd w R s i bad (deepI d) opn) (hs : s.size ≤ 1000) (hi : i < s.size) (hc : s[i].toNat = 46) :
    Calls Tryz.prog 87 #[ptr R] w fun e w' => NodePost (Munch.atomF s (n + 1) i opn d) R s bad opn w e w' := by
  have HOK : Hid (Munch.atomF s (n + 1) i opn d = .ok (Munch.everyN, i + 1, d)) := by show _ = _; rw [Munch.atomF_s, dif_pos hi, if_pos hc]
  have hRB := hr.lt
  have c0 := hr.c0
  have c1 := hr.c1
  have f1 := hr.fr 1
  have k46 : ((s[i].toNat : Int) == 46) = true := by rw [hc]; rfl
  clear hc
  go_enter Tryz.func87, Tryz.ntmps87
  go_wp2
  go_quiet (fail)
  go_wp2_with fail
  have hB0 : Blk (((w.alloc (.cells zero5 57)).drewN nq).setCell ⟨R, 1, none⟩ (.int .i64 (i + 1))) w.heap.size 57 zero5 := ((Blk.new w zero5 57).drewN nq).setOther (by simp; omega) _
  have hK0 : Kept R w (((w.alloc (.cells zero5 57)).drewN nq).setCell ⟨R, 1, none⟩ (.int .i64 (i + 1))) := ((((Kept.refl R w).alloc _).drewN _).setR _ _)
  have hr0 : Rd (((w.alloc (.cells zero5 57)).drewN nq).setCell ⟨R, 1, none⟩ (.int .i64 (i + 1))) R s (i + 1 : Nat) bad (deepI d) opn := (((hr.alloc _).drewN nq).set1 _).at_ (by omega) rfl
  have hz0 : w.heap.size < (((w.alloc (.cells zero5 57)).drewN nq).setCell ⟨R, 1, none⟩ (.int .i64 (i + 1))).heap.size := hB0.lt
  refine (every_any _).mono ?_
  rintro e w3 ⟨cs, rfl, hn, hb3⟩
  have hk3 : Kept R w w3 := hK0.trans (Kept.below hb3)
  have hr3 : Rd w3 R s (i + 1 : Nat) bad (deepI d) opn := Blk.below hr0 hb3 hr0.lt
  have hB3 := hB0.below hb3 hz0
  obtain ⟨k, sa, sn, sc, ba, bn, bc, lo, hi', rfl⟩ := hn.shape
  obtain ⟨q0, q1, q2, q3, q4⟩ := hB3.cells5
  have g0 := hB3.frozen 0
  have g1 := hB3.frozen 1
  have g2 := hB3.frozen 2
  have g3 := hB3.frozen 3
  have g4 := hB3.frozen 4
  obtain ⟨z0, z1, z2, z3, z4⟩ := hB3.put5_cells (.int .i64 k) (.slice sa sn sc) (.slice ba bn bc) (.int .i64 lo) (.int .i64 hi')
  go_wp2_with fail
  refine bodyPost_ret (v := .agg #[.int .i64 k, .slice sa sn sc, .slice ba bn bc, .int .i64 lo, .int .i64 hi']) (by simp [results, Tryz.results87, go_sem, z0, z1, z2, z3, z4]) rfl ?_
  exact Or.inl ⟨_, _, _, [.int .i64 k, .slice sa sn sc, .slice ba bn bc, .int .i64 lo, .int .i64 hi'], HOK.out, rfl, hn.up (by omega) _ _ _ _ _, hr3.put5 (by omega) _ _ _ _ _, hk3.put5 (Or.inr (Nat.le_refl _)) _ _ _ _ _⟩

set_option maxHeartbeats 1000000 in
theorem atom_plain (R : Nat) (s : ByteArray) (n i : Nat) (bad : Int) (d : Option Nat) (opn : Nat) (w : World) (hr : Rd w R s i bad (deepI d) opn) (hs : s.size ≤ 1000) (hi : i < s.size) (h1 : s[i].toNat ≠ 46) (h2 : s[i].toNat ≠ 91) (h3 : s[i].toNat ≠ 40) (h4 : s[i].toNat ≠ 92) :
    Calls Tryz.prog 87 #[ptr R] w fun e w' => NodePost (Munch.atomF s (n + 1) i opn d) R s bad opn w e w' := by
  have HOK : Hid (Munch.atomF s (n + 1) i opn d = .ok (Munch.one s[i], i + 1, d)) := by show _ = _; rw [Munch.atomF_s, dif_pos hi, if_neg h1, if_neg h2, if_neg h3, if_neg h4]
  have hRB := hr.lt
  have c0 := hr.c0
  have c1 := hr.c1
  have f1 := hr.fr 1
  have k46 : ((s[i].toNat : Int) == 46) = false := by rw [beq_eq_false_iff_ne]; omega
  have k91 : ((s[i].toNat : Int) == 91) = false := by rw [beq_eq_false_iff_ne]; omega
  have k40 : ((s[i].toNat : Int) == 40) = false := by rw [beq_eq_false_iff_ne]; omega
  have k92 : ((s[i].toNat : Int) == 92) = false := by rw [beq_eq_false_iff_ne]; omega
  clear h1 h2 h3 h4
  go_enter Tryz.func87, Tryz.ntmps87
  go_wp2
  go_quiet (fail)
  go_wp2_with fail
  have hB0 : Blk (((w.alloc (.cells zero5 57)).drewN nq).setCell ⟨R, 1, none⟩ (.int .i64 (i + 1))) w.heap.size 57 zero5 := ((Blk.new w zero5 57).drewN nq).setOther (by simp; omega) _
  have hK0 : Kept R w (((w.alloc (.cells zero5 57)).drewN nq).setCell ⟨R, 1, none⟩ (.int .i64 (i + 1))) := ((((Kept.refl R w).alloc _).drewN _).setR _ _)
  have hr0 : Rd (((w.alloc (.cells zero5 57)).drewN nq).setCell ⟨R, 1, none⟩ (.int .i64 (i + 1))) R s (i + 1 : Nat) bad (deepI d) opn := (((hr.alloc _).drewN nq).set1 _).at_ (by omega) rfl
  have hz0 : w.heap.size < (((w.alloc (.cells zero5 57)).drewN nq).setCell ⟨R, 1, none⟩ (.int .i64 (i + 1))).heap.size := hB0.lt
  refine (single_any s[i] _).mono ?_
  rintro e w3 ⟨cs, rfl, hn, hb3⟩
  have hk3 : Kept R w w3 := hK0.trans (Kept.below hb3)
  have hr3 : Rd w3 R s (i + 1 : Nat) bad (deepI d) opn := Blk.below hr0 hb3 hr0.lt
  have hB3 := hB0.below hb3 hz0
  obtain ⟨k, sa, sn, sc, ba, bn, bc, lo, hi', rfl⟩ := hn.shape
  obtain ⟨q0, q1, q2, q3, q4⟩ := hB3.cells5
  have g0 := hB3.frozen 0
  have g1 := hB3.frozen 1
  have g2 := hB3.frozen 2
  have g3 := hB3.frozen 3
  have g4 := hB3.frozen 4
  obtain ⟨z0, z1, z2, z3, z4⟩ := hB3.put5_cells (.int .i64 k) (.slice sa sn sc) (.slice ba bn bc) (.int .i64 lo) (.int .i64 hi')
  go_wp2_with fail
  refine bodyPost_ret (v := .agg #[.int .i64 k, .slice sa sn sc, .slice ba bn bc, .int .i64 lo, .int .i64 hi']) (by simp [results, Tryz.results87, go_sem, z0, z1, z2, z3, z4]) rfl ?_
  exact Or.inl ⟨_, _, _, [.int .i64 k, .slice sa sn sc, .slice ba bn bc, .int .i64 lo, .int .i64 hi'], HOK.out, rfl, hn.up (by omega) _ _ _ _ _, hr3.put5 (by omega) _ _ _ _ _, hk3.put5 (Or.inr (Nat.le_refl _)) _ _ _ _ _⟩

set_option maxHeartbeats 1000000 in
theorem atom_set (R : Nat) (s : ByteArray) (n i : Nat) (bad : Int) (d : Option Nat) (opn : Nat) (w : World) (hr : Rd w R s i bad (deepI d) opn) (hs : s.size ≤ 1000) (hi : i < s.size) (hb : bad < 0) (hc : s[i].toNat = 91) (hout : Munch.atomF s (n + 1) i opn d ≠ .out) :
    Calls Tryz.prog 87 #[ptr R] w fun e w' => NodePost (Munch.atomF s (n + 1) i opn d) R s bad opn w e w' := by
  have HAT : Hid (Munch.atomF s (n + 1) i opn d = (Munch.setR s n (i + 1)).bind fun x => .ok (x.1, x.2, d)) := by show _ = _; rw [Munch.atomF_s, dif_pos hi, if_neg (by omega), if_pos hc]
  have HOUT : Hid (Munch.setR s n (i + 1) ≠ .out) := fun h => hout (by rw [HAT.out, h]; rfl)
  have hRB := hr.lt
  have c0 := hr.c0
  have c1 := hr.c1
  have f1 := hr.fr 1
  have k46 : ((s[i].toNat : Int) == 46) = false := by rw [hc]; rfl
  have k91 : ((s[i].toNat : Int) == 91) = true := by rw [hc]; rfl
  clear hc hout
  go_enter Tryz.func87, Tryz.ntmps87
  go_wp2
  go_quiet (fail)
  go_wp2_with fail
  have hB0 : Blk (((w.alloc (.cells zero5 57)).drewN nq).setCell ⟨R, 1, none⟩ (.int .i64 (i + 1))) w.heap.size 57 zero5 := ((Blk.new w zero5 57).drewN nq).setOther (by simp; omega) _
  have hK0 : Kept R w (((w.alloc (.cells zero5 57)).drewN nq).setCell ⟨R, 1, none⟩ (.int .i64 (i + 1))) := ((((Kept.refl R w).alloc _).drewN _).setR _ _)
  have hr0 : Rd (((w.alloc (.cells zero5 57)).drewN nq).setCell ⟨R, 1, none⟩ (.int .i64 (i + 1))) R s (i + 1 : Nat) bad (deepI d) opn := (((hr.alloc _).drewN nq).set1 _).at_ (by omega) rfl
  have hz0 : w.heap.size < (((w.alloc (.cells zero5 57)).drewN nq).setCell ⟨R, 1, none⟩ (.int .i64 (i + 1))).heap.size := hB0.lt
  refine (set_any R s n (i + 1) bad (deepI d) opn _ hr0 hb hs HOUT.out).mono ?_
  rintro e w3 (⟨nd, j, cs, hset, rfl, hn, hr3, hk3'⟩ | ⟨p, cs, hset, rfl, hsh, hr3, hk3'⟩)
  · have HOK : Hid (Munch.atomF s (n + 1) i opn d = .ok (nd, j, d)) := by show _ = _; rw [HAT.out, hset]; rfl
    clear hset
    have hk3 : Kept R w w3 := hK0.trans hk3'
    have hB3 := hk3'.blk hB0 (by omega)
    obtain ⟨k, sa, sn, sc, ba, bn, bc, lo, hi', rfl⟩ := hn.shape
    obtain ⟨q0, q1, q2, q3, q4⟩ := hB3.cells5
    have g0 := hB3.frozen 0
    have g1 := hB3.frozen 1
    have g2 := hB3.frozen 2
    have g3 := hB3.frozen 3
    have g4 := hB3.frozen 4
    obtain ⟨z0, z1, z2, z3, z4⟩ := hB3.put5_cells (.int .i64 k) (.slice sa sn sc) (.slice ba bn bc) (.int .i64 lo) (.int .i64 hi')
    go_wp2_with fail
    refine bodyPost_ret (v := .agg #[.int .i64 k, .slice sa sn sc, .slice ba bn bc, .int .i64 lo, .int .i64 hi']) (by simp [results, Tryz.results87, go_sem, z0, z1, z2, z3, z4]) rfl ?_
    exact Or.inl ⟨_, _, _, [.int .i64 k, .slice sa sn sc, .slice ba bn bc, .int .i64 lo, .int .i64 hi'], HOK.out, rfl, hn.up (by omega) _ _ _ _ _, hr3.put5 (by omega) _ _ _ _ _, hk3.put5 (Or.inr (Nat.le_refl _)) _ _ _ _ _⟩
  · have HOK : Hid (Munch.atomF s (n + 1) i opn d = .bad p) := by show _ = _; rw [HAT.out, hset]; rfl
    clear hset
    have hk3 : Kept R w w3 := hK0.trans hk3'
    have hB3 := hk3'.blk hB0 (by omega)
    obtain ⟨k, sa, sn, sc, ba, bn, bc, lo, hi', rfl⟩ := hsh
    obtain ⟨q0, q1, q2, q3, q4⟩ := hB3.cells5
    have g0 := hB3.frozen 0
    have g1 := hB3.frozen 1
    have g2 := hB3.frozen 2
    have g3 := hB3.frozen 3
    have g4 := hB3.frozen 4
    obtain ⟨z0, z1, z2, z3, z4⟩ := hB3.put5_cells (.int .i64 k) (.slice sa sn sc) (.slice ba bn bc) (.int .i64 lo) (.int .i64 hi')
    go_wp2_with fail
    refine bodyPost_ret (v := .agg #[.int .i64 k, .slice sa sn sc, .slice ba bn bc, .int .i64 lo, .int .i64 hi']) (by simp [results, Tryz.results87, go_sem, z0, z1, z2, z3, z4]) rfl ?_
    exact Or.inr ⟨_, _, [.int .i64 k, .slice sa sn sc, .slice ba bn bc, .int .i64 lo, .int .i64 hi'], HOK.out, rfl, ⟨_, _, _, _, _, _, _, _, _, rfl⟩, hr3.put5 (by omega) _ _ _ _ _, hk3.put5 (Or.inr (Nat.le_refl _)) _ _ _ _ _⟩

end Go.Proofs.YtkoaeojdlanolaaGreatDoor
/-
  THE WALKS of the reader's atom: behind a backslash.
-/
namespace Go.Proofs.YtkoaeojdlanolaaGreatDoor
open Go.RowKit

set_option maxHeartbeats 1000000 in
theorem atom_escEnd (R : Nat) (s : ByteArray) (n i : Nat) (bad : Int) (d : Option Nat) (opn : Nat) (w : World) (hr : Rd w R s i bad (deepI d) opn) (hs : s.size ≤ 1000) (hi : i < s.size) (hb : bad < 0) (hc : s[i].toNat = 92) (h1 : s.size ≤ i + 1) :
    Calls Tryz.prog 87 #[ptr R] w fun e w' => NodePost (Munch.atomF s (n + 1) i opn d) R s bad opn w e w' := by
  have HOK : Hid (Munch.atomF s (n + 1) i opn d = .bad (i + 1)) := by show _ = _; rw [Munch.atomF_s, dif_pos hi, if_neg (by omega), if_neg (by omega), if_neg (by omega), if_pos hc, dif_neg (by omega)]
  have hRB := hr.lt
  have c0 := hr.c0
  have c1 := hr.c1
  have f1 := hr.fr 1
  have r1 : ∀ a, (((w.alloc (.cells zero5 57)).drewN a).setCell ⟨R, 1, none⟩ (.int .i64 (i + 1))).cell? ⟨R, 1, none⟩ = some (.int .i64 (i + 1)) := fun a => (((hr.alloc _).drewN a).set1 _).c1
  have k46 : ((s[i].toNat : Int) == 46) = false := by rw [hc]; rfl
  have k91 : ((s[i].toNat : Int) == 91) = false := by rw [hc]; rfl
  have k40 : ((s[i].toNat : Int) == 40) = false := by rw [hc]; rfl
  have k92 : ((s[i].toNat : Int) == 92) = true := by rw [hc]; rfl
  have hd1 : decide ((s.size : Int) ≤ (i : Int) + 1) = true := by simp; omega
  clear hc
  go_enter Tryz.func87, Tryz.ntmps87
  go_wp2
  go_quiet (fail)
  go_wp2_with fail
  have hB0 : Blk (((w.alloc (.cells zero5 57)).drewN nq).setCell ⟨R, 1, none⟩ (.int .i64 (i + 1))) w.heap.size 57 zero5 := ((Blk.new w zero5 57).drewN nq).setOther (by simp; omega) _
  have hK0 : Kept R w (((w.alloc (.cells zero5 57)).drewN nq).setCell ⟨R, 1, none⟩ (.int .i64 (i + 1))) := ((((Kept.refl R w).alloc _).drewN _).setR _ _)
  have hr0 : Rd (((w.alloc (.cells zero5 57)).drewN nq).setCell ⟨R, 1, none⟩ (.int .i64 (i + 1))) R s (i + 1 : Nat) bad (deepI d) opn := (((hr.alloc _).drewN nq).set1 _).at_ (by omega) rfl
  have hz0 : w.heap.size < (((w.alloc (.cells zero5 57)).drewN nq).setCell ⟨R, 1, none⟩ (.int .i64 (i + 1))).heap.size := hB0.lt
  go_quiet (fail)
  go_wp2_with fail
  refine (fail_any R s (i + 1) bad (deepI d) opn _ (hr0.drewN _)).mono ?_
  rintro e w3 ⟨rfl, hr3, hk3'⟩
  rw [if_pos hb] at hr3
  have hk3 : Kept R w w3 := (hK0.drewN _).trans hk3'
  have hB3 := hk3'.blk (hB0.drewN _) (by omega)
  obtain ⟨q0, q1, q2, q3, q4⟩ := hB3.cells5
  have g0 := hB3.frozen 0
  have g1 := hB3.frozen 1
  have g2 := hB3.frozen 2
  have g3 := hB3.frozen 3
  have g4 := hB3.frozen 4
  obtain ⟨z0, z1, z2, z3, z4⟩ := hB3.put5_cells (.int .i64 0) (.slice none 0 0) (.slice none 0 0) (.int .i64 0) (.int .i64 0)
  go_wp2_with fail
  refine bodyPost_ret (v := .agg #[.int .i64 0, .slice none 0 0, .slice none 0 0, .int .i64 0, .int .i64 0]) (by simp [results, Tryz.results87, go_sem, z0, z1, z2, z3, z4]) rfl ?_
  exact Or.inr ⟨_, _, [.int .i64 0, .slice none 0 0, .slice none 0 0, .int .i64 0, .int .i64 0], HOK.out, rfl, ⟨_, _, _, _, _, _, _, _, _, rfl⟩, hr3.put5 (by omega) _ _ _ _ _, hk3.put5 (Or.inr (Nat.le_refl _)) _ _ _ _ _⟩

set_option maxHeartbeats 1000000 in
theorem atom_escNl (R : Nat) (s : ByteArray) (n i : Nat) (bad : Int) (d : Option Nat) (opn : Nat) (w : World) (hr : Rd w R s i bad (deepI d) opn) (hs : s.size ≤ 1000) (hi : i < s.size) (hb : bad < 0) (hc : s[i].toNat = 92) (h1 : i + 1 < s.size) (h2 : s[i + 1].toNat = 10) :
    Calls Tryz.prog 87 #[ptr R] w fun e w' => NodePost (Munch.atomF s (n + 1) i opn d) R s bad opn w e w' := by
  have HOK : Hid (Munch.atomF s (n + 1) i opn d = .bad (i + 1)) := by show _ = _; rw [Munch.atomF_s, dif_pos hi, if_neg (by omega), if_neg (by omega), if_neg (by omega), if_pos hc, dif_pos h1, if_pos h2]
  have hRB := hr.lt
  have c0 := hr.c0
  have c1 := hr.c1
  have f1 := hr.fr 1
  have r1 : ∀ a, (((w.alloc (.cells zero5 57)).drewN a).setCell ⟨R, 1, none⟩ (.int .i64 (i + 1))).cell? ⟨R, 1, none⟩ = some (.int .i64 (i + 1)) := fun a => (((hr.alloc _).drewN a).set1 _).c1
  have k46 : ((s[i].toNat : Int) == 46) = false := by rw [hc]; rfl
  have k91 : ((s[i].toNat : Int) == 91) = false := by rw [hc]; rfl
  have k40 : ((s[i].toNat : Int) == 40) = false := by rw [hc]; rfl
  have k92 : ((s[i].toNat : Int) == 92) = true := by rw [hc]; rfl
  have hp1 : (0 : Int) ≤ (i : Int) + 1 := by omega
  have hd1 : decide ((s.size : Int) ≤ (i : Int) + 1) = false := by simp; omega
  have hl1 : (i : Int) + 1 < (s.size : Int) := by omega
  have hnl : ((s[i + 1].toNat : Int) == 10) = true := by rw [h2]; rfl
  clear h2
  clear hc
  go_enter Tryz.func87, Tryz.ntmps87
  go_wp2
  go_quiet (fail)
  go_wp2_with fail
  have hB0 : Blk (((w.alloc (.cells zero5 57)).drewN nq).setCell ⟨R, 1, none⟩ (.int .i64 (i + 1))) w.heap.size 57 zero5 := ((Blk.new w zero5 57).drewN nq).setOther (by simp; omega) _
  have hK0 : Kept R w (((w.alloc (.cells zero5 57)).drewN nq).setCell ⟨R, 1, none⟩ (.int .i64 (i + 1))) := ((((Kept.refl R w).alloc _).drewN _).setR _ _)
  have hr0 : Rd (((w.alloc (.cells zero5 57)).drewN nq).setCell ⟨R, 1, none⟩ (.int .i64 (i + 1))) R s (i + 1 : Nat) bad (deepI d) opn := (((hr.alloc _).drewN nq).set1 _).at_ (by omega) rfl
  have hz0 : w.heap.size < (((w.alloc (.cells zero5 57)).drewN nq).setCell ⟨R, 1, none⟩ (.int .i64 (i + 1))).heap.size := hB0.lt
  go_quiet (fail)
  go_wp2_with fail
  refine (fail_any R s (i + 1) bad (deepI d) opn _ (hr0.drewN _)).mono ?_
  rintro e w3 ⟨rfl, hr3, hk3'⟩
  rw [if_pos hb] at hr3
  have hk3 : Kept R w w3 := (hK0.drewN _).trans hk3'
  have hB3 := hk3'.blk (hB0.drewN _) (by omega)
  obtain ⟨q0, q1, q2, q3, q4⟩ := hB3.cells5
  have g0 := hB3.frozen 0
  have g1 := hB3.frozen 1
  have g2 := hB3.frozen 2
  have g3 := hB3.frozen 3
  have g4 := hB3.frozen 4
  obtain ⟨z0, z1, z2, z3, z4⟩ := hB3.put5_cells (.int .i64 0) (.slice none 0 0) (.slice none 0 0) (.int .i64 0) (.int .i64 0)
  go_wp2_with fail
  refine bodyPost_ret (v := .agg #[.int .i64 0, .slice none 0 0, .slice none 0 0, .int .i64 0, .int .i64 0]) (by simp [results, Tryz.results87, go_sem, z0, z1, z2, z3, z4]) rfl ?_
  exact Or.inr ⟨_, _, [.int .i64 0, .slice none 0 0, .slice none 0 0, .int .i64 0, .int .i64 0], HOK.out, rfl, ⟨_, _, _, _, _, _, _, _, _, rfl⟩, hr3.put5 (by omega) _ _ _ _ _, hk3.put5 (Or.inr (Nat.le_refl _)) _ _ _ _ _⟩

set_option maxHeartbeats 1000000 in
theorem atom_escOk (R : Nat) (s : ByteArray) (n i : Nat) (bad : Int) (d : Option Nat) (opn : Nat) (w : World) (hr : Rd w R s i bad (deepI d) opn) (hs : s.size ≤ 1000) (hi : i < s.size) (hc : s[i].toNat = 92) (h1 : i + 1 < s.size) (h2 : s[i + 1].toNat ≠ 10) :
    Calls Tryz.prog 87 #[ptr R] w fun e w' => NodePost (Munch.atomF s (n + 1) i opn d) R s bad opn w e w' := by
  have HOK : Hid (Munch.atomF s (n + 1) i opn d = .ok (Munch.one s[i + 1], i + 2, d)) := by show _ = _; rw [Munch.atomF_s, dif_pos hi, if_neg (by omega), if_neg (by omega), if_neg (by omega), if_pos hc, dif_pos h1, if_neg h2]
  have hRB := hr.lt
  have c0 := hr.c0
  have c1 := hr.c1
  have f1 := hr.fr 1
  have r1 : ∀ a, (((w.alloc (.cells zero5 57)).drewN a).setCell ⟨R, 1, none⟩ (.int .i64 (i + 1))).cell? ⟨R, 1, none⟩ = some (.int .i64 (i + 1)) := fun a => (((hr.alloc _).drewN a).set1 _).c1
  have r2 : ∀ a b, (((((w.alloc (.cells zero5 57)).drewN a).setCell ⟨R, 1, none⟩ (.int .i64 (i + 1))).drewN b).setCell ⟨R, 1, none⟩ (.int .i64 (i + 1 + 1))).cell? ⟨R, 1, none⟩ = some (.int .i64 (i + 1 + 1)) := fun a b => (((((hr.alloc _).drewN a).set1 _).drewN b).set1 _).c1
  have k46 : ((s[i].toNat : Int) == 46) = false := by rw [hc]; rfl
  have k91 : ((s[i].toNat : Int) == 91) = false := by rw [hc]; rfl
  have k40 : ((s[i].toNat : Int) == 40) = false := by rw [hc]; rfl
  have k92 : ((s[i].toNat : Int) == 92) = true := by rw [hc]; rfl
  have hp1 : (0 : Int) ≤ (i : Int) + 1 := by omega
  have hd1 : decide ((s.size : Int) ≤ (i : Int) + 1) = false := by simp; omega
  have hl1 : (i : Int) + 1 < (s.size : Int) := by omega
  have hnl : ((s[i + 1].toNat : Int) == 10) = false := by rw [beq_eq_false_iff_ne]; omega
  have hw2 : IntKind.i64.wrap ((i : Int) + 1) = (i : Int) + 1 := by rw [IntKind.wrap_i64]; omega
  clear hc h2
  go_enter Tryz.func87, Tryz.ntmps87
  go_wp2
  go_quiet (fail)
  obtain ⟨m1, hm1⟩ : ∃ m1 : Nat, m1 = nq := ⟨_, rfl⟩
  subst hm1
  go_wp2_with fail
  have hB0 : Blk (((w.alloc (.cells zero5 57)).drewN m1).setCell ⟨R, 1, none⟩ (.int .i64 (i + 1))) w.heap.size 57 zero5 := ((Blk.new w zero5 57).drewN m1).setOther (by simp; omega) _
  have hK0 : Kept R w (((w.alloc (.cells zero5 57)).drewN m1).setCell ⟨R, 1, none⟩ (.int .i64 (i + 1))) := ((((Kept.refl R w).alloc _).drewN _).setR _ _)
  have hr0 : Rd (((w.alloc (.cells zero5 57)).drewN m1).setCell ⟨R, 1, none⟩ (.int .i64 (i + 1))) R s (i + 1 : Nat) bad (deepI d) opn := (((hr.alloc _).drewN m1).set1 _).at_ (by omega) rfl
  have hz0 : w.heap.size < (((w.alloc (.cells zero5 57)).drewN m1).setCell ⟨R, 1, none⟩ (.int .i64 (i + 1))).heap.size := hB0.lt
  go_quiet (fail)
  go_wp2_with fail
  have hB2 : Blk (((((w.alloc (.cells zero5 57)).drewN m1).setCell ⟨R, 1, none⟩ (.int .i64 (i + 1))).drewN nq).setCell ⟨R, 1, none⟩ (.int .i64 (i + 1 + 1))) w.heap.size 57 zero5 := (hB0.drewN _).setOther (by simp; omega) _
  have hK2 : Kept R w (((((w.alloc (.cells zero5 57)).drewN m1).setCell ⟨R, 1, none⟩ (.int .i64 (i + 1))).drewN nq).setCell ⟨R, 1, none⟩ (.int .i64 (i + 1 + 1))) := (hK0.drewN _).setR _ _
  have hr2 : Rd (((((w.alloc (.cells zero5 57)).drewN m1).setCell ⟨R, 1, none⟩ (.int .i64 (i + 1))).drewN nq).setCell ⟨R, 1, none⟩ (.int .i64 (i + 1 + 1))) R s (i + 1 + 1) bad (deepI d) opn := (hr0.drewN _).set1 _
  clear hB0 hK0 hr0 hz0 r1 r2
  generalize (((((w.alloc (.cells zero5 57)).drewN m1).setCell ⟨R, 1, none⟩ (.int .i64 (i + 1))).drewN nq).setCell ⟨R, 1, none⟩ (.int .i64 (i + 1 + 1))) = W2 at *
  have hz2 := hB2.lt
  have hR2 := hr2.lt
  have y0 := hr2.c0
  have y1 := hr2.c1
  go_region_with (go_at_call 114; go_must (refine (single_any s[i + 1] _).mono ?_; rintro e w3 ⟨cs, rfl, hn, hb3⟩; obtain ⟨k, sa, sn, sc, ba, bn, bc, lo, hi', rfl⟩ := hn.shape; have hB3 := hB2.drew.below hb3 hz2; obtain ⟨q0, q1, q2, q3, q4⟩ := hB3.cells5; have g0 := hB3.frozen 0; have g1 := hB3.frozen 1; have g2 := hB3.frozen 2; have g3 := hB3.frozen 3; have g4 := hB3.frozen 4; have hk3 : Kept R w w3 := hK2.drew.trans (Kept.below hb3); have hr3 : Rd w3 R s (i + 2 : Nat) bad (deepI d) opn := Rd.at_ (Blk.below hr2.drew hb3 hR2) (by omega) rfl; clear hb3))
  all_goals
    obtain ⟨z0, z1, z2, z3, z4⟩ := hB3.put5_cells (.int .i64 k) (.slice sa sn sc) (.slice ba bn bc) (.int .i64 lo) (.int .i64 hi')
    go_wp2_with fail
    refine bodyPost_ret (v := .agg #[.int .i64 k, .slice sa sn sc, .slice ba bn bc, .int .i64 lo, .int .i64 hi']) (by simp [results, Tryz.results87, go_sem, z0, z1, z2, z3, z4]) rfl ?_
    exact Or.inl ⟨_, _, _, [.int .i64 k, .slice sa sn sc, .slice ba bn bc, .int .i64 lo, .int .i64 hi'], HOK.out, rfl, NodeIn.up hn hz2 _ _ _ _ _, hr3.put5 (by omega) _ _ _ _ _, hk3.put5 (Or.inr (Nat.le_refl _)) _ _ _ _ _⟩
end Go.Proofs.YtkoaeojdlanolaaGreatDoor
/-
  THE WALK of the reader's atom: the bracket.
-/
namespace Go.Proofs.YtkoaeojdlanolaaGreatDoor
open Go.RowKit

theorem NodeIn.drewN {w : World} {ok : Nat → Prop} {n : Munch.Node} {c : List Value} (h : NodeIn w ok n c) (k : Nat) : NodeIn (w.drewN k) ok n c :=
  NodeIn.keep (w := w) (w' := w.drewN k) (fun _ _ _ => rfl) h

/-- The contract of form, at a fuel. -/
def FormSaid (n : Nat) : Prop := ∀ (R : Nat) (s : ByteArray) (i : Nat) (bad : Int) (d : Option Nat) (opn : Nat) (w : World), Rd w R s i bad (deepI d) opn → bad < 0 → s.size ≤ 1000 → opn ≤ i → i ≤ s.size → Munch.formF s n i opn d [] ≠ .out →
    Calls Tryz.prog 30 #[ptr R] w fun e w' => NodePost (Munch.formF s n i opn d []) R s bad opn w e w'

set_option maxHeartbeats 2000000 in
theorem atom_par (R : Nat) (s : ByteArray) (n i : Nat) (bad : Int) (d : Option Nat) (opn : Nat) (w : World) (hform : FormSaid n) (hr : Rd w R s i bad (deepI d) opn) (hb : bad < 0) (hs : s.size ≤ 1000) (hi : i < s.size) (ho : opn ≤ i) (hc : s[i].toNat = 40) (hout : Munch.atomF s (n + 1) i opn d ≠ .out) :
    Calls Tryz.prog 87 #[ptr R] w fun e w' => NodePost (Munch.atomF s (n + 1) i opn d) R s bad opn w e w' := by
  have HAT : Hid (Munch.atomF s (n + 1) i opn d = (Munch.formF s n (i + 1) (opn + 1) (Munch.deeper i opn d) []).bind fun x => if Munch.hasAt s x.2.1 41 then .ok (x.1, x.2.1 + 1, x.2.2) else .bad x.2.1) := by show _ = _; rw [Munch.atomF_s, dif_pos hi, if_neg (by omega), if_neg (by omega), if_pos hc]
  have HOUT : Hid (Munch.formF s n (i + 1) (opn + 1) (Munch.deeper i opn d) [] ≠ .out) := fun h => hout (by rw [HAT.out, h]; rfl)
  have hRB := hr.lt
  have c0 := hr.c0
  have c1 := hr.c1
  have f1 := hr.fr 1
  have c3 := hr.c3
  have c4 := hr.c4
  have f4 := hr.fr 4
  have f3 := hr.fr 3
  have r1 : ∀ a, (((w.alloc (.cells zero5 57)).drewN a).setCell ⟨R, 1, none⟩ (.int .i64 (i + 1))).cell? ⟨R, 1, none⟩ = some (.int .i64 (i + 1)) := fun a => (((hr.alloc _).drewN a).set1 _).c1
  have r4 : ∀ a, ((((w.alloc (.cells zero5 57)).drewN a).setCell ⟨R, 1, none⟩ (.int .i64 (i + 1))).setCell ⟨R, 4, none⟩ (.int .i64 (opn + 1))).cell? ⟨R, 4, none⟩ = some (.int .i64 (opn + 1)) := fun a => ((((hr.alloc _).drewN a).set1 _).set4 _).c4
  have k46 : ((s[i].toNat : Int) == 46) = false := by rw [hc]; rfl
  have k91 : ((s[i].toNat : Int) == 91) = false := by rw [hc]; rfl
  have k40 : ((s[i].toNat : Int) == 40) = true := by rw [hc]; rfl
  clear hc hout
  by_cases h8 : 8 ≤ opn
  · cases d with
    | some x =>
      have hD : Munch.deeper i opn (some x) = some x := by unfold Munch.deeper; rw [if_neg (by simp)]
      rw [hD] at HAT HOUT
      clear hD
      have hx : deepI (some x) = (x : Int) := rfl
      rw [hx] at c3
      go_enter Tryz.func87, Tryz.ntmps87
      go_wp2
      go_quiet (fail)
      obtain ⟨m1, hm1⟩ : ∃ m1 : Nat, m1 = nq := ⟨_, rfl⟩
      subst hm1
      go_wp2_with fail
      have hB1 : Blk ((((w.alloc (.cells zero5 57)).drewN m1).setCell ⟨R, 1, none⟩ (.int .i64 (i + 1))).setCell ⟨R, 4, none⟩ (.int .i64 (opn + 1))) w.heap.size 57 zero5 := (((Blk.new w zero5 57).drewN m1).setOther (by simp; omega) _).setOther (by simp; omega) _
      have hK1 : Kept R w ((((w.alloc (.cells zero5 57)).drewN m1).setCell ⟨R, 1, none⟩ (.int .i64 (i + 1))).setCell ⟨R, 4, none⟩ (.int .i64 (opn + 1))) := ((((Kept.refl R w).alloc _).drewN _).setR _ _).setR _ _
      have hr1 : Rd ((((w.alloc (.cells zero5 57)).drewN m1).setCell ⟨R, 1, none⟩ (.int .i64 (i + 1))).setCell ⟨R, 4, none⟩ (.int .i64 (opn + 1))) R s (i + 1 : Nat) bad (deepI (some x)) (opn + 1 : Nat) := ((((hr.alloc _).drewN m1).set1 _).set4 _).at_ (by omega) (by omega)
      clear r4
      generalize ((((w.alloc (.cells zero5 57)).drewN m1).setCell ⟨R, 1, none⟩ (.int .i64 (i + 1))).setCell ⟨R, 4, none⟩ (.int .i64 (opn + 1))) = W1 at *
      have hBW := hB1.lt
      clear r1 c0 c1 f1 c3 c4 f4 f3
      refine (hform R s (i + 1) bad (some x) (opn + 1) _ hr1 hb hs (by omega) (by omega) HOUT.out).mono ?_
      rintro e w3 (⟨nd, j, d2, cs, hf, rfl, hn, hr3, hk3⟩ | ⟨p, d2, cs, hf, rfl, hsh, hr3, hk3⟩)
      · have HF : Hid _ := hf; clear hf
        obtain ⟨k, sa, sn, sc, ba, bn, bc, lo, hi', rfl⟩ := hn.shape
        have hR3 := hr3.lt
        have hs3 := hk3.size
        have x4 := hr3.c4
        have xf := hr3.fr 4
        go_wp2_with fail
        have hr5 : Rd ((w3.setCell ⟨R, 4, none⟩ (.int .i64 opn)).alloc (.cells #[.int .i64 k, .slice sa sn sc, .slice ba bn bc, .int .i64 lo, .int .i64 hi'] 57)) R s (j : Nat) bad (deepI d2) opn := (hr3.set4 _).alloc _
        have hk5 : Kept R w ((w3.setCell ⟨R, 4, none⟩ (.int .i64 opn)).alloc (.cells #[.int .i64 k, .slice sa sn sc, .slice ba bn bc, .int .i64 lo, .int .i64 hi'] 57)) := ((hK1.trans hk3).setR _ _).alloc _
        have hB5 : Blk ((w3.setCell ⟨R, 4, none⟩ (.int .i64 opn)).alloc (.cells #[.int .i64 k, .slice sa sn sc, .slice ba bn bc, .int .i64 lo, .int .i64 hi'] 57)) w.heap.size 57 zero5 := ((hk3.blk hB1 (by omega)).setOther (by simp; omega) _).alloc _
        have hN5 : Blk ((w3.setCell ⟨R, 4, none⟩ (.int .i64 opn)).alloc (.cells #[.int .i64 k, .slice sa sn sc, .slice ba bn bc, .int .i64 lo, .int .i64 hi'] 57)) w3.heap.size 57 #[.int .i64 k, .slice sa sn sc, .slice ba bn bc, .int .i64 lo, .int .i64 hi'] := by
          have := Blk.new (w3.setCell ⟨R, 4, none⟩ (.int .i64 opn)) #[.int .i64 k, .slice sa sn sc, .slice ba bn bc, .int .i64 lo, .int .i64 hi'] 57
          rw [size_setCell] at this
          exact this
        have hn5 : NodeIn ((w3.setCell ⟨R, 4, none⟩ (.int .i64 opn)).alloc (.cells #[.int .i64 k, .slice sa sn sc, .slice ba bn bc, .int .i64 lo, .int .i64 hi'] 57)) (W1.heap.size ≤ ·) nd [.int .i64 k, .slice sa sn sc, .slice ba bn bc, .int .i64 lo, .int .i64 hi'] := hn.keep (fun b hb hok => (Below.heap_alloc _ _ b (by rw [size_setCell]; exact hb)).trans (Below.heap_setCell _ _ _ b (by have : W1.heap.size ≤ b := hok; simp; omega)))
        clear hr3 hn x4 xf
        generalize ((w3.setCell ⟨R, 4, none⟩ (.int .i64 opn)).alloc (.cells #[.int .i64 k, .slice sa sn sc, .slice ba bn bc, .int .i64 lo, .int .i64 hi'] 57)) = W5 at *
        have hR5 := hr5.lt
        refine (here_ok R s j bad (deepI d2) opn 41 _ hr5 hb).mono ?_
        rintro e w6 ⟨rfl, n6, rfl⟩
        by_cases h41 : Munch.hasAt s j 41 = true
        · have hj := Munch.hasAt_true _ _ _ h41
          have HOK : Hid (Munch.atomF s (n + 1) i opn (some x) = .ok (nd, j + 1, d2)) := by show _ = _; rw [HAT.out, HF.out]; simp [h41]
          rw [h41]
          clear h41
          obtain ⟨q0, q1, q2, q3, q4⟩ := hB5.cells5
          have g0 := hB5.frozen 0
          have g1 := hB5.frozen 1
          have g2 := hB5.frozen 2
          have g3 := hB5.frozen 3
          have g4 := hB5.frozen 4
          obtain ⟨p0, p1, p2, p3, p4⟩ := hN5.cells5
          have y1 := hr5.c1
          have yf := hr5.fr 1
          have hBX : Blk ((W5.drewN n6).setCell ⟨R, 1, none⟩ (.int .i64 (j + 1))) w.heap.size 57 zero5 := (hB5.drewN n6).setOther (by simp; omega) _
          obtain ⟨z0, z1, z2, z3, z4⟩ := hBX.put5_cells (.int .i64 k) (.slice sa sn sc) (.slice ba bn bc) (.int .i64 lo) (.int .i64 hi')
          go_wp2_with fail
          refine bodyPost_ret (v := .agg #[.int .i64 k, .slice sa sn sc, .slice ba bn bc, .int .i64 lo, .int .i64 hi']) (by simp [results, Tryz.results87, go_sem, z0, z1, z2, z3, z4]) rfl ?_
          refine Or.inl ⟨_, _, _, [.int .i64 k, .slice sa sn sc, .slice ba bn bc, .int .i64 lo, .int .i64 hi'], HOK.out, rfl, NodeIn.up ((hn5.drewN n6).keep (w' := (W5.drewN n6).setCell ⟨R, 1, none⟩ (.int .i64 (j + 1))) (fun b _ hok => Below.heap_setCell _ _ _ b (by have : W1.heap.size ≤ b := hok; simp; omega))) hBW _ _ _ _ _, ?_, ?_⟩
          · exact (((hr5.drewN n6).set1 _).at_ (by omega) rfl).put5 (by omega) _ _ _ _ _
          · exact ((hk5.drewN n6).setR _ _).put5 (Or.inr (Nat.le_refl _)) _ _ _ _ _
        · have h41' : Munch.hasAt s j 41 = false := by simpa using h41
          have HOK : Hid (Munch.atomF s (n + 1) i opn (some x) = .bad j) := by show _ = _; rw [HAT.out, HF.out]; simp [h41']
          rw [h41']
          clear h41 h41'
          go_wp2_with fail
          refine (fail_any R s _ bad (deepI d2) opn _ (hr5.drewN _)).mono ?_
          rintro e w7 ⟨rfl, hr7, hk7⟩
          rw [if_pos hb] at hr7
          have hB7 := hk7.blk (hB5.drewN n6) (by omega)
          have hN7 := hk7.blk (hN5.drewN n6) (by omega)
          obtain ⟨q0, q1, q2, q3, q4⟩ := hB7.cells5
          have g0 := hB7.frozen 0
          have g1 := hB7.frozen 1
          have g2 := hB7.frozen 2
          have g3 := hB7.frozen 3
          have g4 := hB7.frozen 4
          obtain ⟨p0, p1, p2, p3, p4⟩ := hN7.cells5
          obtain ⟨z0, z1, z2, z3, z4⟩ := hB7.put5_cells (.int .i64 k) (.slice sa sn sc) (.slice ba bn bc) (.int .i64 lo) (.int .i64 hi')
          go_wp2_with fail
          refine bodyPost_ret (v := .agg #[.int .i64 k, .slice sa sn sc, .slice ba bn bc, .int .i64 lo, .int .i64 hi']) (by simp [results, Tryz.results87, go_sem, z0, z1, z2, z3, z4]) rfl ?_
          exact Or.inr ⟨_, _, [.int .i64 k, .slice sa sn sc, .slice ba bn bc, .int .i64 lo, .int .i64 hi'], HOK.out, rfl, ⟨_, _, _, _, _, _, _, _, _, rfl⟩, hr7.put5 (by omega) _ _ _ _ _, ((hk5.drewN n6).trans hk7).put5 (Or.inr (Nat.le_refl _)) _ _ _ _ _⟩
      · have HOK : Hid (Munch.atomF s (n + 1) i opn (some x) = .bad p) := by show _ = _; rw [HAT.out, hf]; rfl
        clear hf
        obtain ⟨k, sa, sn, sc, ba, bn, bc, lo, hi', rfl⟩ := hsh
        have hR3 := hr3.lt
        have hs3 := hk3.size
        have x4 := hr3.c4
        have xf := hr3.fr 4
        go_wp2_with fail
        have hr5 : Rd ((w3.setCell ⟨R, 4, none⟩ (.int .i64 opn)).alloc (.cells #[.int .i64 k, .slice sa sn sc, .slice ba bn bc, .int .i64 lo, .int .i64 hi'] 57)) R s (p : Nat) (p : Nat) d2 opn := (hr3.set4 _).alloc _
        have hk5 : Kept R w ((w3.setCell ⟨R, 4, none⟩ (.int .i64 opn)).alloc (.cells #[.int .i64 k, .slice sa sn sc, .slice ba bn bc, .int .i64 lo, .int .i64 hi'] 57)) := ((hK1.trans hk3).setR _ _).alloc _
        have hB5 : Blk ((w3.setCell ⟨R, 4, none⟩ (.int .i64 opn)).alloc (.cells #[.int .i64 k, .slice sa sn sc, .slice ba bn bc, .int .i64 lo, .int .i64 hi'] 57)) w.heap.size 57 zero5 := ((hk3.blk hB1 (by omega)).setOther (by simp; omega) _).alloc _
        have hN5 : Blk ((w3.setCell ⟨R, 4, none⟩ (.int .i64 opn)).alloc (.cells #[.int .i64 k, .slice sa sn sc, .slice ba bn bc, .int .i64 lo, .int .i64 hi'] 57)) w3.heap.size 57 #[.int .i64 k, .slice sa sn sc, .slice ba bn bc, .int .i64 lo, .int .i64 hi'] := by
          have := Blk.new (w3.setCell ⟨R, 4, none⟩ (.int .i64 opn)) #[.int .i64 k, .slice sa sn sc, .slice ba bn bc, .int .i64 lo, .int .i64 hi'] 57
          rw [size_setCell] at this
          exact this
        clear hr3 x4 xf
        generalize ((w3.setCell ⟨R, 4, none⟩ (.int .i64 opn)).alloc (.cells #[.int .i64 k, .slice sa sn sc, .slice ba bn bc, .int .i64 lo, .int .i64 hi'] 57)) = W5 at *
        have hR5 := hr5.lt
        refine (here_no R s p p d2 opn _ _ hr5 (by omega)).mono ?_
        rintro e w6 ⟨rfl, n6, rfl⟩
        go_wp2_with fail
        refine (fail_any R s _ _ d2 opn _ (hr5.drewN _)).mono ?_
        rintro e w7 ⟨rfl, hr7, hk7⟩
        rw [if_neg (by omega)] at hr7
        have hB7 := hk7.blk (hB5.drewN n6) (by omega)
        have hN7 := hk7.blk (hN5.drewN n6) (by omega)
        obtain ⟨q0, q1, q2, q3, q4⟩ := hB7.cells5
        have g0 := hB7.frozen 0
        have g1 := hB7.frozen 1
        have g2 := hB7.frozen 2
        have g3 := hB7.frozen 3
        have g4 := hB7.frozen 4
        obtain ⟨p0, p1, p2, p3, p4⟩ := hN7.cells5
        obtain ⟨z0, z1, z2, z3, z4⟩ := hB7.put5_cells (.int .i64 k) (.slice sa sn sc) (.slice ba bn bc) (.int .i64 lo) (.int .i64 hi')
        go_wp2_with fail
        refine bodyPost_ret (v := .agg #[.int .i64 k, .slice sa sn sc, .slice ba bn bc, .int .i64 lo, .int .i64 hi']) (by simp [results, Tryz.results87, go_sem, z0, z1, z2, z3, z4]) rfl ?_
        exact Or.inr ⟨_, _, [.int .i64 k, .slice sa sn sc, .slice ba bn bc, .int .i64 lo, .int .i64 hi'], HOK.out, rfl, ⟨_, _, _, _, _, _, _, _, _, rfl⟩, hr7.put5 (by omega) _ _ _ _ _, ((hk5.drewN n6).trans hk7).put5 (Or.inr (Nat.le_refl _)) _ _ _ _ _⟩
    | none =>
      have hD : Munch.deeper i opn none = some i := by unfold Munch.deeper; rw [if_pos ⟨h8, rfl⟩]
      rw [hD] at HAT HOUT
      clear hD
      have hx : deepI none = -1 := rfl
      rw [hx] at c3
      go_enter Tryz.func87, Tryz.ntmps87
      go_wp2
      go_quiet (fail)
      obtain ⟨m1, hm1⟩ : ∃ m1 : Nat, m1 = nq := ⟨_, rfl⟩
      subst hm1
      go_wp2_with fail
      have hB1 : Blk (((((w.alloc (.cells zero5 57)).drewN m1).setCell ⟨R, 1, none⟩ (.int .i64 (i + 1))).setCell ⟨R, 4, none⟩ (.int .i64 (opn + 1))).setCell ⟨R, 3, none⟩ (.int .i64 i)) w.heap.size 57 zero5 := ((((Blk.new w zero5 57).drewN m1).setOther (by simp; omega) _).setOther (by simp; omega) _).setOther (by simp; omega) _
      have hK1 : Kept R w (((((w.alloc (.cells zero5 57)).drewN m1).setCell ⟨R, 1, none⟩ (.int .i64 (i + 1))).setCell ⟨R, 4, none⟩ (.int .i64 (opn + 1))).setCell ⟨R, 3, none⟩ (.int .i64 i)) := (((((Kept.refl R w).alloc _).drewN _).setR _ _).setR _ _).setR _ _
      have hr1 : Rd (((((w.alloc (.cells zero5 57)).drewN m1).setCell ⟨R, 1, none⟩ (.int .i64 (i + 1))).setCell ⟨R, 4, none⟩ (.int .i64 (opn + 1))).setCell ⟨R, 3, none⟩ (.int .i64 i)) R s (i + 1 : Nat) bad (deepI (some i)) (opn + 1 : Nat) := (((((hr.alloc _).drewN m1).set1 _).set4 _).set3 _).at_ (by omega) (by omega)
      clear r4
      generalize (((((w.alloc (.cells zero5 57)).drewN m1).setCell ⟨R, 1, none⟩ (.int .i64 (i + 1))).setCell ⟨R, 4, none⟩ (.int .i64 (opn + 1))).setCell ⟨R, 3, none⟩ (.int .i64 i)) = W1 at *
      have hBW := hB1.lt
      clear r1 c0 c1 f1 c3 c4 f4 f3
      refine (hform R s (i + 1) bad (some i) (opn + 1) _ hr1 hb hs (by omega) (by omega) HOUT.out).mono ?_
      rintro e w3 (⟨nd, j, d2, cs, hf, rfl, hn, hr3, hk3⟩ | ⟨p, d2, cs, hf, rfl, hsh, hr3, hk3⟩)
      · have HF : Hid _ := hf; clear hf
        obtain ⟨k, sa, sn, sc, ba, bn, bc, lo, hi', rfl⟩ := hn.shape
        have hR3 := hr3.lt
        have hs3 := hk3.size
        have x4 := hr3.c4
        have xf := hr3.fr 4
        go_wp2_with fail
        have hr5 : Rd ((w3.setCell ⟨R, 4, none⟩ (.int .i64 opn)).alloc (.cells #[.int .i64 k, .slice sa sn sc, .slice ba bn bc, .int .i64 lo, .int .i64 hi'] 57)) R s (j : Nat) bad (deepI d2) opn := (hr3.set4 _).alloc _
        have hk5 : Kept R w ((w3.setCell ⟨R, 4, none⟩ (.int .i64 opn)).alloc (.cells #[.int .i64 k, .slice sa sn sc, .slice ba bn bc, .int .i64 lo, .int .i64 hi'] 57)) := ((hK1.trans hk3).setR _ _).alloc _
        have hB5 : Blk ((w3.setCell ⟨R, 4, none⟩ (.int .i64 opn)).alloc (.cells #[.int .i64 k, .slice sa sn sc, .slice ba bn bc, .int .i64 lo, .int .i64 hi'] 57)) w.heap.size 57 zero5 := ((hk3.blk hB1 (by omega)).setOther (by simp; omega) _).alloc _
        have hN5 : Blk ((w3.setCell ⟨R, 4, none⟩ (.int .i64 opn)).alloc (.cells #[.int .i64 k, .slice sa sn sc, .slice ba bn bc, .int .i64 lo, .int .i64 hi'] 57)) w3.heap.size 57 #[.int .i64 k, .slice sa sn sc, .slice ba bn bc, .int .i64 lo, .int .i64 hi'] := by
          have := Blk.new (w3.setCell ⟨R, 4, none⟩ (.int .i64 opn)) #[.int .i64 k, .slice sa sn sc, .slice ba bn bc, .int .i64 lo, .int .i64 hi'] 57
          rw [size_setCell] at this
          exact this
        have hn5 : NodeIn ((w3.setCell ⟨R, 4, none⟩ (.int .i64 opn)).alloc (.cells #[.int .i64 k, .slice sa sn sc, .slice ba bn bc, .int .i64 lo, .int .i64 hi'] 57)) (W1.heap.size ≤ ·) nd [.int .i64 k, .slice sa sn sc, .slice ba bn bc, .int .i64 lo, .int .i64 hi'] := hn.keep (fun b hb hok => (Below.heap_alloc _ _ b (by rw [size_setCell]; exact hb)).trans (Below.heap_setCell _ _ _ b (by have : W1.heap.size ≤ b := hok; simp; omega)))
        clear hr3 hn x4 xf
        generalize ((w3.setCell ⟨R, 4, none⟩ (.int .i64 opn)).alloc (.cells #[.int .i64 k, .slice sa sn sc, .slice ba bn bc, .int .i64 lo, .int .i64 hi'] 57)) = W5 at *
        have hR5 := hr5.lt
        refine (here_ok R s j bad (deepI d2) opn 41 _ hr5 hb).mono ?_
        rintro e w6 ⟨rfl, n6, rfl⟩
        by_cases h41 : Munch.hasAt s j 41 = true
        · have hj := Munch.hasAt_true _ _ _ h41
          have HOK : Hid (Munch.atomF s (n + 1) i opn none = .ok (nd, j + 1, d2)) := by show _ = _; rw [HAT.out, HF.out]; simp [h41]
          rw [h41]
          clear h41
          obtain ⟨q0, q1, q2, q3, q4⟩ := hB5.cells5
          have g0 := hB5.frozen 0
          have g1 := hB5.frozen 1
          have g2 := hB5.frozen 2
          have g3 := hB5.frozen 3
          have g4 := hB5.frozen 4
          obtain ⟨p0, p1, p2, p3, p4⟩ := hN5.cells5
          have y1 := hr5.c1
          have yf := hr5.fr 1
          have hBX : Blk ((W5.drewN n6).setCell ⟨R, 1, none⟩ (.int .i64 (j + 1))) w.heap.size 57 zero5 := (hB5.drewN n6).setOther (by simp; omega) _
          obtain ⟨z0, z1, z2, z3, z4⟩ := hBX.put5_cells (.int .i64 k) (.slice sa sn sc) (.slice ba bn bc) (.int .i64 lo) (.int .i64 hi')
          go_wp2_with fail
          refine bodyPost_ret (v := .agg #[.int .i64 k, .slice sa sn sc, .slice ba bn bc, .int .i64 lo, .int .i64 hi']) (by simp [results, Tryz.results87, go_sem, z0, z1, z2, z3, z4]) rfl ?_
          refine Or.inl ⟨_, _, _, [.int .i64 k, .slice sa sn sc, .slice ba bn bc, .int .i64 lo, .int .i64 hi'], HOK.out, rfl, NodeIn.up ((hn5.drewN n6).keep (w' := (W5.drewN n6).setCell ⟨R, 1, none⟩ (.int .i64 (j + 1))) (fun b _ hok => Below.heap_setCell _ _ _ b (by have : W1.heap.size ≤ b := hok; simp; omega))) hBW _ _ _ _ _, ?_, ?_⟩
          · exact (((hr5.drewN n6).set1 _).at_ (by omega) rfl).put5 (by omega) _ _ _ _ _
          · exact ((hk5.drewN n6).setR _ _).put5 (Or.inr (Nat.le_refl _)) _ _ _ _ _
        · have h41' : Munch.hasAt s j 41 = false := by simpa using h41
          have HOK : Hid (Munch.atomF s (n + 1) i opn none = .bad j) := by show _ = _; rw [HAT.out, HF.out]; simp [h41']
          rw [h41']
          clear h41 h41'
          go_wp2_with fail
          refine (fail_any R s _ bad (deepI d2) opn _ (hr5.drewN _)).mono ?_
          rintro e w7 ⟨rfl, hr7, hk7⟩
          rw [if_pos hb] at hr7
          have hB7 := hk7.blk (hB5.drewN n6) (by omega)
          have hN7 := hk7.blk (hN5.drewN n6) (by omega)
          obtain ⟨q0, q1, q2, q3, q4⟩ := hB7.cells5
          have g0 := hB7.frozen 0
          have g1 := hB7.frozen 1
          have g2 := hB7.frozen 2
          have g3 := hB7.frozen 3
          have g4 := hB7.frozen 4
          obtain ⟨p0, p1, p2, p3, p4⟩ := hN7.cells5
          obtain ⟨z0, z1, z2, z3, z4⟩ := hB7.put5_cells (.int .i64 k) (.slice sa sn sc) (.slice ba bn bc) (.int .i64 lo) (.int .i64 hi')
          go_wp2_with fail
          refine bodyPost_ret (v := .agg #[.int .i64 k, .slice sa sn sc, .slice ba bn bc, .int .i64 lo, .int .i64 hi']) (by simp [results, Tryz.results87, go_sem, z0, z1, z2, z3, z4]) rfl ?_
          exact Or.inr ⟨_, _, [.int .i64 k, .slice sa sn sc, .slice ba bn bc, .int .i64 lo, .int .i64 hi'], HOK.out, rfl, ⟨_, _, _, _, _, _, _, _, _, rfl⟩, hr7.put5 (by omega) _ _ _ _ _, ((hk5.drewN n6).trans hk7).put5 (Or.inr (Nat.le_refl _)) _ _ _ _ _⟩
      · have HOK : Hid (Munch.atomF s (n + 1) i opn none = .bad p) := by show _ = _; rw [HAT.out, hf]; rfl
        clear hf
        obtain ⟨k, sa, sn, sc, ba, bn, bc, lo, hi', rfl⟩ := hsh
        have hR3 := hr3.lt
        have hs3 := hk3.size
        have x4 := hr3.c4
        have xf := hr3.fr 4
        go_wp2_with fail
        have hr5 : Rd ((w3.setCell ⟨R, 4, none⟩ (.int .i64 opn)).alloc (.cells #[.int .i64 k, .slice sa sn sc, .slice ba bn bc, .int .i64 lo, .int .i64 hi'] 57)) R s (p : Nat) (p : Nat) d2 opn := (hr3.set4 _).alloc _
        have hk5 : Kept R w ((w3.setCell ⟨R, 4, none⟩ (.int .i64 opn)).alloc (.cells #[.int .i64 k, .slice sa sn sc, .slice ba bn bc, .int .i64 lo, .int .i64 hi'] 57)) := ((hK1.trans hk3).setR _ _).alloc _
        have hB5 : Blk ((w3.setCell ⟨R, 4, none⟩ (.int .i64 opn)).alloc (.cells #[.int .i64 k, .slice sa sn sc, .slice ba bn bc, .int .i64 lo, .int .i64 hi'] 57)) w.heap.size 57 zero5 := ((hk3.blk hB1 (by omega)).setOther (by simp; omega) _).alloc _
        have hN5 : Blk ((w3.setCell ⟨R, 4, none⟩ (.int .i64 opn)).alloc (.cells #[.int .i64 k, .slice sa sn sc, .slice ba bn bc, .int .i64 lo, .int .i64 hi'] 57)) w3.heap.size 57 #[.int .i64 k, .slice sa sn sc, .slice ba bn bc, .int .i64 lo, .int .i64 hi'] := by
          have := Blk.new (w3.setCell ⟨R, 4, none⟩ (.int .i64 opn)) #[.int .i64 k, .slice sa sn sc, .slice ba bn bc, .int .i64 lo, .int .i64 hi'] 57
          rw [size_setCell] at this
          exact this
        clear hr3 x4 xf
        generalize ((w3.setCell ⟨R, 4, none⟩ (.int .i64 opn)).alloc (.cells #[.int .i64 k, .slice sa sn sc, .slice ba bn bc, .int .i64 lo, .int .i64 hi'] 57)) = W5 at *
        have hR5 := hr5.lt
        refine (here_no R s p p d2 opn _ _ hr5 (by omega)).mono ?_
        rintro e w6 ⟨rfl, n6, rfl⟩
        go_wp2_with fail
        refine (fail_any R s _ _ d2 opn _ (hr5.drewN _)).mono ?_
        rintro e w7 ⟨rfl, hr7, hk7⟩
        rw [if_neg (by omega)] at hr7
        have hB7 := hk7.blk (hB5.drewN n6) (by omega)
        have hN7 := hk7.blk (hN5.drewN n6) (by omega)
        obtain ⟨q0, q1, q2, q3, q4⟩ := hB7.cells5
        have g0 := hB7.frozen 0
        have g1 := hB7.frozen 1
        have g2 := hB7.frozen 2
        have g3 := hB7.frozen 3
        have g4 := hB7.frozen 4
        obtain ⟨p0, p1, p2, p3, p4⟩ := hN7.cells5
        obtain ⟨z0, z1, z2, z3, z4⟩ := hB7.put5_cells (.int .i64 k) (.slice sa sn sc) (.slice ba bn bc) (.int .i64 lo) (.int .i64 hi')
        go_wp2_with fail
        refine bodyPost_ret (v := .agg #[.int .i64 k, .slice sa sn sc, .slice ba bn bc, .int .i64 lo, .int .i64 hi']) (by simp [results, Tryz.results87, go_sem, z0, z1, z2, z3, z4]) rfl ?_
        exact Or.inr ⟨_, _, [.int .i64 k, .slice sa sn sc, .slice ba bn bc, .int .i64 lo, .int .i64 hi'], HOK.out, rfl, ⟨_, _, _, _, _, _, _, _, _, rfl⟩, hr7.put5 (by omega) _ _ _ _ _, ((hk5.drewN n6).trans hk7).put5 (Or.inr (Nat.le_refl _)) _ _ _ _ _⟩
  · have hD : Munch.deeper i opn d = d := by unfold Munch.deeper; rw [if_neg (by omega)]
    rw [hD] at HAT HOUT
    clear hD
    go_enter Tryz.func87, Tryz.ntmps87
    go_wp2
    go_quiet (fail)
    obtain ⟨m1, hm1⟩ : ∃ m1 : Nat, m1 = nq := ⟨_, rfl⟩
    subst hm1
    go_wp2_with fail
    have hB1 : Blk ((((w.alloc (.cells zero5 57)).drewN m1).setCell ⟨R, 1, none⟩ (.int .i64 (i + 1))).setCell ⟨R, 4, none⟩ (.int .i64 (opn + 1))) w.heap.size 57 zero5 := (((Blk.new w zero5 57).drewN m1).setOther (by simp; omega) _).setOther (by simp; omega) _
    have hK1 : Kept R w ((((w.alloc (.cells zero5 57)).drewN m1).setCell ⟨R, 1, none⟩ (.int .i64 (i + 1))).setCell ⟨R, 4, none⟩ (.int .i64 (opn + 1))) := ((((Kept.refl R w).alloc _).drewN _).setR _ _).setR _ _
    have hr1 : Rd ((((w.alloc (.cells zero5 57)).drewN m1).setCell ⟨R, 1, none⟩ (.int .i64 (i + 1))).setCell ⟨R, 4, none⟩ (.int .i64 (opn + 1))) R s (i + 1 : Nat) bad (deepI d) (opn + 1 : Nat) := ((((hr.alloc _).drewN m1).set1 _).set4 _).at_ (by omega) (by omega)
    clear r4
    generalize ((((w.alloc (.cells zero5 57)).drewN m1).setCell ⟨R, 1, none⟩ (.int .i64 (i + 1))).setCell ⟨R, 4, none⟩ (.int .i64 (opn + 1))) = W1 at *
    have hBW := hB1.lt
    clear r1 c0 c1 f1 c3 c4 f4 f3
    refine (hform R s (i + 1) bad d (opn + 1) _ hr1 hb hs (by omega) (by omega) HOUT.out).mono ?_
    rintro e w3 (⟨nd, j, d2, cs, hf, rfl, hn, hr3, hk3⟩ | ⟨p, d2, cs, hf, rfl, hsh, hr3, hk3⟩)
    · have HF : Hid _ := hf; clear hf
      obtain ⟨k, sa, sn, sc, ba, bn, bc, lo, hi', rfl⟩ := hn.shape
      have hR3 := hr3.lt
      have hs3 := hk3.size
      have x4 := hr3.c4
      have xf := hr3.fr 4
      go_wp2_with fail
      have hr5 : Rd ((w3.setCell ⟨R, 4, none⟩ (.int .i64 opn)).alloc (.cells #[.int .i64 k, .slice sa sn sc, .slice ba bn bc, .int .i64 lo, .int .i64 hi'] 57)) R s (j : Nat) bad (deepI d2) opn := (hr3.set4 _).alloc _
      have hk5 : Kept R w ((w3.setCell ⟨R, 4, none⟩ (.int .i64 opn)).alloc (.cells #[.int .i64 k, .slice sa sn sc, .slice ba bn bc, .int .i64 lo, .int .i64 hi'] 57)) := ((hK1.trans hk3).setR _ _).alloc _
      have hB5 : Blk ((w3.setCell ⟨R, 4, none⟩ (.int .i64 opn)).alloc (.cells #[.int .i64 k, .slice sa sn sc, .slice ba bn bc, .int .i64 lo, .int .i64 hi'] 57)) w.heap.size 57 zero5 := ((hk3.blk hB1 (by omega)).setOther (by simp; omega) _).alloc _
      have hN5 : Blk ((w3.setCell ⟨R, 4, none⟩ (.int .i64 opn)).alloc (.cells #[.int .i64 k, .slice sa sn sc, .slice ba bn bc, .int .i64 lo, .int .i64 hi'] 57)) w3.heap.size 57 #[.int .i64 k, .slice sa sn sc, .slice ba bn bc, .int .i64 lo, .int .i64 hi'] := by
        have := Blk.new (w3.setCell ⟨R, 4, none⟩ (.int .i64 opn)) #[.int .i64 k, .slice sa sn sc, .slice ba bn bc, .int .i64 lo, .int .i64 hi'] 57
        rw [size_setCell] at this
        exact this
      have hn5 : NodeIn ((w3.setCell ⟨R, 4, none⟩ (.int .i64 opn)).alloc (.cells #[.int .i64 k, .slice sa sn sc, .slice ba bn bc, .int .i64 lo, .int .i64 hi'] 57)) (W1.heap.size ≤ ·) nd [.int .i64 k, .slice sa sn sc, .slice ba bn bc, .int .i64 lo, .int .i64 hi'] := hn.keep (fun b hb hok => (Below.heap_alloc _ _ b (by rw [size_setCell]; exact hb)).trans (Below.heap_setCell _ _ _ b (by have : W1.heap.size ≤ b := hok; simp; omega)))
      clear hr3 hn x4 xf
      generalize ((w3.setCell ⟨R, 4, none⟩ (.int .i64 opn)).alloc (.cells #[.int .i64 k, .slice sa sn sc, .slice ba bn bc, .int .i64 lo, .int .i64 hi'] 57)) = W5 at *
      have hR5 := hr5.lt
      refine (here_ok R s j bad (deepI d2) opn 41 _ hr5 hb).mono ?_
      rintro e w6 ⟨rfl, n6, rfl⟩
      by_cases h41 : Munch.hasAt s j 41 = true
      · have hj := Munch.hasAt_true _ _ _ h41
        have HOK : Hid (Munch.atomF s (n + 1) i opn d = .ok (nd, j + 1, d2)) := by show _ = _; rw [HAT.out, HF.out]; simp [h41]
        rw [h41]
        clear h41
        obtain ⟨q0, q1, q2, q3, q4⟩ := hB5.cells5
        have g0 := hB5.frozen 0
        have g1 := hB5.frozen 1
        have g2 := hB5.frozen 2
        have g3 := hB5.frozen 3
        have g4 := hB5.frozen 4
        obtain ⟨p0, p1, p2, p3, p4⟩ := hN5.cells5
        have y1 := hr5.c1
        have yf := hr5.fr 1
        have hBX : Blk ((W5.drewN n6).setCell ⟨R, 1, none⟩ (.int .i64 (j + 1))) w.heap.size 57 zero5 := (hB5.drewN n6).setOther (by simp; omega) _
        obtain ⟨z0, z1, z2, z3, z4⟩ := hBX.put5_cells (.int .i64 k) (.slice sa sn sc) (.slice ba bn bc) (.int .i64 lo) (.int .i64 hi')
        go_wp2_with fail
        refine bodyPost_ret (v := .agg #[.int .i64 k, .slice sa sn sc, .slice ba bn bc, .int .i64 lo, .int .i64 hi']) (by simp [results, Tryz.results87, go_sem, z0, z1, z2, z3, z4]) rfl ?_
        refine Or.inl ⟨_, _, _, [.int .i64 k, .slice sa sn sc, .slice ba bn bc, .int .i64 lo, .int .i64 hi'], HOK.out, rfl, NodeIn.up ((hn5.drewN n6).keep (w' := (W5.drewN n6).setCell ⟨R, 1, none⟩ (.int .i64 (j + 1))) (fun b _ hok => Below.heap_setCell _ _ _ b (by have : W1.heap.size ≤ b := hok; simp; omega))) hBW _ _ _ _ _, ?_, ?_⟩
        · exact (((hr5.drewN n6).set1 _).at_ (by omega) rfl).put5 (by omega) _ _ _ _ _
        · exact ((hk5.drewN n6).setR _ _).put5 (Or.inr (Nat.le_refl _)) _ _ _ _ _
      · have h41' : Munch.hasAt s j 41 = false := by simpa using h41
        have HOK : Hid (Munch.atomF s (n + 1) i opn d = .bad j) := by show _ = _; rw [HAT.out, HF.out]; simp [h41']
        rw [h41']
        clear h41 h41'
        go_wp2_with fail
        refine (fail_any R s _ bad (deepI d2) opn _ (hr5.drewN _)).mono ?_
        rintro e w7 ⟨rfl, hr7, hk7⟩
        rw [if_pos hb] at hr7
        have hB7 := hk7.blk (hB5.drewN n6) (by omega)
        have hN7 := hk7.blk (hN5.drewN n6) (by omega)
        obtain ⟨q0, q1, q2, q3, q4⟩ := hB7.cells5
        have g0 := hB7.frozen 0
        have g1 := hB7.frozen 1
        have g2 := hB7.frozen 2
        have g3 := hB7.frozen 3
        have g4 := hB7.frozen 4
        obtain ⟨p0, p1, p2, p3, p4⟩ := hN7.cells5
        obtain ⟨z0, z1, z2, z3, z4⟩ := hB7.put5_cells (.int .i64 k) (.slice sa sn sc) (.slice ba bn bc) (.int .i64 lo) (.int .i64 hi')
        go_wp2_with fail
        refine bodyPost_ret (v := .agg #[.int .i64 k, .slice sa sn sc, .slice ba bn bc, .int .i64 lo, .int .i64 hi']) (by simp [results, Tryz.results87, go_sem, z0, z1, z2, z3, z4]) rfl ?_
        exact Or.inr ⟨_, _, [.int .i64 k, .slice sa sn sc, .slice ba bn bc, .int .i64 lo, .int .i64 hi'], HOK.out, rfl, ⟨_, _, _, _, _, _, _, _, _, rfl⟩, hr7.put5 (by omega) _ _ _ _ _, ((hk5.drewN n6).trans hk7).put5 (Or.inr (Nat.le_refl _)) _ _ _ _ _⟩
    · have HOK : Hid (Munch.atomF s (n + 1) i opn d = .bad p) := by show _ = _; rw [HAT.out, hf]; rfl
      clear hf
      obtain ⟨k, sa, sn, sc, ba, bn, bc, lo, hi', rfl⟩ := hsh
      have hR3 := hr3.lt
      have hs3 := hk3.size
      have x4 := hr3.c4
      have xf := hr3.fr 4
      go_wp2_with fail
      have hr5 : Rd ((w3.setCell ⟨R, 4, none⟩ (.int .i64 opn)).alloc (.cells #[.int .i64 k, .slice sa sn sc, .slice ba bn bc, .int .i64 lo, .int .i64 hi'] 57)) R s (p : Nat) (p : Nat) d2 opn := (hr3.set4 _).alloc _
      have hk5 : Kept R w ((w3.setCell ⟨R, 4, none⟩ (.int .i64 opn)).alloc (.cells #[.int .i64 k, .slice sa sn sc, .slice ba bn bc, .int .i64 lo, .int .i64 hi'] 57)) := ((hK1.trans hk3).setR _ _).alloc _
      have hB5 : Blk ((w3.setCell ⟨R, 4, none⟩ (.int .i64 opn)).alloc (.cells #[.int .i64 k, .slice sa sn sc, .slice ba bn bc, .int .i64 lo, .int .i64 hi'] 57)) w.heap.size 57 zero5 := ((hk3.blk hB1 (by omega)).setOther (by simp; omega) _).alloc _
      have hN5 : Blk ((w3.setCell ⟨R, 4, none⟩ (.int .i64 opn)).alloc (.cells #[.int .i64 k, .slice sa sn sc, .slice ba bn bc, .int .i64 lo, .int .i64 hi'] 57)) w3.heap.size 57 #[.int .i64 k, .slice sa sn sc, .slice ba bn bc, .int .i64 lo, .int .i64 hi'] := by
        have := Blk.new (w3.setCell ⟨R, 4, none⟩ (.int .i64 opn)) #[.int .i64 k, .slice sa sn sc, .slice ba bn bc, .int .i64 lo, .int .i64 hi'] 57
        rw [size_setCell] at this
        exact this
      clear hr3 x4 xf
      generalize ((w3.setCell ⟨R, 4, none⟩ (.int .i64 opn)).alloc (.cells #[.int .i64 k, .slice sa sn sc, .slice ba bn bc, .int .i64 lo, .int .i64 hi'] 57)) = W5 at *
      have hR5 := hr5.lt
      refine (here_no R s p p d2 opn _ _ hr5 (by omega)).mono ?_
      rintro e w6 ⟨rfl, n6, rfl⟩
      go_wp2_with fail
      refine (fail_any R s _ _ d2 opn _ (hr5.drewN _)).mono ?_
      rintro e w7 ⟨rfl, hr7, hk7⟩
      rw [if_neg (by omega)] at hr7
      have hB7 := hk7.blk (hB5.drewN n6) (by omega)
      have hN7 := hk7.blk (hN5.drewN n6) (by omega)
      obtain ⟨q0, q1, q2, q3, q4⟩ := hB7.cells5
      have g0 := hB7.frozen 0
      have g1 := hB7.frozen 1
      have g2 := hB7.frozen 2
      have g3 := hB7.frozen 3
      have g4 := hB7.frozen 4
      obtain ⟨p0, p1, p2, p3, p4⟩ := hN7.cells5
      obtain ⟨z0, z1, z2, z3, z4⟩ := hB7.put5_cells (.int .i64 k) (.slice sa sn sc) (.slice ba bn bc) (.int .i64 lo) (.int .i64 hi')
      go_wp2_with fail
      refine bodyPost_ret (v := .agg #[.int .i64 k, .slice sa sn sc, .slice ba bn bc, .int .i64 lo, .int .i64 hi']) (by simp [results, Tryz.results87, go_sem, z0, z1, z2, z3, z4]) rfl ?_
      exact Or.inr ⟨_, _, [.int .i64 k, .slice sa sn sc, .slice ba bn bc, .int .i64 lo, .int .i64 hi'], HOK.out, rfl, ⟨_, _, _, _, _, _, _, _, _, rfl⟩, hr7.put5 (by omega) _ _ _ _ _, ((hk5.drewN n6).trans hk7).put5 (Or.inr (Nat.le_refl _)) _ _ _ _ _⟩

/-- The contract of atom, at a fuel. -/
def AtomSaid (n : Nat) : Prop := ∀ (R : Nat) (s : ByteArray) (i : Nat) (bad : Int) (d : Option Nat) (opn : Nat) (w : World), Rd w R s i bad (deepI d) opn → bad < 0 → s.size ≤ 1000 → opn ≤ i → i < s.size → Munch.atomF s n i opn d ≠ .out →
    Calls Tryz.prog 87 #[ptr R] w fun e w' => NodePost (Munch.atomF s n i opn d) R s bad opn w e w'

theorem refAtom_any (n : Nat) (hform : FormSaid n) : AtomSaid (n + 1) := by
  intro R s i bad d opn w hr hb hs ho hi hout
  by_cases h1 : s[i].toNat = 46
  · exact atom_dot R s n i bad d opn w hr hs hi h1
  · by_cases h2 : s[i].toNat = 91
    · exact atom_set R s n i bad d opn w hr hs hi hb h2 hout
    · by_cases h3 : s[i].toNat = 40
      · exact atom_par R s n i bad d opn w hform hr hb hs hi ho h3 hout
      · by_cases h4 : s[i].toNat = 92
        · by_cases h5 : i + 1 < s.size
          · by_cases h6 : s[i + 1].toNat = 10
            · exact atom_escNl R s n i bad d opn w hr hs hi hb h4 h5 h6
            · exact atom_escOk R s n i bad d opn w hr hs hi h4 h5 h6
          · exact atom_escEnd R s n i bad d opn w hr hs hi hb h4 (by omega)
        · exact atom_plain R s n i bad d opn w hr hs hi h1 h2 h3 h4
end Go.Proofs.YtkoaeojdlanolaaGreatDoor
