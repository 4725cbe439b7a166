import Derived.Test.YtkoaeojdlanolaaGreatDoorRows
import Derived.Test.YtkoaeojdlanolaaGreatDoorCa01
import Derived.Test.YtkoaeojdlanolaaGreatDoorCa02
import Derived.WalkKit
import Derived.WalkSpells
import Derived.WalkLawsBesides
import Derived.Deep.QuietTactic
import Derived.BigQuiet
/-
  THE READER IN MEMORY: its block; what a call of it keeps. (munchref.Reader: S, I, Bad, Deep, Open.)
-/
namespace Go.Proofs.YtkoaeojdlanolaaGreatDoor
open Go.RowKit

/-- All that was there, but for block R, is as it was. -/
structure Kept (R : Nat) (w w' : World) : Prop where
  os : w'.os = w.os
  tape : w'.tape = w.tape
  output : w'.output = w.output
  size : w.heap.size ≤ w'.heap.size
  block : ∀ k, k < w.heap.size → k ≠ R → w'.heap[k]? = w.heap[k]?

namespace Kept
variable {R : Nat} {a w w' : World}
theorem refl (R : Nat) (w : World) : Kept R w w := ⟨rfl, rfl, rfl, Nat.le_refl _, fun _ _ _ => rfl⟩
theorem trans {b c : World} (h : Kept R a b) (k : Kept R b c) : Kept R a c :=
  ⟨k.os.trans h.os, k.tape.trans h.tape, k.output.trans h.output, Nat.le_trans h.size k.size, fun i hi hR => (k.block i (Nat.lt_of_lt_of_le hi h.size) hR).trans (h.block i hi hR)⟩
theorem drew (h : Kept R a w) : Kept R a w.drew := ⟨h.os, h.tape, h.output, h.size, h.block⟩
theorem drewN (h : Kept R a w) (n : Nat) : Kept R a (w.drewN n) := ⟨h.os, h.tape, h.output, h.size, h.block⟩
theorem alloc (h : Kept R a w) (o : Obj) : Kept R a (w.alloc o) :=
  h.trans ⟨rfl, rfl, rfl, by rw [size_alloc]; omega, fun k hk _ => Below.heap_alloc w o k hk⟩
theorem setCell (h : Kept R a w) {p : Addr} (hp : p.block = R ∨ a.heap.size ≤ p.block) (u : Value) : Kept R a (w.setCell p u) :=
  ⟨h.os, h.tape, h.output, by rw [size_setCell]; exact h.size, fun k hk hR => by rw [Below.heap_setCell _ _ _ _ (by omega)]; exact h.block k hk hR⟩
theorem setR (h : Kept R a w) (j : Nat) (u : Value) : Kept R a (w.setCell ⟨R, j, none⟩ u) := h.setCell (Or.inl rfl) u
theorem put5 (h : Kept R a w) {b : Nat} (hb : b = R ∨ a.heap.size ≤ b) (a0 a1 a2 a3 a4 : Value) : Kept R a (Go.put5 w b a0 a1 a2 a3 a4) :=
  ((((h.setCell (p := ⟨b, 0, none⟩) hb a0).setCell (p := ⟨b, 1, none⟩) hb a1).setCell (p := ⟨b, 2, none⟩) hb a2).setCell (p := ⟨b, 3, none⟩) hb a3).setCell (p := ⟨b, 4, none⟩) hb a4
theorem below (h : Below w.heap.size w w') : Kept R w w' := ⟨h.os, h.tape, h.output, h.size, fun k hk _ => h.block k hk⟩
theorem grown {row : Option Nat} (h : Kept R a w) (hg : w.grownBy w' row) (hr : ∀ k, row = some k → k = R ∨ a.heap.size ≤ k) : Kept R a w' :=
  ⟨hg.os.trans h.os, hg.tape.trans h.tape, hg.output.trans h.output, Nat.le_trans h.size hg.size, fun k hk hR =>
    (hg.block k (Nat.lt_of_lt_of_le hk h.size) (fun e => by rcases hr k e.symm with h1 | h1 <;> omega)).trans (h.block k hk hR)⟩
/-- A block that was not there at first. -/
theorem toBelow {B : Nat} (h : Kept R w w') (hB : B ≤ R) (hB' : B ≤ w.heap.size) : Below B w w' := ⟨h.os, h.tape, h.output, h.size, fun k hk => h.block k (by omega) (by omega)⟩
theorem blk {b : Nat} {t : TypeId} {c : Array Value} (h : Kept R w w') (hb : Blk w b t c) (hR : b ≠ R) : Blk w' b t c := (h.block b hb.lt hR).trans hb
end Kept

/-- The reader's block. -/
def Rd (w : World) (R : Nat) (s : ByteArray) (i bad deep opn : Int) : Prop :=
  Blk w R 42 #[.string s, .int .i64 i, .int .i64 bad, .int .i64 deep, .int .i64 opn]

namespace Rd
variable {w w' : World} {R : Nat} {s : ByteArray} {i bad deep opn : Int}
theorem c0 (h : Rd w R s i bad deep opn) : w.cell? ⟨R, 0, none⟩ = some (.string s) := by have := Blk.cell h 0; simpa using this
theorem c1 (h : Rd w R s i bad deep opn) : w.cell? ⟨R, 1, none⟩ = some (.int .i64 i) := by have := Blk.cell h 1; simpa using this
theorem c2 (h : Rd w R s i bad deep opn) : w.cell? ⟨R, 2, none⟩ = some (.int .i64 bad) := by have := Blk.cell h 2; simpa using this
theorem c3 (h : Rd w R s i bad deep opn) : w.cell? ⟨R, 3, none⟩ = some (.int .i64 deep) := by have := Blk.cell h 3; simpa using this
theorem c4 (h : Rd w R s i bad deep opn) : w.cell? ⟨R, 4, none⟩ = some (.int .i64 opn) := by have := Blk.cell h 4; simpa using this
theorem fr (h : Rd w R s i bad deep opn) (j : Nat) : w.frozen? ⟨R, j, none⟩ = false := Blk.frozen h j
theorem lt (h : Rd w R s i bad deep opn) : R < w.heap.size := Blk.lt h
theorem drew (h : Rd w R s i bad deep opn) : Rd w.drew R s i bad deep opn := h
theorem drewN (h : Rd w R s i bad deep opn) (n : Nat) : Rd (w.drewN n) R s i bad deep opn := h
theorem alloc (h : Rd w R s i bad deep opn) (o : Obj) : Rd (w.alloc o) R s i bad deep opn := Blk.alloc h o
theorem set1 (h : Rd w R s i bad deep opn) (j : Int) : Rd (w.setCell ⟨R, 1, none⟩ (.int .i64 j)) R s j bad deep opn := by have := Blk.set h 1 (.int .i64 j); simpa [Rd] using this
theorem set2 (h : Rd w R s i bad deep opn) (x : Int) : Rd (w.setCell ⟨R, 2, none⟩ (.int .i64 x)) R s i x deep opn := by have := Blk.set h 2 (.int .i64 x); simpa [Rd] using this
theorem set3 (h : Rd w R s i bad deep opn) (x : Int) : Rd (w.setCell ⟨R, 3, none⟩ (.int .i64 x)) R s i bad x opn := by have := Blk.set h 3 (.int .i64 x); simpa [Rd] using this
theorem set4 (h : Rd w R s i bad deep opn) (j : Int) : Rd (w.setCell ⟨R, 4, none⟩ (.int .i64 j)) R s i bad deep j := by have := Blk.set h 4 (.int .i64 j); simpa [Rd] using this
theorem at_ (h : Rd w R s i bad deep opn) {i' opn' : Int} (hi : i = i') (ho : opn = opn') : Rd w R s i' bad deep opn' := by subst hi; subst ho; exact h
theorem put5 (h : Rd w R s i bad deep opn) {b : Nat} (hb : R ≠ b) (a0 a1 a2 a3 a4 : Value) : Rd (Go.put5 w b a0 a1 a2 a3 a4) R s i bad deep opn := (put5_other a0 a1 a2 a3 a4 R hb).trans h
theorem other (h : Rd w R s i bad deep opn) {p : Addr} (hp : R ≠ p.block) (v : Value) : Rd (w.setCell p v) R s i bad deep opn := Blk.setOther h hp v
theorem grown {row : Option Nat} (h : Rd w R s i bad deep opn) (hg : w.grownBy w' row) (hne : some R ≠ row) : Rd w' R s i bad deep opn := Blk.grown h hg hne
end Rd

abbrev ptr (R : Nat) : Value := .pointer (some ⟨R, 0, none⟩)
end Go.Proofs.YtkoaeojdlanolaaGreatDoor
/-
  THE WALKS of the reader's small methods: fail, here, special, begins.
-/
namespace Go.Proofs.YtkoaeojdlanolaaGreatDoor
open Go.RowKit

set_option maxHeartbeats 400000 in
theorem fail_any (R : Nat) (s : ByteArray) (i : Nat) (bad deep : Int) (opn : Int) (w : World) (hr : Rd w R s i bad deep opn) :
    Calls Tryz.prog 18 #[ptr R] w fun e w' => e = .returned (.tuple #[]) ∧ Rd w' R s i (if bad < 0 then (i : Int) else bad) deep opn ∧ Kept R w w' := by
  have c1 := hr.c1
  have c2 := hr.c2
  have f2 := hr.fr 2
  by_cases hb : bad < 0
  · rw [if_pos hb]
    go_enter Tryz.func18, Tryz.ntmps18
    go_wp2
    go_end0
    exact ⟨rfl, hr.set2 _, (Kept.refl _ _).setR _ _⟩
  · rw [if_neg hb]
    go_enter Tryz.func18, Tryz.ntmps18
    go_wp2
    go_end0
    exact ⟨rfl, hr, Kept.refl _ _⟩

set_option maxHeartbeats 400000 in
theorem here_no (R : Nat) (s : ByteArray) (i : Nat) (bad deep : Int) (opn : Int) (c : Int) (w : World) (hr : Rd w R s i bad deep opn) (hb : 0 ≤ bad) :
    Calls Tryz.prog 17 #[ptr R, .int .u8 c] w fun e w' => e = .returned (.bool false) ∧ ∃ n, w' = w.drewN n := by
  have c2 := hr.c2
  have hd : decide (bad < 0) = false := by simp; omega
  go_enter Tryz.func17, Tryz.ntmps17
  go_wp2
  go_quiet (fail)
  go_wp2
  go_ret
  exact ⟨rfl, _, rfl⟩

set_option maxHeartbeats 400000 in
theorem here_ok (R : Nat) (s : ByteArray) (i : Nat) (bad deep : Int) (opn : Int) (c : Nat) (w : World) (hr : Rd w R s i bad deep opn) (hb : bad < 0) :
    Calls Tryz.prog 17 #[ptr R, .int .u8 c] w fun e w' => e = .returned (.bool (Munch.hasAt s i c)) ∧ ∃ n, w' = w.drewN n := by
  have c0 := hr.c0
  have c1 := hr.c1
  have c2 := hr.c2
  by_cases hi : i < s.size
  · rw [Munch.hasAt_lt _ _ _ hi]
    have hi' : (i : Int) < (s.size : Int) := by omega
    have he : decide (s[i].toNat = c) = ((s[i].toNat : Int) == (c : Int)) := by
      rw [Bool.eq_iff_iff]; simp; omega
    rw [he]
    clear he
    go_enter Tryz.func17, Tryz.ntmps17
    go_wp2
    go_quiet (fail)
    go_wp2
    go_ret
    exact ⟨rfl, _, rfl⟩
  · rw [Munch.hasAt_ge _ _ _ (by omega)]
    have hi' : decide ((i : Int) < (s.size : Int)) = false := by simp; omega
    go_enter Tryz.func17, Tryz.ntmps17
    go_wp2
    go_quiet (fail)
    go_wp2
    go_ret
    exact ⟨rfl, _, rfl⟩
end Go.Proofs.YtkoaeojdlanolaaGreatDoor
/-
  THE WALKS of the reader's small methods: special, begins, spanByte, low, digit, sign.
-/
namespace Go.Proofs.YtkoaeojdlanolaaGreatDoor
open Go.RowKit

def spcs : ByteArray := ⟨#[124, 38, 33, 42, 43, 63, 123, 125, 91, 93, 40, 41, 46, 92]⟩
theorem spcs_at (k : Nat) (h : k < 14) : ((spcs[k]'h).toNat : Nat) = Munch.specials[k]'h := by
  match k, h with
  | 0, _ => rfl
  | 1, _ => rfl
  | 2, _ => rfl
  | 3, _ => rfl
  | 4, _ => rfl
  | 5, _ => rfl
  | 6, _ => rfl
  | 7, _ => rfl
  | 8, _ => rfl
  | 9, _ => rfl
  | 10, _ => rfl
  | 11, _ => rfl
  | 12, _ => rfl
  | 13, _ => rfl
  | n + 14, h => omega

set_option maxHeartbeats 400000 in
theorem special_any (c : UInt8) (w : World) :
    Calls Tryz.prog 86 #[.int .u8 c.toNat] w fun e w' => e = .returned (.bool (Munch.special c)) ∧ w' = w := by
  go_enter Tryz.func86, Tryz.ntmps86
  go_wp2
  go_loop [4] (fun i => ∃ k : Nat, k ≤ 14 ∧ i = .int .i64 k ∧ (Munch.specials.drop k).contains c.toNat = Munch.special c) (fun i => 14 - (intOf i).toNat)
  case atStart => exact ⟨0, by omega, rfl, rfl⟩
  case round =>
    obtain ⟨k, hk, rfl, hV⟩ := hrel
    have H : Hid _ := hV; clear hV
    by_cases hlt : k < 14
    · have HD : Hid _ := Munch.special_drop c k hlt
      have ha := spcs_at k hlt
      unfold spcs at ha
      by_cases hc : Munch.specials[k]'hlt = c.toNat
      · have hc' : ((({ data := #[124, 38, 33, 42, 43, 63, 123, 125, 91, 93, 40, 41, 46, 92] } : ByteArray)[k]'hlt).toNat : Int) = c.toNat := by rw [ha, hc]
        have HC : Hid _ := hc; clear hc ha
        go_wp2
        go_ret
        exact ⟨by rw [← H.out, HD.out, decide_eq_true HC.out, Bool.true_or]; rfl, rfl⟩
      · have hc' : ((({ data := #[124, 38, 33, 42, 43, 63, 123, 125, 91, 93, 40, 41, 46, 92] } : ByteArray)[k]'hlt).toNat : Int) ≠ c.toNat := by rw [ha]; omega
        have HC : Hid _ := hc; clear hc ha
        go_wp2
        go_round
        case rel => exact ⟨k + 1, by omega, by go_num, by rw [← H.out, HD.out, decide_eq_false HC.out, Bool.false_or]⟩
        case measure => simp [intOf]; omega
    · obtain rfl : k = 14 := by omega
      go_wp2
      go_ret
      exact ⟨by rw [← H.out]; rfl, rfl⟩

set_option maxHeartbeats 1000000 in
theorem begins_no (R : Nat) (s : ByteArray) (i : Nat) (bad deep : Int) (opn : Int) (w : World) (hr : Rd w R s i bad deep opn) (hb : 0 ≤ bad) :
    Calls Tryz.prog 61 #[ptr R] w fun e w' => e = .returned (.bool false) ∧ ∃ n, w' = w.drewN n := by
  have c2 := hr.c2
  have hd : decide (0 ≤ bad) = true := by simp; omega
  go_enter Tryz.func61, Tryz.ntmps61
  go_wp2
  go_quiet (fail)
  go_wp2
  go_ret
  exact ⟨rfl, _, rfl⟩

set_option maxHeartbeats 1000000 in
theorem begins_ok (R : Nat) (s : ByteArray) (i : Nat) (bad deep : Int) (opn : Int) (w : World) (hr : Rd w R s i bad deep opn) (hb : bad < 0) :
    Calls Tryz.prog 61 #[ptr R] w fun e w' => e = .returned (.bool (Munch.begins s i)) ∧ ∃ n, w' = w.drewN n := by
  have c0 := hr.c0
  have c1 := hr.c1
  have c2 := hr.c2
  have hd : decide (0 ≤ bad) = false := by simp; omega
  unfold Munch.begins
  by_cases hi : i < s.size
  · rw [dif_pos hi]
    have hi' : decide ((s.size : Int) ≤ (i : Int)) = false := by simp; omega
    by_cases h10 : s[i].toNat = 10
    · have h10' : ((s[i].toNat : Int) == 10) = true := by rw [h10]; rfl
      have hst : Munch.starts s[i] = false := by unfold Munch.starts; rw [h10]; rfl
      rw [hst]; clear hst h10
      go_enter Tryz.func61, Tryz.ntmps61
      go_wp2
      go_quiet (fail)
      go_wp2
      go_quiet (fail)
      go_wp2
      go_ret
      exact ⟨rfl, _, rfl⟩
    · have h10' : ((s[i].toNat : Int) == 10) = false := by rw [beq_eq_false_iff_ne]; omega
      have hcase : Munch.special s[i] = false ∨ (Munch.special s[i] = true ∧ s[i].toNat = 46) ∨ (Munch.special s[i] = true ∧ s[i].toNat ≠ 46 ∧ s[i].toNat = 91) ∨ (Munch.special s[i] = true ∧ s[i].toNat ≠ 46 ∧ s[i].toNat ≠ 91 ∧ s[i].toNat = 40) ∨
          (Munch.special s[i] = true ∧ s[i].toNat ≠ 46 ∧ s[i].toNat ≠ 91 ∧ s[i].toNat ≠ 40 ∧ s[i].toNat = 92) ∨ (Munch.special s[i] = true ∧ s[i].toNat ≠ 46 ∧ s[i].toNat ≠ 91 ∧ s[i].toNat ≠ 40 ∧ s[i].toNat ≠ 92) := by
        cases Munch.special s[i] <;> simp <;> omega
      have b0 : ∀ c : Nat, s[i].toNat = c → ((s[i].toNat : Int) == (c : Int)) = true := fun c h => by rw [h]; simp
      have b1 : ∀ c : Nat, s[i].toNat ≠ c → ((s[i].toNat : Int) == (c : Int)) = false := fun c h => by rw [beq_eq_false_iff_ne]; omega
      rcases hcase with hs | ⟨hs, h1⟩ | ⟨hs, h1, h2⟩ | ⟨hs, h1, h2, h3⟩ | ⟨hs, h1, h2, h3, h4⟩ | ⟨hs, h1, h2, h3, h4⟩
      · rw [Munch.starts_plain _ h10 hs]
        clear h10 b0 b1
        go_enter Tryz.func61, Tryz.ntmps61
        go_wp2
        go_quiet (fail)
        go_wp2
        go_quiet (fail)
        go_wp2_with (go_at_call 86; refine (special_any _ _).mono ?_; rintro e w' ⟨rfl, rfl⟩)
        go_ret
        exact ⟨rfl, _, rfl⟩
      · rw [Munch.starts_sign _ (Or.inl h1)]
        have k1 : ((s[i].toNat : Int) == 46) = true := b0 46 h1
        clear h10 b0 b1 h1
        go_enter Tryz.func61, Tryz.ntmps61
        go_wp2
        go_quiet (fail)
        go_wp2
        go_quiet (fail)
        go_wp2_with (go_at_call 86; refine (special_any _ _).mono ?_; rintro e w' ⟨rfl, rfl⟩)
        go_ret
        exact ⟨rfl, _, rfl⟩
      · rw [Munch.starts_sign _ (Or.inr (Or.inl h2))]
        have k1 : ((s[i].toNat : Int) == 46) = false := b1 46 h1
        have k2 : ((s[i].toNat : Int) == 91) = true := b0 91 h2
        clear h10 b0 b1 h1 h2
        go_enter Tryz.func61, Tryz.ntmps61
        go_wp2
        go_quiet (fail)
        go_wp2
        go_quiet (fail)
        go_wp2_with (go_at_call 86; refine (special_any _ _).mono ?_; rintro e w' ⟨rfl, rfl⟩)
        go_ret
        exact ⟨rfl, _, rfl⟩
      · rw [Munch.starts_sign _ (Or.inr (Or.inr (Or.inl h3)))]
        have k1 : ((s[i].toNat : Int) == 46) = false := b1 46 h1
        have k2 : ((s[i].toNat : Int) == 91) = false := b1 91 h2
        have k3 : ((s[i].toNat : Int) == 40) = true := b0 40 h3
        clear h10 b0 b1 h1 h2 h3
        go_enter Tryz.func61, Tryz.ntmps61
        go_wp2
        go_quiet (fail)
        go_wp2
        go_quiet (fail)
        go_wp2_with (go_at_call 86; refine (special_any _ _).mono ?_; rintro e w' ⟨rfl, rfl⟩)
        go_ret
        exact ⟨rfl, _, rfl⟩
      · rw [Munch.starts_sign _ (Or.inr (Or.inr (Or.inr h4)))]
        have k1 : ((s[i].toNat : Int) == 46) = false := b1 46 h1
        have k2 : ((s[i].toNat : Int) == 91) = false := b1 91 h2
        have k3 : ((s[i].toNat : Int) == 40) = false := b1 40 h3
        have k4 : ((s[i].toNat : Int) == 92) = true := b0 92 h4
        clear h10 b0 b1 h1 h2 h3 h4
        go_enter Tryz.func61, Tryz.ntmps61
        go_wp2
        go_quiet (fail)
        go_wp2
        go_quiet (fail)
        go_wp2_with (go_at_call 86; refine (special_any _ _).mono ?_; rintro e w' ⟨rfl, rfl⟩)
        go_ret
        exact ⟨rfl, _, rfl⟩
      · rw [Munch.starts_no _ hs h1 h2 h3 h4]
        have k1 : ((s[i].toNat : Int) == 46) = false := b1 46 h1
        have k2 : ((s[i].toNat : Int) == 91) = false := b1 91 h2
        have k3 : ((s[i].toNat : Int) == 40) = false := b1 40 h3
        have k4 : ((s[i].toNat : Int) == 92) = false := b1 92 h4
        clear h10 b0 b1 h1 h2 h3 h4
        go_enter Tryz.func61, Tryz.ntmps61
        go_wp2
        go_quiet (fail)
        go_wp2
        go_quiet (fail)
        go_wp2_with (go_at_call 86; refine (special_any _ _).mono ?_; rintro e w' ⟨rfl, rfl⟩)
        go_ret
        exact ⟨rfl, _, rfl⟩
  · rw [dif_neg hi]
    have hi' : decide ((s.size : Int) ≤ (i : Int)) = true := by simp; omega
    go_enter Tryz.func61, Tryz.ntmps61
    go_wp2
    go_quiet (fail)
    go_wp2
    go_ret
    exact ⟨rfl, _, rfl⟩
end Go.Proofs.YtkoaeojdlanolaaGreatDoor
/-
  THE WALKS of the reader's spanByte, low, digit, sign.
-/
namespace Go.Proofs.YtkoaeojdlanolaaGreatDoor
open Go.RowKit

set_option maxHeartbeats 1000000 in
theorem spanByte_end (R : Nat) (s : ByteArray) (i : Nat) (bad deep : Int) (opn : Int) (w : World) (hr : Rd w R s i bad deep opn) (hb : bad < 0) (hi : s.size ≤ i) :
    Calls Tryz.prog 152 #[ptr R] w fun e w' => e = .returned (.int .i64 0) ∧ Rd w' R s i i deep opn ∧ Kept R w w' := by
  have c0 := hr.c0
  have c1 := hr.c1
  have c2 := hr.c2
  have hd : decide (0 ≤ bad) = false := by simp; omega
  have hi' : decide ((s.size : Int) ≤ (i : Int)) = true := by simp; omega
  go_enter Tryz.func152, Tryz.ntmps152
  go_wp2
  go_quiet (fail)
  go_wp2_with fail
  refine (fail_any R s i bad deep opn _ (hr.drewN _)).mono ?_
  rintro e w' ⟨rfl, hr', hk⟩
  rw [if_pos hb] at hr'
  go_wp2
  go_ret
  exact ⟨rfl, hr', ((Kept.refl _ _).drewN _).trans hk⟩

set_option maxHeartbeats 1000000 in
theorem spanByte_esc (R : Nat) (s : ByteArray) (i : Nat) (bad deep : Int) (opn : Int) (w : World) (hr : Rd w R s i bad deep opn) (hb : bad < 0) (hs : s.size ≤ 1000) (hi : i < s.size) (h92 : s[i].toNat = 92) (hi1 : i + 1 < s.size) :
    Calls Tryz.prog 152 #[ptr R] w fun e w' => e = .returned (.int .i64 s[i + 1].toNat) ∧ Rd w' R s (i + 2) bad deep opn ∧ Kept R w w' := by
  have c0 := hr.c0
  have c1 := hr.c1
  have c2 := hr.c2
  have f1 := hr.fr 1
  have hp1 : (0 : Int) ≤ (i : Int) + 1 := by omega
  have hw2 : IntKind.i64.wrap ((i : Int) + 1) = (i : Int) + 1 := by rw [IntKind.wrap_i64]; omega
  have hw3 : IntKind.i64.wrap (s[i + 1].toNat : Int) = (s[i + 1].toNat : Int) := by have := s[i + 1].toNat_lt; rw [IntKind.wrap_i64]; omega
  have q1 : ∀ a b c, (((((w.drewN a).setCell ⟨R, 1, none⟩ (.int .i64 (i + 1))).drewN b).setCell ⟨R, 1, none⟩ (.int .i64 (i + 1 + 1))).drewN c).cell? ⟨R, 1, none⟩ = some (.int .i64 (i + 1 + 1)) := fun a b c => (((((hr.drewN a).set1 _).drewN b).set1 _).drewN c).c1
  have hd : decide (0 ≤ bad) = false := by simp; omega
  have hi' : decide ((s.size : Int) ≤ (i : Int)) = false := by simp; omega
  have h92' : ((s[i].toNat : Int) == 92) = true := by rw [h92]; rfl
  have hb1 : (s[i + 1].toNat : Int) ≤ 255 := by have := s[i + 1].toNat_lt; omega
  clear h92
  go_enter Tryz.func152, Tryz.ntmps152
  go_wp2
  go_quiet (fail)
  go_wp2
  go_quiet (fail)
  go_wp2
  go_quiet (fail)
  go_wp2
  go_quiet (fail)
  go_wp2
  go_ret
  exact ⟨rfl, (((((hr.drewN _).set1 _).drewN _).set1 _).drewN _).at_ (by omega) rfl, (((((Kept.refl R w).drewN _).setR 1 _).drewN _).setR 1 _).drewN _⟩

set_option maxHeartbeats 1000000 in
theorem spanByte_escEnd (R : Nat) (s : ByteArray) (i : Nat) (bad deep : Int) (opn : Int) (w : World) (hr : Rd w R s i bad deep opn) (hb : bad < 0) (hs : s.size ≤ 1000) (hi : i < s.size) (h92 : s[i].toNat = 92) (hi1 : s.size ≤ i + 1) :
    Calls Tryz.prog 152 #[ptr R] w fun e w' => e = .returned (.int .i64 0) ∧ Rd w' R s (i + 1 : Nat) (i + 1 : Nat) deep opn ∧ Kept R w w' := by
  have c0 := hr.c0
  have c1 := hr.c1
  have c2 := hr.c2
  have f1 := hr.fr 1
  have hw2 : IntKind.i64.wrap ((i : Int) + 1) = (i : Int) + 1 := by rw [IntKind.wrap_i64]; omega
  have hd : decide (0 ≤ bad) = false := by simp; omega
  have hi' : decide ((s.size : Int) ≤ (i : Int)) = false := by simp; omega
  have hi2 : decide ((s.size : Int) ≤ (i : Int) + 1) = true := by simp; omega
  have h92' : ((s[i].toNat : Int) == 92) = true := by rw [h92]; rfl
  clear h92
  go_enter Tryz.func152, Tryz.ntmps152
  go_wp2
  go_quiet (fail)
  go_wp2
  go_quiet (fail)
  go_wp2
  go_quiet (fail)
  go_wp2_with fail
  refine (fail_any R s _ bad deep opn _ (((hr.drewN _).set1 ((i + 1 : Nat) : Int)).drewN _)).mono ?_
  rintro e w' ⟨rfl, hr', hk⟩
  rw [if_pos hb] at hr'
  go_wp2
  go_ret
  exact ⟨rfl, hr', ((((Kept.refl R w).drewN _).setR 1 _).drewN _).trans hk⟩

set_option maxHeartbeats 1000000 in
theorem spanByte_plain (R : Nat) (s : ByteArray) (i : Nat) (bad deep : Int) (opn : Int) (w : World) (hr : Rd w R s i bad deep opn) (hb : bad < 0) (hs : s.size ≤ 1000) (hi : i < s.size) (h92 : s[i].toNat ≠ 92) (hp : Munch.plainSpan s[i] = true) :
    Calls Tryz.prog 152 #[ptr R] w fun e w' => e = .returned (.int .i64 s[i].toNat) ∧ Rd w' R s (i + 1 : Nat) bad deep opn ∧ Kept R w w' := by
  have c0 := hr.c0
  have c1 := hr.c1
  have c2 := hr.c2
  have f1 := hr.fr 1
  have hd : decide (0 ≤ bad) = false := by simp; omega
  have hi' : decide ((s.size : Int) ≤ (i : Int)) = false := by simp; omega
  have h92' : ((s[i].toNat : Int) == 92) = false := by rw [beq_eq_false_iff_ne]; omega
  have hc : (s[i].toNat : Int) ≤ 255 := by have := s[i].toNat_lt; omega
  unfold Munch.plainSpan at hp
  simp at hp
  have k1 : ((s[i].toNat : Int) == 10) = false := by rw [beq_eq_false_iff_ne]; omega
  have k2 : ((s[i].toNat : Int) == 93) = false := by rw [beq_eq_false_iff_ne]; omega
  have k3 : ((s[i].toNat : Int) == 91) = false := by rw [beq_eq_false_iff_ne]; omega
  have k4 : ((s[i].toNat : Int) == 94) = false := by rw [beq_eq_false_iff_ne]; omega
  have k5 : ((s[i].toNat : Int) == 45) = false := by rw [beq_eq_false_iff_ne]; omega
  clear hp h92
  go_enter Tryz.func152, Tryz.ntmps152
  go_wp2
  go_quiet (fail)
  go_wp2
  go_quiet (fail)
  go_wp2
  go_ret
  exact ⟨rfl, ((hr.drewN _).set1 _).at_ (by omega) rfl, ((Kept.refl R w).drewN _).setR 1 _⟩

set_option maxHeartbeats 1000000 in
theorem spanByte_sign (R : Nat) (s : ByteArray) (i : Nat) (bad deep : Int) (opn : Int) (w : World) (hr : Rd w R s i bad deep opn) (hb : bad < 0) (hi : i < s.size) (h92 : s[i].toNat ≠ 92) (hp : Munch.plainSpan s[i] = false) :
    Calls Tryz.prog 152 #[ptr R] w fun e w' => e = .returned (.int .i64 0) ∧ Rd w' R s i i deep opn ∧ Kept R w w' := by
  have c0 := hr.c0
  have c1 := hr.c1
  have c2 := hr.c2
  have f1 := hr.fr 1
  have hd : decide (0 ≤ bad) = false := by simp; omega
  have hi' : decide ((s.size : Int) ≤ (i : Int)) = false := by simp; omega
  have h92' : ((s[i].toNat : Int) == 92) = false := by rw [beq_eq_false_iff_ne]; omega
  have hcase : s[i].toNat = 10 ∨ s[i].toNat = 93 ∨ s[i].toNat = 91 ∨ s[i].toNat = 94 ∨ s[i].toNat = 45 := by
    unfold Munch.plainSpan at hp; simp at hp; omega
  have b0 : ∀ c : Nat, s[i].toNat = c → ((s[i].toNat : Int) == (c : Int)) = true := fun c h => by rw [h]; simp
  have b1 : ∀ c : Nat, s[i].toNat ≠ c → ((s[i].toNat : Int) == (c : Int)) = false := fun c h => by rw [beq_eq_false_iff_ne]; omega
  clear hp h92
  rcases hcase with h | h | h | h | h
  · have k1 : ((s[i].toNat : Int) == 10) = true := b0 10 h
    clear h b0 b1
    go_enter Tryz.func152, Tryz.ntmps152
    go_wp2
    go_quiet (fail)
    go_wp2
    go_quiet (fail)
    go_wp2_with fail
    refine (fail_any R s i bad deep opn _ (hr.drewN _)).mono ?_
    rintro e w' ⟨rfl, hr', hk⟩
    rw [if_pos hb] at hr'
    go_wp2
    go_ret
    exact ⟨rfl, hr', ((Kept.refl _ _).drewN _).trans hk⟩
  · have k1 : ((s[i].toNat : Int) == 10) = false := b1 10 (by omega)
    have k2 : ((s[i].toNat : Int) == 93) = true := b0 93 h
    clear h b0 b1
    go_enter Tryz.func152, Tryz.ntmps152
    go_wp2
    go_quiet (fail)
    go_wp2
    go_quiet (fail)
    go_wp2_with fail
    refine (fail_any R s i bad deep opn _ (hr.drewN _)).mono ?_
    rintro e w' ⟨rfl, hr', hk⟩
    rw [if_pos hb] at hr'
    go_wp2
    go_ret
    exact ⟨rfl, hr', ((Kept.refl _ _).drewN _).trans hk⟩
  · have k1 : ((s[i].toNat : Int) == 10) = false := b1 10 (by omega)
    have k2 : ((s[i].toNat : Int) == 93) = false := b1 93 (by omega)
    have k3 : ((s[i].toNat : Int) == 91) = true := b0 91 h
    clear h b0 b1
    go_enter Tryz.func152, Tryz.ntmps152
    go_wp2
    go_quiet (fail)
    go_wp2
    go_quiet (fail)
    go_wp2_with fail
    refine (fail_any R s i bad deep opn _ (hr.drewN _)).mono ?_
    rintro e w' ⟨rfl, hr', hk⟩
    rw [if_pos hb] at hr'
    go_wp2
    go_ret
    exact ⟨rfl, hr', ((Kept.refl _ _).drewN _).trans hk⟩
  · have k1 : ((s[i].toNat : Int) == 10) = false := b1 10 (by omega)
    have k2 : ((s[i].toNat : Int) == 93) = false := b1 93 (by omega)
    have k3 : ((s[i].toNat : Int) == 91) = false := b1 91 (by omega)
    have k4 : ((s[i].toNat : Int) == 94) = true := b0 94 h
    clear h b0 b1
    go_enter Tryz.func152, Tryz.ntmps152
    go_wp2
    go_quiet (fail)
    go_wp2
    go_quiet (fail)
    go_wp2_with fail
    refine (fail_any R s i bad deep opn _ (hr.drewN _)).mono ?_
    rintro e w' ⟨rfl, hr', hk⟩
    rw [if_pos hb] at hr'
    go_wp2
    go_ret
    exact ⟨rfl, hr', ((Kept.refl _ _).drewN _).trans hk⟩
  · have k1 : ((s[i].toNat : Int) == 10) = false := b1 10 (by omega)
    have k2 : ((s[i].toNat : Int) == 93) = false := b1 93 (by omega)
    have k3 : ((s[i].toNat : Int) == 91) = false := b1 91 (by omega)
    have k4 : ((s[i].toNat : Int) == 94) = false := b1 94 (by omega)
    have k5 : ((s[i].toNat : Int) == 45) = true := b0 45 h
    clear h b0 b1
    go_enter Tryz.func152, Tryz.ntmps152
    go_wp2
    go_quiet (fail)
    go_wp2
    go_quiet (fail)
    go_wp2_with fail
    refine (fail_any R s i bad deep opn _ (hr.drewN _)).mono ?_
    rintro e w' ⟨rfl, hr', hk⟩
    rw [if_pos hb] at hr'
    go_wp2
    go_ret
    exact ⟨rfl, hr', ((Kept.refl _ _).drewN _).trans hk⟩

/-- What spanByte comes to. -/
def SpanBytePost (R : Nat) (s : ByteArray) (i : Nat) (bad deep opn : Int) (w : World) (e : Ending) (w' : World) : Prop :=
  (∃ v j, Munch.spanByte s i = .ok (v, j) ∧ e = .returned (.int .i64 (v : Nat)) ∧ Rd w' R s (j : Nat) bad deep opn ∧ Kept R w w') ∨
  (∃ p, Munch.spanByte s i = .bad p ∧ e = .returned (.int .i64 0) ∧ Rd w' R s (p : Nat) (p : Nat) deep opn ∧ Kept R w w')

theorem refSpanByte_any (R : Nat) (s : ByteArray) (i : Nat) (bad deep : Int) (opn : Int) (w : World) (hr : Rd w R s i bad deep opn) (hb : bad < 0) (hs : s.size ≤ 1000) :
    Calls Tryz.prog 152 #[ptr R] w fun e w' => SpanBytePost R s i bad deep opn w e w' := by
  by_cases hi : i < s.size
  · by_cases h92 : s[i].toNat = 92
    · by_cases hi1 : i + 1 < s.size
      · exact (spanByte_esc R s i bad deep opn w hr hb hs hi h92 hi1).mono fun e w' ⟨he, hr', hk⟩ => Or.inl ⟨_, _, by unfold Munch.spanByte; rw [dif_pos hi, if_pos h92, dif_pos hi1], he, hr', hk⟩
      · exact (spanByte_escEnd R s i bad deep opn w hr hb hs hi h92 (by omega)).mono fun e w' ⟨he, hr', hk⟩ => Or.inr ⟨_, by unfold Munch.spanByte; rw [dif_pos hi, if_pos h92, dif_neg hi1], he, hr', hk⟩
    · by_cases hp : Munch.plainSpan s[i] = true
      · exact (spanByte_plain R s i bad deep opn w hr hb hs hi h92 hp).mono fun e w' ⟨he, hr', hk⟩ => Or.inl ⟨_, _, by unfold Munch.spanByte; rw [dif_pos hi, if_neg h92, if_pos hp], he, hr', hk⟩
      · exact (spanByte_sign R s i bad deep opn w hr hb hi h92 (by simpa using hp)).mono fun e w' ⟨he, hr', hk⟩ => Or.inr ⟨_, by unfold Munch.spanByte; rw [dif_pos hi, if_neg h92, if_neg hp], he, hr', hk⟩
  · exact (spanByte_end R s i bad deep opn w hr hb (by omega)).mono fun e w' ⟨he, hr', hk⟩ => Or.inr ⟨_, by unfold Munch.spanByte; rw [dif_neg hi], he, hr', hk⟩

set_option maxHeartbeats 400000 in
theorem low_any (R : Nat) (s : ByteArray) (i : Int) (bad deep : Int) (opn : Int) (a : Nat) (w : World) (hr : Rd w R s i bad deep opn) (ha : a < s.size) (hs : s.size ≤ 1000) :
    Calls Tryz.prog 153 #[ptr R, .int .i64 a] w fun e w' => e = .returned (.int .i64 (Munch.low s a : Nat)) ∧ w' = w := by
  have c0 := hr.c0
  unfold Munch.low
  rw [Munch.hasAt_lt _ _ _ ha]
  by_cases h : s[a].toNat = 92
  · have h' : ((s[a].toNat : Int) == 92) = true := by rw [h]; rfl
    rw [decide_eq_true h]
    clear h
    go_enter Tryz.func153, Tryz.ntmps153
    go_wp2
    go_ret
    exact ⟨rfl, rfl⟩
  · have h' : ((s[a].toNat : Int) == 92) = false := by rw [beq_eq_false_iff_ne]; omega
    rw [decide_eq_false h]
    clear h
    go_enter Tryz.func153, Tryz.ntmps153
    go_wp2
    go_ret
    exact ⟨rfl, rfl⟩
end Go.Proofs.YtkoaeojdlanolaaGreatDoor
