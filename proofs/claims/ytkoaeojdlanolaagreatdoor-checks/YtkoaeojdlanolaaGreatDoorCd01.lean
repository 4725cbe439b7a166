import Derived.Test.YtkoaeojdlanolaaGreatDoorCc13
import Derived.Test.YtkoaeojdlanolaaGreatDoorCc12
import Derived.Test.YtkoaeojdlanolaaGreatDoorCa02
import Derived.Test.YtkoaeojdlanolaaGreatDoorCc01
/-
  THE DEVELOPERS' READER in memory; its small methods.
-/
namespace Go.Proofs.YtkoaeojdlanolaaGreatDoor
open Go.RowKit

def Rs (w : World) (R : Nat) (s : ByteArray) (i : Nat) (nest deep : Int) (mb : Nat) : Prop := Blk w R 80 #[.string s, .int .i64 i, .int .i64 nest, .int .i64 deep, .map (some mb)]
section
variable {w w' : World} {R i mb : Nat} {s : ByteArray} {nest deep : Int}
theorem Rs.c0 (h : Rs w R s i nest deep mb) : w.cell? ⟨R, 0, none⟩ = some (.string s) := Blk.cell h 0
theorem Rs.c1 (h : Rs w R s i nest deep mb) : w.cell? ⟨R, 1, none⟩ = some (.int .i64 i) := Blk.cell h 1
theorem Rs.c2 (h : Rs w R s i nest deep mb) : w.cell? ⟨R, 2, none⟩ = some (.int .i64 nest) := Blk.cell h 2
theorem Rs.c3 (h : Rs w R s i nest deep mb) : w.cell? ⟨R, 3, none⟩ = some (.int .i64 deep) := Blk.cell h 3
theorem Rs.c4 (h : Rs w R s i nest deep mb) : w.cell? ⟨R, 4, none⟩ = some (.map (some mb)) := Blk.cell h 4
theorem Rs.fr (h : Rs w R s i nest deep mb) (k : Nat) : w.frozen? ⟨R, k, none⟩ = false := Blk.frozen h k
theorem Rs.lt (h : Rs w R s i nest deep mb) : R < w.heap.size := Blk.lt h
theorem Rs.keep (h : Rs w R s i nest deep mb) (hb : Below w.heap.size w w') : Rs w' R s i nest deep mb := Blk.below h hb h.lt
theorem Rs.drewN (h : Rs w R s i nest deep mb) (n : Nat) : Rs (w.drewN n) R s i nest deep mb := h
theorem Rs.set1 (h : Rs w R s i nest deep mb) (j : Nat) : Rs (w.setCell ⟨R, 1, none⟩ (.int .i64 j)) R s j nest deep mb := by
  have := Blk.set h 1 (.int .i64 j); simpa [Rs] using this
theorem Rs.set2 (h : Rs w R s i nest deep mb) (j : Int) : Rs (w.setCell ⟨R, 2, none⟩ (.int .i64 j)) R s i j deep mb := by
  have := Blk.set h 2 (.int .i64 j); simpa [Rs] using this
theorem Rs.set3 (h : Rs w R s i nest deep mb) (j : Int) : Rs (w.setCell ⟨R, 3, none⟩ (.int .i64 j)) R s i nest j mb := by
  have := Blk.set h 3 (.int .i64 j); simpa [Rs] using this
end

/-- Only the reader's own block has turned, and new blocks are there. -/
def Moves (R : Nat) (w w' : World) : Prop := w.grownBy w' (some R)
theorem Moves.refl (R : Nat) (w : World) : Moves R w w := World.grownBy.refl _ _
theorem Moves.trans {R : Nat} {a b c : World} (h : Moves R a b) (h' : Moves R b c) : Moves R a c :=
  ⟨h'.os.trans h.os, h'.tape.trans h.tape, h'.output.trans h.output, Nat.le_trans h.size h'.size, fun k hk hne => (h'.block k (Nat.lt_of_lt_of_le hk h.size) hne).trans (h.block k hk hne)⟩
theorem Moves.of_below {R : Nat} {w w' : World} (h : Below w.heap.size w w') : Moves R w w' := ⟨h.os, h.tape, h.output, h.size, fun k hk _ => h.block k hk⟩
theorem Moves.set {R : Nat} {a w : World} (h : Moves R a w) (k : Nat) (v : Value) : Moves R a (w.setCell ⟨R, k, none⟩ v) :=
  ⟨h.os, h.tape, h.output, by rw [size_setCell]; exact h.size, fun b hb hne => (Below.heap_setCell w ⟨R, k, none⟩ v b (fun e => hne (by rw [e]))).trans (h.block b hb hne)⟩
theorem Moves.keeps {R : Nat} {w w' : World} (h : Moves R w w') : Keeps (· ≠ R) w w' := ⟨h.size, fun k hk hne => h.block k hk (by simpa using hne)⟩
theorem below_drewN' (w : World) (n : Nat) : Below w.heap.size w (w.drewN n) := below_drewN (Below.refl _ _) n

set_option maxHeartbeats 400000 in
theorem ended_any (R : Nat) (s : ByteArray) (i mb : Nat) (nest deep : Int) (w : World) (hr : Rs w R s i nest deep mb) :
    Calls Tryz.prog 28 #[.pointer (some ⟨R, 0, none⟩)] w fun e w' => e = .returned (.bool (decide (i = s.size))) ∧ ∃ n, w' = w.drewN n := by
  have c0 := hr.c0
  have c1 := hr.c1
  go_enter Tryz.func28, Tryz.ntmps28
  go_wp2
  go_quiet (fail)
  go_wp2
  go_ret
  refine ⟨ret_bool ?_, _, rfl⟩
  rw [Bool.eq_iff_iff]; simp; omega

set_option maxHeartbeats 1000000 in
theorem sees_any (R : Nat) (s : ByteArray) (i mb : Nat) (nest deep : Int) (c : Nat) (w : World) (hr : Rs w R s i nest deep mb) (hi : i ≤ s.size) :
    Calls Tryz.prog 60 #[.pointer (some ⟨R, 0, none⟩), .int .u8 c] w fun e w' => e = .returned (.bool (Munch.hasAt s i c)) ∧ Below w.heap.size w w' := by
  have c0 := hr.c0
  have c1 := hr.c1
  by_cases hlt : i < s.size
  · rw [Munch.hasAt_lt _ _ _ hlt]
    have hi' : (i : Int) < (s.size : Int) := by omega
    have hd : decide (i = s.size) = false := by simp; omega
    have he : decide (s[i].toNat = c) = ((s[i].toNat : Int) == (c : Int)) := by
      rw [Bool.eq_iff_iff]; simp; omega
    rw [he]
    clear he
    have hq : ∀ n, Calls Tryz.prog 28 #[.pointer (some ⟨R, 0, none⟩)] (w.drewN n) fun e w' => e = .returned (.bool false) ∧ ∃ m, w' = (w.drewN n).drewN m := by
      intro n
      have := ended_any R s i mb nest deep (w.drewN n) hr
      rwa [hd] at this
    have HQ : Hid _ := hq
    clear hq hd
    go_enter Tryz.func60, Tryz.ntmps60
    go_wp2
    go_quiet (first | (go_at_call 28; refine Calls.quiet_of (HQ.out _)))
    go_wp2
    go_ret
    exact ⟨rfl, below_drewN' _ _⟩
  · rw [Munch.hasAt_ge _ _ _ (by omega)]
    have hd : decide (i = s.size) = true := by simp; omega
    have hq : ∀ n, Calls Tryz.prog 28 #[.pointer (some ⟨R, 0, none⟩)] (w.drewN n) fun e w' => e = .returned (.bool true) ∧ ∃ m, w' = (w.drewN n).drewN m := by
      intro n
      have := ended_any R s i mb nest deep (w.drewN n) hr
      rwa [hd] at this
    have HQ : Hid _ := hq
    clear hq hd
    go_enter Tryz.func60, Tryz.ntmps60
    go_wp2
    go_quiet (first | (go_at_call 28; refine Calls.quiet_of (HQ.out _)))
    go_wp2
    go_ret
    exact ⟨rfl, below_drewN' _ _⟩

set_option maxHeartbeats 1000000 in
theorem take_any (R : Nat) (s : ByteArray) (i mb : Nat) (nest deep : Int) (c : Nat) (w : World) (hr : Rs w R s i nest deep mb) (hi : i ≤ s.size) (hs : s.size ≤ 80) :
    Calls Tryz.prog 29 #[.pointer (some ⟨R, 0, none⟩), .int .u8 c] w fun e w' => e = .returned (.bool (Munch.hasAt s i c)) ∧ Rs w' R s (if Munch.hasAt s i c then i + 1 else i) nest deep mb ∧ Moves R w w' := by
  have hse := sees_any R s i mb nest deep c w hr hi
  cases hh : Munch.hasAt s i c with
  | false =>
    rw [hh] at hse
    go_enter Tryz.func29, Tryz.ntmps29
    go_wp2_with fail
    refine hse.mono ?_
    rintro e w1 ⟨rfl, hb1⟩
    clear hse
    go_wp2_with fail
    go_ret
    exact ⟨rfl, by simpa using hr.keep hb1, Moves.of_below hb1⟩
  | true =>
    rw [hh] at hse
    go_enter Tryz.func29, Tryz.ntmps29
    go_wp2_with fail
    refine hse.mono ?_
    rintro e w1 ⟨rfl, hb1⟩
    clear hse
    have hr1 := hr.keep hb1
    have c1 := hr1.c1
    have f1 := hr1.fr 1
    have HR : Hid (Rs (w1.setCell ⟨R, 1, none⟩ (.int .i64 ((i : Int) + 1))) R s (i + 1) nest deep mb) := by
      have := hr1.set1 (i + 1)
      rwa [show ((i + 1 : Nat) : Int) = (i : Int) + 1 from by omega] at this
    have hw : IntKind.i64.wrap ((i : Int) + 1) = (i : Int) + 1 := by rw [IntKind.wrap_i64]; omega
    go_wp2_with fail
    go_ret
    exact ⟨rfl, by simpa using HR.out, (Moves.of_below hb1).set _ _⟩

/-- The byte at hand lies between two others. -/
def withinAt (s : ByteArray) (i a b : Nat) : Bool := if h : i < s.size then decide (a ≤ s[i].toNat) && decide (s[i].toNat ≤ b) else false

set_option maxHeartbeats 2000000 in
theorem takeWithin_any (R : Nat) (s : ByteArray) (i mb : Nat) (nest deep : Int) (a b : Nat) (w : World) (hr : Rs w R s i nest deep mb) (hi : i ≤ s.size) (hs : s.size ≤ 80) :
    Calls Tryz.prog 77 #[.pointer (some ⟨R, 0, none⟩), .int .u8 a, .int .u8 b] w fun e w' =>
      (withinAt s i a b = false ∧ e = .returned (.tuple #[.int .u8 0, .bool false]) ∧ Rs w' R s i nest deep mb ∧ Moves R w w') ∨
      (withinAt s i a b = true ∧ (∃ h : i < s.size, e = .returned (.tuple #[.int .u8 s[i].toNat, .bool true])) ∧ Rs w' R s (i + 1) nest deep mb ∧ Moves R w w') := by
  have c0 := hr.c0
  have c1 := hr.c1
  by_cases hlt : i < s.size
  · have hi' : (i : Int) < (s.size : Int) := by omega
    have hq : ∀ n, Calls Tryz.prog 28 #[.pointer (some ⟨R, 0, none⟩)] (w.drewN n) fun e w' => e = .returned (.bool false) ∧ ∃ m, w' = (w.drewN n).drewN m := by
      intro n
      have := ended_any R s i mb nest deep (w.drewN n) hr
      rwa [show decide (i = s.size) = false from by simp; omega] at this
    have HQ : Hid _ := hq
    clear hq
    by_cases ha : s[i].toNat < a
    · have ha1 : decide (s[i].toNat < a) = true := by simpa using ha
      have ha2 : (s[i].toNat : Int) < (a : Int) := by omega
      have HW : Hid (withinAt s i a b = false) := by
        show withinAt s i a b = false
        unfold withinAt; rw [dif_pos hlt]; simp; omega
      clear ha
      go_enter Tryz.func77, Tryz.ntmps77
      go_wp2_with fail
      go_quiet (first | (go_at_call 28; refine Calls.quiet_of (HQ.out _)))
      go_wp2_with fail
      go_ret2
      exact Or.inl ⟨HW.out, rfl, hr.drewN _, Moves.of_below (below_drewN' _ _)⟩
    · have ha1 : decide (s[i].toNat < a) = false := by simpa using ha
      have ha2 : ¬ (s[i].toNat : Int) < (a : Int) := by omega
      by_cases hb : b < s[i].toNat
      · have hb1 : decide (b < s[i].toNat) = true := by simpa using hb
        have hb2 : (b : Int) < (s[i].toNat : Int) := by omega
        have HW : Hid (withinAt s i a b = false) := by
          show withinAt s i a b = false
          unfold withinAt; rw [dif_pos hlt]; simp; omega
        clear ha hb
        go_enter Tryz.func77, Tryz.ntmps77
        go_wp2_with fail
        go_quiet (first | (go_at_call 28; refine Calls.quiet_of (HQ.out _)))
        go_wp2_with fail
        go_ret2
        exact Or.inl ⟨HW.out, rfl, hr.drewN _, Moves.of_below (below_drewN' _ _)⟩
      · have hb1 : decide (b < s[i].toNat) = false := by simpa using hb
        have hb2 : ¬ (b : Int) < (s[i].toNat : Int) := by omega
        have HW : Hid (withinAt s i a b = true) := by
          show withinAt s i a b = true
          unfold withinAt; rw [dif_pos hlt]; simp; omega
        clear ha hb
        have hw : IntKind.i64.wrap ((i : Int) + 1) = (i : Int) + 1 := by rw [IntKind.wrap_i64]; omega
        have hw2 : IntKind.i64.wrap ((i : Int) + 1 - 1) = (i : Int) := by rw [IntKind.wrap_i64]; omega
        have hw3 : IntKind.i64.wrap ((i : Int)) = (i : Int) := by rw [IntKind.wrap_i64]; omega
        go_enter Tryz.func77, Tryz.ntmps77
        go_wp2_with fail
        go_quiet (first | (go_at_call 28; refine Calls.quiet_of (HQ.out _)))
        have hr1 := hr.drewN nq
        have c1' := hr1.c1
        have f1' := hr1.fr 1
        have hr2 : Rs ((w.drewN nq).setCell ⟨R, 1, none⟩ (.int .i64 ((i : Int) + 1))) R s (i + 1) nest deep mb := by
          have := hr1.set1 (i + 1)
          rwa [show ((i + 1 : Nat) : Int) = (i : Int) + 1 from by omega] at this
        have d0 := hr2.c0
        have d1 : ((w.drewN nq).setCell ⟨R, 1, none⟩ (.int .i64 ((i : Int) + 1))).cell? ⟨R, 1, none⟩ = some (.int .i64 ((i : Int) + 1)) := by
          have := hr2.c1
          rwa [show ((i + 1 : Nat) : Int) = (i : Int) + 1 from by omega] at this
        have hm2 : Moves R w ((w.drewN nq).setCell ⟨R, 1, none⟩ (.int .i64 ((i : Int) + 1))) := (Moves.of_below (below_drewN' w nq)).set _ _
        go_wp2_with fail
        generalize (w.drewN nq).setCell ⟨R, 1, none⟩ (.int .i64 ((i : Int) + 1)) = w2 at *
        go_quiet (fail)
        go_wp2_with fail
        go_ret2
        exact Or.inr ⟨HW.out, ⟨hlt, rfl⟩, hr2.drewN _, hm2.trans (Moves.of_below (below_drewN' _ _))⟩
  · have HW : Hid (withinAt s i a b = false) := by
      show withinAt s i a b = false
      unfold withinAt; rw [dif_neg hlt]
    have hq : ∀ n, Calls Tryz.prog 28 #[.pointer (some ⟨R, 0, none⟩)] (w.drewN n) fun e w' => e = .returned (.bool true) ∧ ∃ m, w' = (w.drewN n).drewN m := by
      intro n
      have := ended_any R s i mb nest deep (w.drewN n) hr
      rwa [show decide (i = s.size) = true from by simp; omega] at this
    have HQ : Hid _ := hq
    clear hq
    go_enter Tryz.func77, Tryz.ntmps77
    go_wp2_with fail
    go_quiet (first | (go_at_call 28; refine Calls.quiet_of (HQ.out _)))
    go_wp2_with fail
    go_ret2
    exact Or.inl ⟨HW.out, rfl, hr.drewN _, Moves.of_below (below_drewN' _ _)⟩
end Go.Proofs.YtkoaeojdlanolaaGreatDoor
/-
  THE DEVELOPERS' READER: seesAtom, ofBytes, escaped, spanByte, span.
-/
namespace Go.Proofs.YtkoaeojdlanolaaGreatDoor
open Go.RowKit
open Munch (Words Wempty Wbytes Wcat Wany Wall Wnot KeyF Times numText)

set_option maxHeartbeats 1000000 in
theorem ofBytes_any (v : Value) (S : Nat → Bool) (w : World) (ok : Nat → Prop) (hS : SetOk w ok v S) (hl : Laid w) :
    Calls Tryz.prog 161 #[v] w fun e w' => ∃ (r : Tr) (T : TypeId) (p : Value), e = .returned (.agg #[.iface T p, .int .i64 1]) ∧ r.v = .iface T p ∧ TreeOk w' (w.heap.size ≤ ·) r ∧ r.L = Wbytes S ∧ r.n = 1 ∧ Below w.heap.size w w' := by
  have hb0 := below_box w (.cells #[.nilIface, .int .i64 0] 82)
  have hby := bytes_any v S (w.alloc (.cells #[.nilIface, .int .i64 0] 82)) ok (hS.keep (keeps_below hb0)) (hl.keep hb0)
  obtain ⟨f0, c0, rfl⟩ := hS.notAgg
  go_enter Tryz.func161, Tryz.ntmps161
  go_wp2_with fail
  refine hby.mono ?_
  clear hby
  rintro e w1 ⟨r, rfl, hrok, hrL, hrn, hb1⟩
  obtain ⟨T, p, hv⟩ := hrok.shape
  rw [hv]
  have k0 : Blk w1 w.heap.size 82 #[.nilIface, .int .i64 0] := (Blk.new w _ _).below hb1 (by simp)
  have d0 := k0.cell 0
  have d1 := k0.cell 1
  have g0 := k0.frozen 0
  have g1 := k0.frozen 1
  simp at d0 d1
  have hb2 : Below w.heap.size w ((w1.setCell ⟨w.heap.size, 0, none⟩ (.iface T p)).setCell ⟨w.heap.size, 1, none⟩ (.int .i64 1)) := ((hb0.trans (hb1.mono hb0.size)).setCell (by simp) _).setCell (by simp) _
  have k2 : Blk ((w1.setCell ⟨w.heap.size, 0, none⟩ (.iface T p)).setCell ⟨w.heap.size, 1, none⟩ (.int .i64 1)) w.heap.size 82 #[.iface T p, .int .i64 1] := by
    have := (k0.set 0 (.iface T p)).set 1 (.int .i64 1); simpa using this
  have HR : Hid (TreeOk ((w1.setCell ⟨w.heap.size, 0, none⟩ (.iface T p)).setCell ⟨w.heap.size, 1, none⟩ (.int .i64 1)) (w.heap.size ≤ ·) r) := by
    have h1 : TreeOk w1 (fun x => w.heap.size ≤ x ∧ x ≠ w.heap.size) r := hrok.mono (fun x _ hx => by simp at hx; omega)
    exact ((h1.keep ((keeps_both (keeps_set w1 ⟨w.heap.size, 0, none⟩ (.iface T p)) (keeps_set _ ⟨w.heap.size, 1, none⟩ (.int .i64 1))).mono (fun x _ hx => ⟨hx.2, hx.2⟩))).mono (fun x _ hx => hx.1))
  clear hrok
  go_wp2_with fail
  have z0 := k2.cell 0
  have z1 := k2.cell 1
  simp at z0 z1
  refine bodyPost_ret (v := .agg #[.iface T p, .int .i64 1]) (by simp [results, Tryz.results161, go_sem, z0, z1]) rfl ?_
  exact ⟨r, T, p, rfl, hv, HR.out, hrL, hrn, hb2⟩

/-- What was read: a tree and its weight. -/
def PieceOk (w : World) (base : Nat) (nd : Munch.Node) (m : Nat) (v : Value) : Prop :=
  ∃ (r : Tr) (T : TypeId) (p : Value), v = .agg #[.iface T p, .int .i64 (Munch.weightV nd)] ∧ r.v = .iface T p ∧ TreeOk w (base ≤ ·) r ∧ r.L = Munch.Lang nd ∧ r.n ≤ m
theorem PieceOk.keep {w w' : World} {R base : Nat} {nd : Munch.Node} {m : Nat} {v : Value} (h : PieceOk w base nd m v) (hm : Moves R w w') (hR : R < base) : PieceOk w' base nd m v := by
  obtain ⟨r, T, p, h1, h2, h3, h4, h5⟩ := h
  exact ⟨r, T, p, h1, h2, h3.keep (hm.keeps.mono (fun x _ hx => by omega)), h4, h5⟩
theorem wbytes_congr {S S' : Nat → Bool} (h : ∀ c, c < 256 → S c = S' c) : Wbytes S = Wbytes S' := by
  funext u; apply propext
  constructor
  · rintro ⟨c, rfl, hc⟩; exact ⟨c, rfl, by rw [← h c.toNat (UInt8.toNat_lt c)]; exact hc⟩
  · rintro ⟨c, rfl, hc⟩; exact ⟨c, rfl, by rw [h c.toNat (UInt8.toNat_lt c)]; exact hc⟩
theorem lang_spans (no : Bool) (sp : List (Nat × Nat)) (S : Nat → Bool) (h : ∀ c, c < 256 → S c = Munch.inSet no sp c) : Wbytes S = Munch.Lang (.set no sp) := wbytes_congr h
theorem lang_span (a b : Nat) : Wbytes (spanV a b) = Munch.Lang (.set false [(a, b)]) := lang_spans false [(a, b)] _ (fun c _ => by simp [Munch.inSet, spanV])

theorem atom_sign (c : UInt8) : decide (Lib.indexByte [10, 124, 38, 33, 42, 43, 63, 123, 125, 93, 41] c < 0) = Munch.starts c := by
  have h := below256 (fun n => decide (Lib.indexByte [10, 124, 38, 33, 42, 43, 63, 123, 125, 93, 41] (UInt8.ofNat n) < 0) == Munch.starts (UInt8.ofNat n)) (by decide +kernel) c.toNat (UInt8.toNat_lt c)
  simpa using h
theorem span_sign (c : UInt8) : decide (0 ≤ Lib.indexByte [10, 93, 91, 94, 45] c) = !Munch.plainSpan c := by
  have h := below256 (fun n => decide (0 ≤ Lib.indexByte [10, 93, 91, 94, 45] (UInt8.ofNat n)) == !Munch.plainSpan (UInt8.ofNat n)) (by decide +kernel) c.toNat (UInt8.toNat_lt c)
  simpa using h

theorem endedQ {R : Nat} {s : ByteArray} {i mb : Nat} {nest deep : Int} {w : World} (hr : Rs w R s i nest deep mb) (b : Bool) (hb : decide (i = s.size) = b) : ∀ n, Calls Tryz.prog 28 #[.pointer (some ⟨R, 0, none⟩)] (w.drewN n) fun e w' => e = .returned (.bool b) ∧ ∃ m, w' = (w.drewN n).drewN m := by
  intro n
  have := ended_any R s i mb nest deep (w.drewN n) hr
  rwa [hb] at this

set_option maxHeartbeats 1000000 in
theorem seesAtom_any (R : Nat) (s : ByteArray) (i mb : Nat) (nest deep : Int) (w : World) (hr : Rs w R s i nest deep mb) (hi : i ≤ s.size) :
    Calls Tryz.prog 116 #[.pointer (some ⟨R, 0, none⟩)] w fun e w' => e = .returned (.bool (Munch.begins s i)) ∧ Below w.heap.size w w' := by
  have c0 := hr.c0
  have c1 := hr.c1
  by_cases hlt : i < s.size
  · have hi' : (i : Int) < (s.size : Int) := by omega
    have HQ : Hid _ := endedQ hr false (by simp; omega)
    have HI : Hid _ := fun n => Tryz.strings_IndexByte ⟨#[10, 124, 38, 33, 42, 43, 63, 123, 125, 93, 41]⟩ (s[i].toNat : Int) (w.drewN n)
    have HE : Hid (decide (Lib.indexByte [10, 124, 38, 33, 42, 43, 63, 123, 125, 93, 41] s[i] < 0) = Munch.begins s i) := by
      show _ = _
      rw [atom_sign]; unfold Munch.begins; rw [dif_pos hlt]
    have hcast : ((s[i].toNat : Int)).toNat.toUInt8 = s[i] := by simp
    rw [← HE.out]
    clear hi
    go_enter Tryz.func116, Tryz.ntmps116
    go_wp2_with fail
    go_quiet (first | (go_at_call 28; refine Calls.quiet_of (HQ.out _)) | (go_at_call 133; refine Calls.quiet_of_same (HI.out _)))
    go_wp2_with fail
    go_ret
    refine ⟨ret_bool ?_, below_drewN' _ _⟩
    simp
  · have HE : Hid (Munch.begins s i = false) := by
      show Munch.begins s i = false
      unfold Munch.begins; rw [dif_neg hlt]
    have HQ : Hid _ := endedQ hr true (by simp; omega)
    rw [HE.out]
    go_enter Tryz.func116, Tryz.ntmps116
    go_wp2_with fail
    go_quiet (first | (go_at_call 28; refine Calls.quiet_of (HQ.out _)))
    go_wp2_with fail
    go_ret
    exact ⟨rfl, below_drewN' _ _⟩
end Go.Proofs.YtkoaeojdlanolaaGreatDoor
/-
  THE DEVELOPERS' READER: escaped, spanByte, span.
-/
namespace Go.Proofs.YtkoaeojdlanolaaGreatDoor
open Go.RowKit
open Munch (Words Wempty Wbytes Wcat Wany Wall Wnot KeyF Times numText)

theorem withinAt_lt (s : ByteArray) (i a b : Nat) (h : i < s.size) : withinAt s i a b = (decide (a ≤ s[i].toNat) && decide (s[i].toNat ≤ b)) := by unfold withinAt; rw [dif_pos h]
theorem withinAt_ge (s : ByteArray) (i a b : Nat) (h : ¬ i < s.size) : withinAt s i a b = false := by unfold withinAt; rw [dif_neg h]

/-- A byte of a span that is not below m. -/
def spanByteL (s : ByteArray) (i m : Nat) : Munch.Res (Nat × Nat) := (Munch.spanByte s i).bind fun y => if y.1 < m then .bad (Munch.low s i) else .ok y

theorem spanByteL_esc (s : ByteArray) (i m : Nat) (h : Munch.hasAt s i 92 = true) :
    (withinAt s (i + 1) m 255 = false → spanByteL s i m = .bad (i + 1)) ∧ (withinAt s (i + 1) m 255 = true → ∃ h' : i + 1 < s.size, spanByteL s i m = .ok (s[i + 1].toNat, i + 2)) := by
  have hi := Munch.hasAt_true _ _ _ h
  have h92 : s[i].toNat = 92 := by rw [Munch.hasAt_lt _ _ _ hi] at h; simpa using h
  have hlow : Munch.low s i = i + 1 := by unfold Munch.low; rw [if_pos h]
  unfold spanByteL Munch.spanByte
  rw [dif_pos hi, if_pos h92]
  by_cases h1 : i + 1 < s.size
  · rw [dif_pos h1, withinAt_lt _ _ _ _ h1]
    have := UInt8.toNat_lt s[i + 1]
    constructor
    · intro hw
      simp at hw
      by_cases hm : m ≤ s[i + 1].toNat
      · have := hw hm; omega
      · simp; rw [if_pos (by omega), hlow]
    · intro hw
      simp at hw
      refine ⟨h1, ?_⟩
      simp; omega
  · rw [dif_neg h1, withinAt_ge _ _ _ _ h1]
    exact ⟨fun _ => rfl, fun h => by cases h⟩
theorem spanByteL_no (s : ByteArray) (i m : Nat) (h : Munch.hasAt s i 92 = false) (hp : ¬ ∃ h : i < s.size, Munch.plainSpan s[i] = true) : spanByteL s i m = .bad i := by
  unfold spanByteL Munch.spanByte
  by_cases hi : i < s.size
  · rw [dif_pos hi]
    have h92 : ¬ s[i].toNat = 92 := by rw [Munch.hasAt_lt _ _ _ hi] at h; simpa using h
    have hpl : ¬ Munch.plainSpan s[i] = true := fun hh => hp ⟨hi, hh⟩
    rw [if_neg h92, if_neg hpl]; rfl
  · rw [dif_neg hi]; rfl
theorem spanByteL_plain (s : ByteArray) (i m : Nat) (h : Munch.hasAt s i 92 = false) (hi : i < s.size) (hp : Munch.plainSpan s[i] = true) :
    (withinAt s i m 255 = false → spanByteL s i m = .bad i) ∧ (withinAt s i m 255 = true → spanByteL s i m = .ok (s[i].toNat, i + 1)) := by
  have h92 : ¬ s[i].toNat = 92 := by rw [Munch.hasAt_lt _ _ _ hi] at h; simpa using h
  have hlow : Munch.low s i = i := by unfold Munch.low; rw [if_neg (by rw [h]; simp)]
  unfold spanByteL Munch.spanByte
  rw [dif_pos hi, if_neg h92, if_pos hp, withinAt_lt _ _ _ _ hi]
  have := UInt8.toNat_lt s[i]
  constructor
  · intro hw
    simp at hw
    by_cases hm : m ≤ s[i].toNat
    · have := hw hm; omega
    · simp; rw [if_pos (by omega), hlow]
  · intro hw
    simp at hw
    simp; omega

/-- What a method that reads a byte answers. -/
def ReadB (R : Nat) (s : ByteArray) (nest deep : Int) (mb : Nat) (res : Munch.Res (Nat × Nat)) (w : World) (e : Ending) (w' : World) : Prop :=
  Moves R w w' ∧ ((∃ p, res = .bad p ∧ e = .returned (.tuple #[.int .u8 0, .bool false]) ∧ Rs w' R s p nest deep mb) ∨ (∃ v j : Nat, res = .ok (v, j) ∧ e = .returned (.tuple #[.int .u8 v, .bool true]) ∧ Rs w' R s j nest deep mb))

set_option maxHeartbeats 2000000 in
theorem spanByte_any (R : Nat) (s : ByteArray) (i mb : Nat) (nest deep : Int) (m : Nat) (w : World) (hr : Rs w R s i nest deep mb) (hi : i ≤ s.size) (hs : s.size ≤ 80) :
    Calls Tryz.prog 183 #[.pointer (some ⟨R, 0, none⟩), .int .u8 m] w fun e w' => ReadB R s nest deep mb (spanByteL s i m) w e w' := by
  have ht := take_any R s i mb nest deep 92 w hr hi hs
  cases hh : Munch.hasAt s i 92 with
  | true =>
    rw [hh] at ht
    have hilt := Munch.hasAt_true _ _ _ hh
    have HE : Hid _ := spanByteL_esc s i m hh
    go_enter Tryz.func183, Tryz.ntmps183
    go_wp2_with fail
    refine ht.mono ?_
    clear ht
    rintro e w1 ⟨rfl, hr1, hm1⟩
    replace hr1 : Rs w1 R s (i + 1) nest deep mb := by simpa using hr1
    have htw := takeWithin_any R s (i + 1) mb nest deep m 255 w1 hr1 (by omega) hs
    go_wp2_with fail
    refine htw.mono ?_
    clear htw
    rintro e w2 (⟨hw, rfl, hr2, hm2⟩ | ⟨hw, ⟨h', rfl⟩, hr2, hm2⟩)
    · have HF : Hid _ := HE.out.1 hw
      go_wp2_with fail
      go_ret2
      exact ⟨hm1.trans hm2, Or.inl ⟨i + 1, HF.out, rfl, hr2⟩⟩
    · obtain ⟨h'', hf⟩ := HE.out.2 hw
      have HF : Hid _ := hf
      clear hf
      go_wp2_with fail
      go_ret2
      exact ⟨hm1.trans hm2, Or.inr ⟨_, _, HF.out, rfl, hr2⟩⟩
  | false =>
    rw [hh] at ht
    by_cases hlt : i < s.size
    · cases hp : Munch.plainSpan s[i] with
      | true =>
        have HE : Hid _ := spanByteL_plain s i m hh hlt hp
        have HSg : Hid (decide (0 ≤ Lib.indexByte [10, 93, 91, 94, 45] s[i]) = false) := by
          show _ = _
          rw [span_sign, hp]; rfl
        go_enter Tryz.func183, Tryz.ntmps183
        go_wp2_with fail
        refine ht.mono ?_
        clear ht
        rintro e w1 ⟨rfl, hr1, hm1⟩
        replace hr1 : Rs w1 R s i nest deep mb := by simpa using hr1
        have c0 := hr1.c0
        have c1 := hr1.c1
        have hi' : (i : Int) < (s.size : Int) := by omega
        have HQ : Hid _ := endedQ hr1 false (by simp; omega)
        have HI : Hid _ := fun n => Tryz.strings_IndexByte ⟨#[10, 93, 91, 94, 45]⟩ (s[i].toNat : Int) (w1.drewN n)
        have hcast : ((s[i].toNat : Int)).toNat.toUInt8 = s[i] := by simp
        go_wp2_with fail
        go_quiet (first | (go_at_call 28; refine Calls.quiet_of (HQ.out _)) | (go_at_call 133; refine Calls.quiet_of_same (HI.out _)))
        have hsg := HSg.out
        have hsg' : ¬ 0 ≤ Lib.indexByte [10, 93, 91, 94, 45] s[i] := by simpa using hsg
        have hr2 := hr1.drewN nq
        have htw := takeWithin_any R s i mb nest deep m 255 (w1.drewN nq) hr2 hi hs
        go_wp2_with fail
        refine htw.mono ?_
        clear htw
        rintro e w2 (⟨hw, rfl, hr3, hm2⟩ | ⟨hw, ⟨h', rfl⟩, hr3, hm2⟩)
        · have HF : Hid _ := HE.out.1 hw
          go_wp2_with fail
          go_ret2
          exact ⟨(hm1.trans (Moves.of_below (below_drewN' _ _))).trans hm2, Or.inl ⟨i, HF.out, rfl, hr3⟩⟩
        · have HF : Hid _ := HE.out.2 hw
          go_wp2_with fail
          go_ret2
          exact ⟨(hm1.trans (Moves.of_below (below_drewN' _ _))).trans hm2, Or.inr ⟨_, _, HF.out, rfl, hr3⟩⟩
      | false =>
        have HE : Hid _ := spanByteL_no s i m hh (by rintro ⟨_, h⟩; rw [hp] at h; cases h)
        have HSg : Hid (decide (0 ≤ Lib.indexByte [10, 93, 91, 94, 45] s[i]) = true) := by
          show _ = _
          rw [span_sign, hp]; rfl
        go_enter Tryz.func183, Tryz.ntmps183
        go_wp2_with fail
        refine ht.mono ?_
        clear ht
        rintro e w1 ⟨rfl, hr1, hm1⟩
        replace hr1 : Rs w1 R s i nest deep mb := by simpa using hr1
        have c0 := hr1.c0
        have c1 := hr1.c1
        have hi' : (i : Int) < (s.size : Int) := by omega
        have HQ : Hid _ := endedQ hr1 false (by simp; omega)
        have HI : Hid _ := fun n => Tryz.strings_IndexByte ⟨#[10, 93, 91, 94, 45]⟩ (s[i].toNat : Int) (w1.drewN n)
        have hcast : ((s[i].toNat : Int)).toNat.toUInt8 = s[i] := by simp
        go_wp2_with fail
        go_quiet (first | (go_at_call 28; refine Calls.quiet_of (HQ.out _)) | (go_at_call 133; refine Calls.quiet_of_same (HI.out _)))
        have hsg' : 0 ≤ Lib.indexByte [10, 93, 91, 94, 45] s[i] := by simpa using HSg.out
        go_wp2_with fail
        go_ret2
        exact ⟨hm1.trans (Moves.of_below (below_drewN' _ _)), Or.inl ⟨i, HE.out, rfl, hr1.drewN _⟩⟩
    · have HE : Hid _ := spanByteL_no s i m hh (by rintro ⟨h, _⟩; exact hlt h)
      go_enter Tryz.func183, Tryz.ntmps183
      go_wp2_with fail
      refine ht.mono ?_
      clear ht
      rintro e w1 ⟨rfl, hr1, hm1⟩
      replace hr1 : Rs w1 R s i nest deep mb := by simpa using hr1
      have c0 := hr1.c0
      have c1 := hr1.c1
      have HQ : Hid _ := endedQ hr1 true (by simp; omega)
      go_wp2_with fail
      go_quiet (first | (go_at_call 28; refine Calls.quiet_of (HQ.out _)))
      go_wp2_with fail
      go_ret2
      exact ⟨hm1.trans (Moves.of_below (below_drewN' _ _)), Or.inl ⟨i, HE.out, rfl, hr1.drewN _⟩⟩
end Go.Proofs.YtkoaeojdlanolaaGreatDoor
/-
  THE DEVELOPERS' READER: span.
-/
namespace Go.Proofs.YtkoaeojdlanolaaGreatDoor
open Go.RowKit
open Munch (Words Wempty Wbytes Wcat Wany Wall Wnot KeyF Times numText)

theorem spanByteL_zero (s : ByteArray) (i : Nat) : spanByteL s i 0 = Munch.spanByte s i := by
  unfold spanByteL
  rcases Munch.Res.split (Munch.spanByte s i) with h | ⟨p, h⟩ | ⟨a, h⟩ <;> rw [h] <;> simp
theorem span_eq (s : ByteArray) (i : Nat) : Munch.span s i = (Munch.spanByte s i).bind fun x => if Munch.hasAt s x.2 45 then (spanByteL s (x.2 + 1) x.1).bind fun y => .ok ((x.1, y.1), y.2) else .ok ((x.1, x.1), x.2) := by
  unfold Munch.span
  congr 1
  funext x
  split
  · unfold spanByteL
    rcases Munch.Res.split (Munch.spanByte s (x.2 + 1)) with h | ⟨p, h⟩ | ⟨a, h⟩ <;> rw [h]
    · rfl
    · rfl
    · simp only [Munch.Res.bind_ok]
      split <;> rfl
  · rfl

/-- What span answers. -/
def ReadS (R : Nat) (s : ByteArray) (nest deep : Int) (mb : Nat) (res : Munch.Res ((Nat × Nat) × Nat)) (w : World) (e : Ending) (w' : World) : Prop :=
  Moves R w w' ∧ ((∃ p v, res = .bad p ∧ e = .returned (.tuple #[v, .bool false]) ∧ Rs w' R s p nest deep mb) ∨
    (∃ (a b j : Nat) (fn : FuncId) (caps : Array Value), res = .ok ((a, b), j) ∧ e = .returned (.tuple #[.func (.func fn) #[] caps, .bool true]) ∧ SetOk w' (w.heap.size ≤ ·) (.func (.func fn) #[] caps) (spanV a b) ∧ Rs w' R s j nest deep mb))

set_option maxHeartbeats 2000000 in
theorem rspan_any (R : Nat) (s : ByteArray) (i mb : Nat) (nest deep : Int) (w : World) (hr : Rs w R s i nest deep mb) (hi : i ≤ s.size) (hs : s.size ≤ 80) :
    Calls Tryz.prog 176 #[.pointer (some ⟨R, 0, none⟩)] w fun e w' => ReadS R s nest deep mb (Munch.span s i) w e w' := by
  have h1 := spanByte_any R s i mb nest deep 0 w hr hi hs
  rw [spanByteL_zero] at h1
  have hlt := hr.lt
  go_enter Tryz.func176, Tryz.ntmps176
  go_wp2_with fail
  refine h1.mono ?_
  clear h1
  rintro e w1 ⟨hm1, ⟨p, hres, rfl, hr1⟩ | ⟨v, j, hres, rfl, hr1⟩⟩
  · have HF : Hid (Munch.span s i = .bad p) := by
      show Munch.span s i = .bad p
      rw [span_eq, hres]; rfl
    clear hres
    go_wp2_with fail
    go_ret2
    exact ⟨hm1, Or.inl ⟨p, _, HF.out, rfl, hr1⟩⟩
  · have hb := Munch.spanByte_ok _ _ _ _ hres
    have HE : Hid (Munch.span s i = if Munch.hasAt s j 45 then (spanByteL s (j + 1) v).bind fun y => .ok ((v, y.1), y.2) else .ok ((v, v), j)) := by
      show Munch.span s i = _
      rw [span_eq, hres]; rfl
    have ht := take_any R s j mb nest deep 45 w1 hr1 (by omega) hs
    clear hres
    cases hh : Munch.hasAt s j 45 with
    | false =>
      rw [hh] at ht
      have HF : Hid (Munch.span s i = .ok ((v, v), j)) := by
        show Munch.span s i = _
        rw [HE.out, hh]; rfl
      go_wp2_with fail
      refine ht.mono ?_
      clear ht
      rintro e w2 ⟨rfl, hr2, hm2⟩
      replace hr2 : Rs w2 R s j nest deep mb := by simpa using hr2
      have hsp := span_any v v w2
      go_wp2_with fail
      refine hsp.mono ?_
      clear hsp
      rintro e w3 ⟨f, rfl, hset, hb3⟩
      obtain ⟨fn, caps, rfl⟩ := hset.notAgg
      have HS : Hid (SetOk w3 (w.heap.size ≤ ·) (.func (.func fn) #[] caps) (spanV v v)) := hset.mono (fun x _ hx => by have := (hm1.trans hm2).size; omega)
      clear hset
      go_wp2_with fail
      go_ret2
      exact ⟨(hm1.trans hm2).trans (Moves.of_below hb3), Or.inr ⟨v, v, j, fn, caps, HF.out, rfl, HS.out, hr2.keep hb3⟩⟩
    | true =>
      rw [hh] at ht
      have hjlt := Munch.hasAt_true _ _ _ hh
      have HF : Hid (Munch.span s i = (spanByteL s (j + 1) v).bind fun y => .ok ((v, y.1), y.2)) := by
        show Munch.span s i = _
        rw [HE.out, hh]; rfl
      go_wp2_with fail
      refine ht.mono ?_
      clear ht
      rintro e w2 ⟨rfl, hr2, hm2⟩
      replace hr2 : Rs w2 R s (j + 1) nest deep mb := by simpa using hr2
      have h2 := spanByte_any R s (j + 1) mb nest deep v w2 hr2 (by omega) hs
      go_wp2_with fail
      refine h2.mono ?_
      clear h2
      rintro e w3 ⟨hm3, ⟨p, hres, rfl, hr3⟩ | ⟨v2, j2, hres, rfl, hr3⟩⟩
      · have HG : Hid (Munch.span s i = .bad p) := by
          show Munch.span s i = _
          rw [HF.out, hres]; rfl
        clear hres
        have hsp := span_any v 0 w3
        go_wp2_with fail
        refine hsp.mono ?_
        clear hsp
        rintro e w4 ⟨f, rfl, hset, hb4⟩
        obtain ⟨fn, caps, rfl⟩ := hset.notAgg
        clear hset
        go_wp2_with fail
        go_ret2
        exact ⟨((hm1.trans hm2).trans hm3).trans (Moves.of_below hb4), Or.inl ⟨p, _, HG.out, rfl, hr3.keep hb4⟩⟩
      · have HG : Hid (Munch.span s i = .ok ((v, v2), j2)) := by
          show Munch.span s i = _
          rw [HF.out, hres]; rfl
        clear hres
        have hsp := span_any v v2 w3
        go_wp2_with fail
        refine hsp.mono ?_
        clear hsp
        rintro e w4 ⟨f, rfl, hset, hb4⟩
        obtain ⟨fn, caps, rfl⟩ := hset.notAgg
        have HS : Hid (SetOk w4 (w.heap.size ≤ ·) (.func (.func fn) #[] caps) (spanV v v2)) := hset.mono (fun x _ hx => by have := ((hm1.trans hm2).trans hm3).size; omega)
        clear hset
        go_wp2_with fail
        go_ret2
        exact ⟨((hm1.trans hm2).trans hm3).trans (Moves.of_below hb4), Or.inr ⟨v, v2, j2, fn, caps, HG.out, rfl, HS.out, hr3.keep hb4⟩⟩
end Go.Proofs.YtkoaeojdlanolaaGreatDoor
/-
  THE DEVELOPERS' READER: the map of what may stand behind an atom.
-/
namespace Go.Proofs.YtkoaeojdlanolaaGreatDoor
open Go.RowKit Go.ChangeMaps Go.MapKept

theorem byteKeyed : Go.Maps.Keyed Tryz.prog 5 := Go.Maps.int_keyed Tryz.underlying5
theorem byteKey (c : Nat) (hc : c < 256) : keyOf Tryz.prog 5 (.int .u8 c) = some (.int .u8 c) := Go.Maps.keyOf_int_mk Tryz.underlying5 (below256 (fun n => (Lit.int .u8 (n : Int)).wf) (by decide +kernel) c hc)

def signEs : Array MapEntry := #[⟨.int .u8 42, .func (.func 53) #[] #[], 0⟩, ⟨.int .u8 43, .func (.func 54) #[] #[], 1⟩, ⟨.int .u8 63, .func (.func 55) #[] #[], 2⟩, ⟨.int .u8 123, .func (.func 56) #[] #[], 3⟩]
/-- The map lies at mb. -/
def Signs (w : World) (mb : Nat) : Prop := w.heap[mb]? = some (.map signEs 4)

theorem put_fresh {w : World} {k e t : TypeId} {b : Nat} {es : Array MapEntry} {clock : Nat} (K : Go.Maps.Keyed Tryz.prog k) (ht : Tryz.prog.underlying t = some (.map k e)) (hb : w.heap[b]? = some (.map es clock)) (hks : ∀ x ∈ es.toList, ∃ l, keyOf Tryz.prog k x.key = some l) {key : Value} {kl : Lit} (hkey : keyOf Tryz.prog k key = some kl) (hne : ∀ x ∈ es.toList, x.key ≠ key) (val : Value) :
    (Instr.mapUpdate t (.map (some b)) key val).run Tryz.prog w = .ok () (setBlock w b (.map (es.push ⟨key, val, clock⟩) (clock + 1))) := by
  rcases K.find w hkey es.toList hks with ⟨h1, h2⟩ | ⟨j, e0, h1, h2, h3⟩
  · simp [Instr.mapUpdate, run_underlying ht, MapKept.run_getObj_map hb, K.check w false hkey, h1, MapKept.run_setObj_map _ hb, Result.andThen, setBlock]
  · exact absurd h3 (hne e0 (List.mem_of_getElem? h2))
theorem look_none {w : World} {k e t : TypeId} {b : Nat} {es : Array MapEntry} {clock : Nat} (K : Go.Maps.Keyed Tryz.prog k) (ht : Tryz.prog.underlying t = some (.map k e)) {z : Value} (hz : (zeroValue e).run Tryz.prog w = .ok z w) (hb : w.heap[b]? = some (.map es clock)) (hks : ∀ x ∈ es.toList, ∃ l, keyOf Tryz.prog k x.key = some l) {key : Value} {kl : Lit} (hkey : keyOf Tryz.prog k key = some kl) (hne : ∀ x ∈ es.toList, x.key ≠ key) :
    (Instr.lookup t (.map (some b)) key true).run Tryz.prog w = .ok (.tuple #[z, .bool false]) w := by
  rcases K.find w hkey es.toList hks with ⟨h1, h2⟩ | ⟨j, e0, h1, h2, h3⟩
  · simp [Instr.lookup, run_underlying ht, MapKept.run_getObj_map hb, K.check w _ hkey, h1, hz, Result.andThen]
  · exact absurd h3 (hne e0 (List.mem_of_getElem? h2))
theorem look_some {w : World} {k e t : TypeId} {b : Nat} {es : Array MapEntry} {clock : Nat} (K : Go.Maps.Keyed Tryz.prog k) (ht : Tryz.prog.underlying t = some (.map k e)) {z : Value} (_hz : (zeroValue e).run Tryz.prog w = .ok z w) (hb : w.heap[b]? = some (.map es clock)) (hks : ∀ x ∈ es.toList, ∃ l, keyOf Tryz.prog k x.key = some l) {key : Value} {kl : Lit} (hkey : keyOf Tryz.prog k key = some kl) {val : Value} (hone : ∀ x ∈ es.toList, x.key = key → x.val = val) (hin : ∃ x ∈ es.toList, x.key = key) :
    (Instr.lookup t (.map (some b)) key true).run Tryz.prog w = .ok (.tuple #[val, .bool true]) w := by
  rcases K.find w hkey es.toList hks with ⟨h1, h2⟩ | ⟨j, e0, h1, h2, h3⟩
  · obtain ⟨x, hx, hk⟩ := hin
    exact absurd hk (h2 x hx)
  · have := hone e0 (List.mem_of_getElem? h2) h3
    simp [Instr.lookup, run_underlying ht, MapKept.run_getObj_map hb, K.check w _ hkey, h1, Result.andThen, this]

theorem zeroSign (w : World) : (zeroValue 108).run Tryz.prog w = .ok .nilFunc w := by kernel_rfl
theorem sign_keys (es : Array MapEntry) (h : es.toList = signEs.toList ∨ es.toList = signEs.toList.take 3 ∨ es.toList = signEs.toList.take 2 ∨ es.toList = signEs.toList.take 1 ∨ es.toList = []) : ∀ x ∈ es.toList, ∃ l, keyOf Tryz.prog 5 x.key = some l := by
  have hall : ∀ x ∈ signEs.toList, ∃ l, keyOf Tryz.prog 5 x.key = some l := by
    intro x hx
    simp [signEs] at hx
    rcases hx with rfl | rfl | rfl | rfl
    · exact ⟨_, byteKey 42 (by omega)⟩
    · exact ⟨_, byteKey 43 (by omega)⟩
    · exact ⟨_, byteKey 63 (by omega)⟩
    · exact ⟨_, byteKey 123 (by omega)⟩
  intro x hx
  rcases h with h | h | h | h | h <;> rw [h] at hx
  · exact hall x hx
  · exact hall x (List.mem_of_mem_take hx)
  · exact hall x (List.mem_of_mem_take hx)
  · exact hall x (List.mem_of_mem_take hx)
  · cases hx

/-- What is read by the sign c. -/
def signV (c : Nat) : Value := if c = 42 then .tuple #[.func (.func 53) #[] #[], .bool true] else if c = 43 then .tuple #[.func (.func 54) #[] #[], .bool true] else if c = 63 then .tuple #[.func (.func 55) #[] #[], .bool true] else if c = 123 then .tuple #[.func (.func 56) #[] #[], .bool true] else .tuple #[.nilFunc, .bool false]
theorem sign_look (w : World) (mb c : Nat) (h : Signs w mb) (hc : c < 256) : (Instr.lookup 77 (.map (some mb)) (.int .u8 c) true).run Tryz.prog w = .ok (signV c) w := by
  have hks := sign_keys signEs (Or.inl rfl)
  have hit : ∀ (n : Nat) (v : Value), n = 42 ∨ n = 43 ∨ n = 63 ∨ n = 123 → signV n = .tuple #[v, .bool true] → (∀ x ∈ signEs.toList, x.key = .int .u8 n → x.val = v) → c = n → (Instr.lookup 77 (.map (some mb)) (.int .u8 c) true).run Tryz.prog w = .ok (signV c) w := by
    intro n v hn hs hone hcn
    subst hcn
    rw [hs]
    exact look_some byteKeyed Tryz.underlying77 (zeroSign w) h hks (byteKey c hc) hone (by rcases hn with rfl | rfl | rfl | rfl <;> simp [signEs])
  by_cases h1 : c = 42
  · exact hit 42 (.func (.func 53) #[] #[]) (by simp) rfl (by intro x hx hk; simp [signEs] at hx; rcases hx with rfl | rfl | rfl | rfl <;> simp_all) h1
  · by_cases h2 : c = 43
    · exact hit 43 (.func (.func 54) #[] #[]) (by simp) rfl (by intro x hx hk; simp [signEs] at hx; rcases hx with rfl | rfl | rfl | rfl <;> simp_all) h2
    · by_cases h3 : c = 63
      · exact hit 63 (.func (.func 55) #[] #[]) (by simp) rfl (by intro x hx hk; simp [signEs] at hx; rcases hx with rfl | rfl | rfl | rfl <;> simp_all) h3
      · by_cases h4 : c = 123
        · exact hit 123 (.func (.func 56) #[] #[]) (by simp) rfl (by intro x hx hk; simp [signEs] at hx; rcases hx with rfl | rfl | rfl | rfl <;> simp_all) h4
        · have : signV c = .tuple #[.nilFunc, .bool false] := by simp [signV, h1, h2, h3, h4]
          rw [this]
          refine look_none byteKeyed Tryz.underlying77 (zeroSign w) h hks (byteKey c hc) ?_
          intro x hx hk
          simp [signEs] at hx
          rcases hx with rfl | rfl | rfl | rfl <;> simp at hk <;> omega

set_option maxHeartbeats 2000000 in
set_option maxRecDepth 100000 in
theorem behindAtom_any (w : World) :
    Calls Tryz.prog 26 #[] w fun e w' => ∃ mb, e = .returned (.map (some mb)) ∧ Signs w' mb ∧ w.heap.size ≤ mb ∧ Below w.heap.size w w' := by
  have hmm := @run_makeMap Tryz.prog
  obtain ⟨W0, hW0⟩ : ∃ W0, W0 = w.alloc (.map #[] 0) := ⟨_, rfl⟩
  have hb0 : Below w.heap.size w W0 := by rw [hW0]; exact below_box w _
  have m0 : W0.heap[w.heap.size]? = some (.map #[] 0) := by rw [hW0]; exact (MapKept.heap_alloc w _).1
  obtain ⟨W1, hW1⟩ : ∃ W1, W1 = setBlock W0 w.heap.size (.map ((#[] : Array MapEntry).push ⟨.int .u8 42, .func (.func 53) #[] #[], 0⟩) 1) := ⟨_, rfl⟩
  have p1 : (Instr.mapUpdate 77 (.map (some w.heap.size)) (.int .u8 42) (.func (.func 53) #[] #[])).run Tryz.prog W0 = .ok () W1 := by
    rw [hW1]
    exact put_fresh byteKeyed Tryz.underlying77 m0 (sign_keys _ (by simp [signEs])) (byteKey 42 (by omega)) (by simp) _
  have m1 : W1.heap[w.heap.size]? = some (.map ((#[] : Array MapEntry).push ⟨.int .u8 42, .func (.func 53) #[] #[], 0⟩) 1) := by rw [hW1]; exact heap_setBlock_same m0 _
  have hb1 : Below w.heap.size w W1 := by
    rw [hW1]
    exact ⟨hb0.os, hb0.tape, hb0.output, by simp [setBlock]; exact hb0.size, fun x hx => (heap_setBlock_other m0 _ (by omega)).trans (hb0.block x hx)⟩
  obtain ⟨W2, hW2⟩ : ∃ W2, W2 = setBlock W1 w.heap.size (.map (((#[] : Array MapEntry).push ⟨.int .u8 42, .func (.func 53) #[] #[], 0⟩).push ⟨.int .u8 43, .func (.func 54) #[] #[], 1⟩) 2) := ⟨_, rfl⟩
  have p2 : (Instr.mapUpdate 77 (.map (some w.heap.size)) (.int .u8 43) (.func (.func 54) #[] #[])).run Tryz.prog W1 = .ok () W2 := by
    rw [hW2]
    exact put_fresh byteKeyed Tryz.underlying77 m1 (sign_keys _ (by simp [signEs])) (byteKey 43 (by omega)) (by simp) _
  have m2 : W2.heap[w.heap.size]? = some (.map (((#[] : Array MapEntry).push ⟨.int .u8 42, .func (.func 53) #[] #[], 0⟩).push ⟨.int .u8 43, .func (.func 54) #[] #[], 1⟩) 2) := by rw [hW2]; exact heap_setBlock_same m1 _
  have hb2 : Below w.heap.size w W2 := by
    rw [hW2]
    exact ⟨hb1.os, hb1.tape, hb1.output, by simp [setBlock]; exact hb1.size, fun x hx => (heap_setBlock_other m1 _ (by omega)).trans (hb1.block x hx)⟩
  obtain ⟨W3, hW3⟩ : ∃ W3, W3 = setBlock W2 w.heap.size (.map ((((#[] : Array MapEntry).push ⟨.int .u8 42, .func (.func 53) #[] #[], 0⟩).push ⟨.int .u8 43, .func (.func 54) #[] #[], 1⟩).push ⟨.int .u8 63, .func (.func 55) #[] #[], 2⟩) 3) := ⟨_, rfl⟩
  have p3 : (Instr.mapUpdate 77 (.map (some w.heap.size)) (.int .u8 63) (.func (.func 55) #[] #[])).run Tryz.prog W2 = .ok () W3 := by
    rw [hW3]
    exact put_fresh byteKeyed Tryz.underlying77 m2 (sign_keys _ (by simp [signEs])) (byteKey 63 (by omega)) (by simp) _
  have m3 : W3.heap[w.heap.size]? = some (.map ((((#[] : Array MapEntry).push ⟨.int .u8 42, .func (.func 53) #[] #[], 0⟩).push ⟨.int .u8 43, .func (.func 54) #[] #[], 1⟩).push ⟨.int .u8 63, .func (.func 55) #[] #[], 2⟩) 3) := by rw [hW3]; exact heap_setBlock_same m2 _
  have hb3 : Below w.heap.size w W3 := by
    rw [hW3]
    exact ⟨hb2.os, hb2.tape, hb2.output, by simp [setBlock]; exact hb2.size, fun x hx => (heap_setBlock_other m2 _ (by omega)).trans (hb2.block x hx)⟩
  obtain ⟨W4, hW4⟩ : ∃ W4, W4 = setBlock W3 w.heap.size (.map (((((#[] : Array MapEntry).push ⟨.int .u8 42, .func (.func 53) #[] #[], 0⟩).push ⟨.int .u8 43, .func (.func 54) #[] #[], 1⟩).push ⟨.int .u8 63, .func (.func 55) #[] #[], 2⟩).push ⟨.int .u8 123, .func (.func 56) #[] #[], 3⟩) 4) := ⟨_, rfl⟩
  have p4 : (Instr.mapUpdate 77 (.map (some w.heap.size)) (.int .u8 123) (.func (.func 56) #[] #[])).run Tryz.prog W3 = .ok () W4 := by
    rw [hW4]
    exact put_fresh byteKeyed Tryz.underlying77 m3 (sign_keys _ (by simp [signEs])) (byteKey 123 (by omega)) (by simp) _
  have m4 : W4.heap[w.heap.size]? = some (.map (((((#[] : Array MapEntry).push ⟨.int .u8 42, .func (.func 53) #[] #[], 0⟩).push ⟨.int .u8 43, .func (.func 54) #[] #[], 1⟩).push ⟨.int .u8 63, .func (.func 55) #[] #[], 2⟩).push ⟨.int .u8 123, .func (.func 56) #[] #[], 3⟩) 4) := by rw [hW4]; exact heap_setBlock_same m3 _
  have hb4 : Below w.heap.size w W4 := by
    rw [hW4]
    exact ⟨hb3.os, hb3.tape, hb3.output, by simp [setBlock]; exact hb3.size, fun x hx => (heap_setBlock_other m3 _ (by omega)).trans (hb3.block x hx)⟩
  clear hW1 hW2 hW3 hW4 m0 m1 m2 m3 hb0 hb1 hb2 hb3
  have HM : Hid (Signs W4 w.heap.size) := m4
  clear m4
  rw [hW0] at p1
  clear hW0
  go_enter Tryz.func26, Tryz.ntmps26
  go_wp2_with fail
  go_ret
  exact ⟨w.heap.size, rfl, HM.out, Nat.le_refl _, hb4⟩
end Go.Proofs.YtkoaeojdlanolaaGreatDoor
