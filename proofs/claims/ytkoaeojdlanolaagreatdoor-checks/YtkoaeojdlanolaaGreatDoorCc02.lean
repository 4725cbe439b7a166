import Derived.Test.YtkoaeojdlanolaaGreatDoorCc01
import Derived.Laws.IdiomStrings
/-
  set.Lay.
-/
namespace Go.Proofs.YtkoaeojdlanolaaGreatDoor
open Go.RowKit

def boolCells (f : Nat → Bool) : Array Value := Array.ofFn (n := 256) fun c => .bool (f c.val)
theorem boolCells_size (f : Nat → Bool) : (boolCells f).size = 256 := by simp [boolCells]
theorem boolCells_at (f : Nat → Bool) (c : Nat) (h : c < 256) : (boolCells f)[c]? = some (.bool (f c)) := by simp [boolCells, h]
theorem boolCells_set (f : Nat → Bool) (c : Nat) (b : Bool) : (boolCells f).setIfInBounds c (.bool b) = boolCells (fun x => if x = c then b else f x) := by
  apply Array.ext
  · simp [boolCells_size]
  · intro i h1 h2
    have hi : i < 256 := by simpa [boolCells_size] using h1
    rw [Array.getElem_setIfInBounds]
    · by_cases h : c = i
      · subst h; simp [boolCells]
      · rw [if_neg h]; simp [boolCells, Ne.symm h]
    · simpa [boolCells_size] using hi
theorem boolCells_congr {f g : Nat → Bool} (h : ∀ c, c < 256 → f c = g c) : boolCells f = boolCells g := by
  apply Array.ext
  · simp [boolCells_size]
  · intro i h1 h2
    have hi : i < 256 := by simpa [boolCells_size] using h1
    simp [boolCells, h i hi]
theorem boolCells_zero : Tryz.zeroCells234 = boolCells fun _ => false := by kernel_rfl

theorem enters_lay : Enters 147 := enters_of Tryz.func147 (by kernel_rfl) (by kernel_rfl)

set_option maxHeartbeats 1000000 in
set_option maxRecDepth 100000 in
theorem lay_call (c g : Nat) (S : Nat → Bool) (w : World) (hc : c < 256) (hb : Blk w g 234 (boolCells S)) :
    Calls Tryz.prog 147 #[.int .u8 c, .pointer (some ⟨g, 0, none⟩)] w fun e w' => e = .returned (.bool (S c)) ∧ Below w.heap.size w w' := by
  have hcell := (hb.cell c).trans (boolCells_at S c hc)
  go_enter Tryz.func147, Tryz.ntmps147
  go_wp2_with fail
  go_ret
  exact ⟨rfl, Below.refl _ _⟩

set_option maxHeartbeats 2000000 in
set_option maxRecDepth 100000 in
theorem layOf_any (v : Value) (S : Nat → Bool) (w : World) (ok : Nat → Prop) (hS : SetOk w ok v S) :
    Calls Tryz.prog 123 #[v] w fun e w' => ∃ v', e = .returned v' ∧ SetOk w' (w.heap.size ≤ ·) v' S ∧ Below w.heap.size w w' := by
  obtain ⟨f, caps, rfl, hent, hcall⟩ := hS
  have HC : Hid _ := hcall; clear hcall
  have hz := boolCells_zero
  go_enter Tryz.func123, Tryz.ntmps123
  go_wp2_with fail
  go_loopw [5] (fun i wr => ∃ k : Nat, k ≤ 256 ∧ i = .int .i64 k ∧ Blk wr w.heap.size 234 (boolCells fun x => decide (x < k) && S x) ∧ Below w.heap.size w wr) (fun i _ => 256 - (intOf i).toNat)
  case atStart =>
    refine ⟨0, by omega, rfl, ?_, (Below.refl _ _).alloc (Nat.le_refl _) _⟩
    rw [boolCells_congr (g := fun _ => false) (fun x _ => by simp)]
    exact Blk.new _ _ _
  case round =>
    obtain ⟨k, hk, rfl, hblk, hnx⟩ := hrel
    by_cases hlt : k < 256
    · have hsz := hnx.size
      have hgl := hblk.lt
      have hcl := HC.out k wr hlt (keeps_below hnx)
      have hwr : IntKind.u8.wrap (k : Int) = (k : Int) := by rw [IntKind.wrap_u8]; omega
      go_wp2_with fail
      rw [hent, Oper.upon_enter]
      refine hcl.mono ?_
      rintro e w1 ⟨rfl, hb1⟩
      clear hcl
      have hblk1 := hblk.below hb1 hgl
      have q1 := (hblk1.cell k).trans (boolCells_at _ k hlt)
      have q2 := hblk1.frozen k
      have hb2 := hblk1.set k (.bool (S k))
      rw [boolCells_set, boolCells_congr (g := fun x => decide (x < k + 1) && S x) (fun x _ => by
        by_cases hx : x = k
        · subst hx; simp
        · rw [if_neg hx]; congr 1; simp; omega)] at hb2
      have HB : Hid _ := hb2; clear hb2
      go_wp2_with fail
      go_roundw
      case rel => exact ⟨k + 1, by omega, by go_num, HB.out, (hnx.trans (hb1.mono hsz)).setCell (by simp) _⟩
      case measure => simp [intOf]; omega
    · obtain rfl : k = 256 := by omega
      have hfin : Blk wr w.heap.size 234 (boolCells S) := by
        rw [boolCells_congr (g := S) (fun x hx => by simp [hx])] at hblk; exact hblk
      go_wp2_with fail
      go_ret
      refine ⟨_, rfl, ⟨147, #[.pointer (some ⟨w.heap.size, 0, none⟩)], rfl, enters_lay, ?_⟩, hnx⟩
      intro c w' hc hw'
      exact lay_call c _ S w' hc (blk_keeps hfin hw' (Nat.le_refl _))
end Go.Proofs.YtkoaeojdlanolaaGreatDoor
/-
  set.hex: a byte in base 16.
-/
namespace Go.Proofs.YtkoaeojdlanolaaGreatDoor
open Go.RowKit

def hexDigit (k : Nat) : Nat := if k < 10 then 48 + k else 87 + k

/-- What the walks ask of the library's tables. -/
structure Laid (w : World) : Prop where
  tz : w.cell? ⟨3, 15, none⟩ = some (.int .u8 4)

theorem cell_lt {w : World} {b i : Nat} {v : Value} (h : w.cell? ⟨b, i, none⟩ = some v) : b < w.heap.size := by
  rcases Nat.lt_or_ge b w.heap.size with hb | hb
  · exact hb
  · exfalso
    have : w.heap[b]? = none := by simp [hb]
    simp [World.cell?, this] at h

theorem Laid.keep {w w' : World} (h : Laid w) (hb : Below w.heap.size w w') : Laid w' :=
  ⟨by rw [hb.cell (p := ⟨3, 15, none⟩) (cell_lt h.tz)]; exact h.tz⟩

set_option maxHeartbeats 1000000 in
set_option maxRecDepth 100000 in
theorem trail16 (w : World) (h : Laid w) : Calls Tryz.prog 174 #[.int .u64 16] w fun e w' => e = .returned (.int .i64 4) ∧ w' = w := by
  have ht := h.tz
  have h1 : bits BinOp.and IntKind.u64 16 (IntKind.u64.wrap (-16)) = 16 := by kernel_rfl
  have h2 : IntKind.u64.wrap (16 * 285870213051353865) = 4573923408821661840 := by kernel_rfl
  go_enter Tryz.func174, Tryz.ntmps174
  go_wp2
  go_ret
  exact ⟨rfl, rfl⟩

theorem below256 (p : Nat → Bool) (h : (List.range 256).all p = true) (n : Nat) (hn : n < 256) : p n = true := List.all_eq_true.1 h n (List.mem_range.2 hn)
theorem and15 (n : Nat) (hn : n < 256) : bits BinOp.and IntKind.u64 (n : Int) 15 = ((n % 16 : Nat) : Int) :=
  of_decide_eq_true (below256 (fun n => decide (bits BinOp.and IntKind.u64 (n : Int) 15 = ((n % 16 : Nat) : Int))) (by decide +kernel) n hn)
abbrev digitsBA : ByteArray := ⟨#[48, 49, 50, 51, 52, 53, 54, 55, 56, 57, 97, 98, 99, 100, 101, 102, 103, 104, 105, 106, 107, 108, 109, 110, 111, 112, 113, 114, 115, 116, 117, 118, 119, 120, 121, 122]⟩
theorem digit_at (k : Nat) (h : k < digitsBA.size) (hk : k < 16) : digitsBA[k].toNat = hexDigit k := by
  have := of_decide_eq_true (below256 (fun k => decide (k < 16 → (digitsBA.data.toList.getD k 0).toNat = hexDigit k)) (by decide +kernel) k (by omega)) hk
  rw [← this, List.getD_eq_getElem?_getD, List.getElem?_eq_getElem (show k < digitsBA.data.toList.length from h)]; rfl

theorem zero65 : Tryz.zeroCells251.size = 65 := by kernel_rfl
theorem conv1 (W : World) (g o cap : Nat) (x : UInt8) (h : W.cell? ⟨g, o, none⟩ = some (.int .u8 (x.toNat : Int))) :
    (convert 189 9 (.slice (some ⟨g, o, none⟩) 1 cap)).run Tryz.prog W = .ok (.string ⟨#[x]⟩) W :=
  run_convert_bytes_back W 189 9 5 ⟨g, o, none⟩ cap [x] Tryz.underlying189 Tryz.underlying5 Tryz.underlying9 (fun j hj => by
    obtain rfl : j = 0 := by simpa using hj
    simpa [Addr.add] using h)
theorem conv2 (W : World) (g o cap : Nat) (x y : UInt8) (h : W.cell? ⟨g, o, none⟩ = some (.int .u8 (x.toNat : Int))) (h' : W.cell? ⟨g, o + 1, none⟩ = some (.int .u8 (y.toNat : Int))) :
    (convert 189 9 (.slice (some ⟨g, o, none⟩) 2 cap)).run Tryz.prog W = .ok (.string ⟨#[x, y]⟩) W :=
  run_convert_bytes_back W 189 9 5 ⟨g, o, none⟩ cap [x, y] Tryz.underlying189 Tryz.underlying5 Tryz.underlying9 (fun j hj => by
    have : j = 0 ∨ j = 1 := by simp at hj; omega
    rcases this with rfl | rfl
    · simpa [Addr.add] using h
    · simpa [Addr.add] using h')
theorem hexDigit_u8 (k : Nat) (hk : k < 16) : ((UInt8.ofNat (hexDigit k)).toNat : Int) = (hexDigit k : Nat) := by
  have := of_decide_eq_true (below256 (fun k => decide (k < 16 → ((UInt8.ofNat (hexDigit k)).toNat : Int) = (hexDigit k : Nat))) (by decide +kernel) k (by omega)) hk
  exact this

/-- A byte in base 16. -/
def hexText (n : Nat) : List UInt8 := if n < 16 then [UInt8.ofNat (hexDigit n)] else [UInt8.ofNat (hexDigit (n / 16)), UInt8.ofNat (hexDigit (n % 16))]

set_option maxHeartbeats 2000000 in
set_option maxRecDepth 100000 in
theorem bits16 (n : Nat) (hn : n < 256) (w : World) (h : Laid w) : Calls Tryz.prog 157 #[.slice none 0 0, .int .u64 n, .int .i64 16, .bool false, .bool false] w fun e w' => e = .returned (.tuple #[.slice none 0 0, .string ⟨(hexText n).toArray⟩]) ∧ Below w.heap.size w w' := by
  have hand := and15 n hn
  go_enter Tryz.func157, Tryz.ntmps157
  go_wp2_with (first | (go_at_call 173; go_in) | (go_at_call 174; refine (trail16 _ (h.keep ((Below.refl _ _).alloc (Nat.le_refl _) _))).mono ?_; rintro e w' ⟨rfl, rfl⟩))
  go_loopw [1, 13] (fun u i wr => (u = .int .u64 n ∧ i = .int .i64 65 ∧ Blk wr w.heap.size 251 Tryz.zeroCells251 ∧ Below w.heap.size w wr) ∨
     (16 ≤ n ∧ u = .int .u64 (n / 16 : Nat) ∧ i = .int .i64 64 ∧ Blk wr w.heap.size 251 (Tryz.zeroCells251.setIfInBounds 64 (.int .u8 (hexDigit (n % 16)))) ∧ Below w.heap.size w wr)) (fun u _ _ => (intOf u).toNat)
  case atStart => exact Or.inl ⟨rfl, rfl, Blk.new _ _ _, (Below.refl _ _).alloc (Nat.le_refl _) _⟩
  case round =>
    rcases hrel with ⟨rfl, rfl, hblk, hnx⟩ | ⟨h16, rfl, rfl, hblk, hnx⟩
    · by_cases h16 : 16 ≤ n
      · have h16' : (16 : Int) ≤ n := by omega
        have hm16 : n % 16 < 16 := by omega
        have q1 : wr.cell? ⟨w.heap.size, 64, none⟩ = some (.int .u8 0) := (hblk.cell 64).trans (by kernel_rfl)
        have q2 := hblk.frozen 64
        have hset := hblk.set 64 (.int .u8 (hexDigit (n % 16)))
        rw [← digit_at (n % 16) (by show n % 16 < 36; omega) hm16] at hset
        have HSET : Hid _ := hset; clear hset
        have HDV : Hid (((n : Int) / 16) = ((n / 16 : Nat) : Int)) := by show _ = _; omega
        go_wp2_with fail
        go_roundw
        case rel =>
          refine Or.inr ⟨h16, by rw [HDV.out], rfl, ?_, hnx.setCell (by simp) _⟩
          rw [← digit_at (n % 16) (by show n % 16 < 36; omega) hm16]
          exact HSET.out
        case measure => simp [intOf]; omega
      · have h16' : (n : Int) < 16 := by omega
        have hn16 : n < 16 := by omega
        have q1 : wr.cell? ⟨w.heap.size, 64, none⟩ = some (.int .u8 0) := (hblk.cell 64).trans (by kernel_rfl)
        have q2 := hblk.frozen 64
        have h36 : n < digitsBA.size := by show n < 36; omega
        have hd := digit_at n h36 hn16
        have hcell : (wr.setCell ⟨w.heap.size, 64, none⟩ (.int .u8 ((digitsBA[n]'h36).toNat : Int))).cell? ⟨w.heap.size, 64, none⟩ = some (.int .u8 ((UInt8.ofNat (hexDigit n)).toNat : Int)) := by
          have := (hblk.set 64 (.int .u8 ((digitsBA[n]'h36).toNat : Int))).cell 64
          rw [this, hexDigit_u8 n hn16, hd]
          simp
        have hcv := conv1 _ w.heap.size 64 1 _ hcell
        have HT : Hid (hexText n = [UInt8.ofNat (hexDigit n)]) := by show _ = _; rw [hexText, if_pos hn16]
        clear hd hcell
        go_wp2_with fail
        go_ret2
        exact ⟨by rw [HT.out]; rfl, hnx.setCell (by simp) _⟩
    · have h16' : ((n / 16 : Nat) : Int) < 16 := by omega
      have hn16 : n / 16 < 16 := by omega
      have hm16 : n % 16 < 16 := by omega
      have h36 : n / 16 < digitsBA.size := by show n / 16 < 36; omega
      have q1 : wr.cell? ⟨w.heap.size, 63, none⟩ = some (.int .u8 0) := by rw [hblk.cell 63]; simp; kernel_rfl
      have q2 := hblk.frozen 63
      have hd := digit_at (n / 16) h36 hn16
      have hset := hblk.set 63 (.int .u8 ((digitsBA[n / 16]'h36).toNat : Int))
      have hcell : (wr.setCell ⟨w.heap.size, 63, none⟩ (.int .u8 ((digitsBA[n / 16]'h36).toNat : Int))).cell? ⟨w.heap.size, 63, none⟩ = some (.int .u8 ((UInt8.ofNat (hexDigit (n / 16))).toNat : Int)) := by
        have := hset.cell 63
        rw [this, hexDigit_u8 _ hn16, hd]
        simp
      have hcell2 : (wr.setCell ⟨w.heap.size, 63, none⟩ (.int .u8 ((digitsBA[n / 16]'h36).toNat : Int))).cell? ⟨w.heap.size, 63 + 1, none⟩ = some (.int .u8 ((UInt8.ofNat (hexDigit (n % 16))).toNat : Int)) := by
        have := hset.cell 64
        rw [this, hexDigit_u8 _ hm16]
        simp
      have hcv := conv2 _ w.heap.size 63 2 _ _ hcell hcell2
      have HT : Hid (hexText n = [UInt8.ofNat (hexDigit (n / 16)), UInt8.ofNat (hexDigit (n % 16))]) := by show _ = _; rw [hexText, if_neg (by omega)]
      clear hd hcell hcell2 hset hand
      go_wp2_with fail
      go_ret2
      exact ⟨by rw [HT.out]; rfl, hnx.setCell (by simp) _⟩

set_option maxHeartbeats 1000000 in
set_option maxRecDepth 100000 in
theorem hex_any (n : Nat) (hn : n < 256) (w : World) (h : Laid w) : Calls Tryz.prog 148 #[.int .i64 n] w fun e w' => e = .returned (.string ⟨(hexText n).toArray⟩) ∧ Below w.heap.size w w' := by
  have hb := bits16 n hn w h
  have hwr : IntKind.u64.wrap (n : Int) = n := by rw [IntKind.wrap_u64]; omega
  go_enter Tryz.func148, Tryz.ntmps148
  go_wp2_with (first | (go_at_call 169; go_in) | (go_at_call 132; go_in) | (go_at_call 157; refine hb.mono ?_; rintro e w1 ⟨rfl, hb1⟩))
  go_ret
  exact ⟨rfl, hb1⟩
end Go.Proofs.YtkoaeojdlanolaaGreatDoor
