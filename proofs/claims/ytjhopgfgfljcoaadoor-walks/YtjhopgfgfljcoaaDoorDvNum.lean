/-
  THE WALKS of table.readNumber, table.readTag.
-/
import Derived.Test.YtjhopgfgfljcoaaDoorTabWalk
import Derived.Test.YtjhopgfgfljcoaaDoorShelf
namespace Go.Proofs.YtjhopgfgfljcoaaDoor
open Go.RowKit

/-- A table of signs: where a sign stands in it is its worth. -/
structure Signs (z : ByteArray) (b : Int) : Prop where
  size : (z.size : Int) = b
  two : 2 ≤ b
  many : b ≤ 16
  at_ : ∀ c : UInt8, Lib.indexByte z.data.toList c = if Munch.hexV c < 0 ∨ b ≤ Munch.hexV c then -1 else Munch.hexV c

def hexSigns : ByteArray := ⟨#[48, 49, 50, 51, 52, 53, 54, 55, 56, 57, 97, 98, 99, 100, 101, 102]⟩
def digitSigns : ByteArray := ⟨#[48, 49, 50, 51, 52, 53, 54, 55, 56, 57]⟩

theorem all256 (p : UInt8 → Bool) (h : (List.range 256).all (fun n => p (UInt8.ofNat n)) = true) : ∀ c : UInt8, p c = true := by
  intro c
  have := List.all_eq_true.1 h c.toNat (List.mem_range.2 c.toNat_lt)
  simpa using this
theorem hexIs : Signs hexSigns 16 := ⟨rfl, by decide, by decide, fun c => by
  have := all256 (fun c => decide (Lib.indexByte hexSigns.data.toList c = if Munch.hexV c < 0 ∨ 16 ≤ Munch.hexV c then -1 else Munch.hexV c)) (by decide +kernel) c
  exact of_decide_eq_true this⟩
theorem digitIs : Signs digitSigns 10 := ⟨rfl, by decide, by decide, fun c => by
  have := all256 (fun c => decide (Lib.indexByte digitSigns.data.toList c = if Munch.hexV c < 0 ∨ 10 ≤ Munch.hexV c then -1 else Munch.hexV c)) (by decide +kernel) c
  exact of_decide_eq_true this⟩

/-- What readNumber answers, by the worth of the signs. -/
def numPair (v : Int) : Value := if 0 ≤ v then .tuple #[.int .i64 v, .bool true] else .tuple #[.int .i64 0, .bool false]

theorem u8nat (c : UInt8) : ((c.toNat : Int)).toNat.toUInt8 = c := by simp

set_option maxHeartbeats 1000000 in
theorem readNumber_any (s z : ByteArray) (b : Int) (w : World) (hz : Signs z b) (hs : s.size ≤ 4) :
    Calls Tryd.prog 31 #[.string s, .string z] w fun e w' => e = .returned (numPair (Munch.numV b 0 s.data.toList s.size)) ∧ w' = w := by
  obtain ⟨hzs, hb2, hb16, hat⟩ := hz
  have HAT : Hid _ := hat; clear hat
  go_enter Tryd.func31, Tryd.ntmps31
  go_wp2_with fail
  go_loop [6, 11] (fun v k => ∃ (j : Nat) (x : Int), j ≤ s.size ∧ 0 ≤ x ∧ x < 16 ^ j ∧ v = .int .i64 x ∧ k = .int .i64 (j : Nat) ∧ Munch.numV b x (s.data.toList.drop j) (s.size - j) = Munch.numV b 0 s.data.toList s.size) (fun _ k => s.size - (intOf k).toNat)
  case atStart => exact ⟨0, 0, Nat.zero_le _, Int.le_refl _, by decide, rfl, rfl, rfl⟩
  case round =>
    obtain ⟨j, x, hj, hx0, hx1, rfl, rfl, hN⟩ := hrel
    have H : Hid _ := hN; clear hN
    have hp := pow_le j (by omega)
    by_cases hlt : j < s.size
    · have e1 : s.size - j = (s.size - j - 1) + 1 := by omega
      have E1 : Hid _ := e1; clear e1
      have hr := Munch.hexV_range s[j]
      have hix := HAT.out s[j]
      have hm0 : 0 ≤ x * b := Int.mul_nonneg hx0 (by omega)
      have hm1 : x * b ≤ x * 16 := Int.mul_le_mul_of_nonneg_left hb16 hx0
      by_cases hb : Munch.hexV s[j] < 0 ∨ b ≤ Munch.hexV s[j]
      · rw [if_pos hb] at hix
        have hbad := Munch.numV_bad b x s[j] (s.data.toList.drop (j + 1)) (s.size - j - 1) hb
        have HB : Hid _ := hbad
        clear hbad hb
        go_wp2_with (go_at_call 36; refine (Tryd.strings_IndexByte _ _ _).mono ?_; rw [u8nat, hix]; rintro e w' ⟨rfl, rfl⟩)
        go_ret2
        exact ⟨by rw [← H.out, E1.out, Munch.drop_cons s _ hlt, HB.out]; rfl, rfl⟩
      · rw [if_neg hb] at hix
        have hgood := Munch.numV_good b x s[j] (s.data.toList.drop (j + 1)) (s.size - j - 1) (by omega) (by omega)
        have HB : Hid _ := hgood
        have hpl := pow_lt b x (Munch.hexV s[j]) j hb2 hb16 hx0 hx1 (by omega)
        have h0 : 0 ≤ Munch.hexV s[j] := by omega
        have hcm : b * x = x * b := Int.mul_comm b x
        rw [hcm] at hpl
        clear hgood hb
        go_wp2_with (go_at_call 36; refine (Tryd.strings_IndexByte _ _ _).mono ?_; rw [u8nat, hix]; rintro e w' ⟨rfl, rfl⟩)
        go_round
        case rel => exact ⟨j + 1, x * b + Munch.hexV s[j], by omega, by omega, hpl, by go_num, by go_num, by rw [← H.out, E1.out, Munch.drop_cons s _ hlt, HB.out, hcm]; rfl⟩
        case measure => simp [intOf]; omega
    · obtain rfl : j = s.size := by omega
      go_wp2_with fail
      go_ret2
      refine ⟨?_, rfl⟩
      rw [Nat.sub_self, Munch.numV_done] at H
      have hn : numPair (Munch.numV b 0 s.data.toList s.size) = .tuple #[.int .i64 x, .bool true] := by rw [← H.out, numPair, if_pos hx0]
      rw [hn]; rfl

/-- What readTag answers. -/
def tagPair (c : UInt8) : Value := if Munch.badTag c then .tuple #[.int .i64 0, .bool false] else .tuple #[.int .i64 (Munch.tagV c), .bool true]

set_option maxHeartbeats 1000000 in
theorem readTag_any (c : UInt8) (w : World) :
    Calls Tryd.prog 25 #[.int .u8 c.toNat] w fun e w' => e = .returned (tagPair c) ∧ w' = w := by
  have hc : c.toNat < 256 := c.toNat_lt
  by_cases h45 : c.toNat = 45
  · have ht : tagPair c = .tuple #[.int .i64 (-1), .bool true] := by simp [tagPair, Munch.badTag, Munch.tagV, h45]
    rw [ht]
    have h45' : ((c.toNat : Int) == 45) = true := by rw [h45]; rfl
    clear h45 ht
    go_enter Tryd.func25, Tryd.ntmps25
    go_wp2
    go_ret2
    exact ⟨rfl, rfl⟩
  · have h45' : ((c.toNat : Int) == 45) = false := by rw [beq_eq_false_iff_ne]; omega
    by_cases h48 : c.toNat < 48
    · have ht : tagPair c = .tuple #[.int .i64 0, .bool false] := by simp [tagPair, Munch.badTag, h45, h48]
      rw [ht]
      have h48' : (c.toNat : Int) < 48 := by omega
      clear h45 ht h48
      go_enter Tryd.func25, Tryd.ntmps25
      go_wp2
      go_ret2
      exact ⟨rfl, rfl⟩
    · have h48' : 48 ≤ (c.toNat : Int) := by omega
      by_cases h52 : 52 < c.toNat
      · have ht : tagPair c = .tuple #[.int .i64 0, .bool false] := by simp [tagPair, Munch.badTag, h45, h52]
        rw [ht]
        have h52' : 52 < (c.toNat : Int) := by omega
        clear h45 ht h48 h52
        go_enter Tryd.func25, Tryd.ntmps25
        go_wp2
        go_ret2
        exact ⟨rfl, rfl⟩
      · have ht : tagPair c = .tuple #[.int .i64 ((c.toNat : Int) - 48), .bool true] := by simp [tagPair, Munch.badTag, Munch.tagV, h45, h48, h52]
        rw [ht]
        have h52' : (c.toNat : Int) ≤ 52 := by omega
        clear h45 ht h48 h52
        go_enter Tryd.func25, Tryd.ntmps25
        go_wp2
        go_ret2
        refine ⟨?_, rfl⟩
        simp
end Go.Proofs.YtjhopgfgfljcoaaDoor
