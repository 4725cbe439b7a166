/-
  THE WALKS of munchref.hex, munchref.number.
-/
import Derived.Test.YtjhopgfgfljcoaaDoorRows
import Derived.Test.YtjhopgfgfljcoaaDoorTabSpec
import Derived.WalkKit
import Derived.WalkSpells
import Derived.WalkLawsBesides
import Derived.Deep.QuietTactic
import Derived.BigQuiet
namespace Go.Proofs.YtjhopgfgfljcoaaDoor
open Go.RowKit

theorem ret_int {k : IntKind} {a b : Int} (h : a = b) : Ending.returned (.int k a) = .returned (.int k b) := by rw [h]

set_option maxHeartbeats 400000 in
theorem hex_any (c : UInt8) (w : World) :
    Calls Tryd.prog 27 #[.int .u8 c.toNat] w fun e w' => e = .returned (.int .i64 (Munch.hexV c)) ∧ w' = w := by
  have hc : c.toNat < 256 := c.toNat_lt
  unfold Munch.hexV
  go_enter Tryd.func27, Tryd.ntmps27
  go_wp2
  all_goals go_ret
  all_goals exact ⟨rfl, rfl⟩

theorem pow_lt (base v h : Int) (k : Nat) (hb : 2 ≤ base) (hb' : base ≤ 16) (hv0 : 0 ≤ v) (hv : v < 16 ^ k) (h1 : h < base) : base * v + h < 16 ^ (k + 1) := by
  have h2 : base * v ≤ 16 * v := Int.mul_le_mul_of_nonneg_right hb' hv0
  have h3 : (16 : Int) ^ (k + 1) = 16 ^ k * 16 := Int.pow_succ 16 k
  omega
theorem pow_le (k : Nat) (h : k ≤ 4) : (16 : Int) ^ k ≤ 65536 := by
  have : k = 0 ∨ k = 1 ∨ k = 2 ∨ k = 3 ∨ k = 4 := by omega
  rcases this with rfl | rfl | rfl | rfl | rfl <;> decide

set_option maxHeartbeats 1000000 in
theorem number_any (s : ByteArray) (i n base : Int) (w : World) (hs : s.size ≤ 300000) (hi0 : 0 ≤ i) (hi1 : i ≤ 400000) (hn0 : 0 ≤ n) (hn1 : n ≤ 4) (hb0 : 2 ≤ base) (hb1 : base ≤ 16) :
    Calls Tryd.prog 21 #[.string s, .int .i64 i, .int .i64 n, .int .i64 base] w fun e w' => e = .returned (.int .i64 (Munch.numV base 0 (s.data.toList.drop i.toNat) n.toNat)) ∧ w' = w := by
  obtain ⟨i, rfl⟩ := Int.eq_ofNat_of_zero_le hi0
  obtain ⟨n, rfl⟩ := Int.eq_ofNat_of_zero_le hn0
  rw [Int.toNat_natCast, Int.toNat_natCast]
  go_enter Tryd.func21, Tryd.ntmps21
  go_wp2_with fail
  go_loop [9, 10] (fun v k => ∃ (j : Nat) (x : Int), j ≤ n ∧ 0 ≤ x ∧ x < 16 ^ j ∧ v = .int .i64 x ∧ k = .int .i64 (i + j : Nat) ∧ Munch.numV base x (s.data.toList.drop (i + j)) (n - j) = Munch.numV base 0 (s.data.toList.drop i) n) (fun _ k => i + n - (intOf k).toNat)
  case atStart => exact ⟨0, 0, Nat.zero_le _, Int.le_refl _, by decide, rfl, rfl, rfl⟩
  case round =>
    obtain ⟨j, x, hj, hx0, hx1, rfl, rfl, hN⟩ := hrel
    have H : Hid _ := hN; clear hN
    have hp := pow_le j (by omega)
    by_cases hlt : j < n
    · have e1 : n - j = (n - j - 1) + 1 := by omega
      have E1 : Hid _ := e1; clear e1
      by_cases hend : i + j < s.size
      · have hr := Munch.hexV_range s[i + j]
        have hm0 : 0 ≤ base * x := Int.mul_nonneg (by omega) hx0
        have hm1 : base * x ≤ 16 * x := Int.mul_le_mul_of_nonneg_right hb1 hx0
        by_cases hb : Munch.hexV s[i + j] < 0
        · go_wp2_with (go_at_call 27; refine (hex_any _ _).mono ?_; rintro e w' ⟨rfl, rfl⟩)
          go_ret
          exact ⟨ret_int (by rw [← H.out, E1.out, Munch.drop_cons s _ hend, Munch.numV_bad _ _ _ _ _ (Or.inl hb)]), rfl⟩
        · by_cases hb' : base ≤ Munch.hexV s[i + j]
          · go_wp2_with (go_at_call 27; refine (hex_any _ _).mono ?_; rintro e w' ⟨rfl, rfl⟩)
            go_ret
            exact ⟨ret_int (by rw [← H.out, E1.out, Munch.drop_cons s _ hend, Munch.numV_bad _ _ _ _ _ (Or.inr hb')]), rfl⟩
          · have hpl := pow_lt base x (Munch.hexV s[i + j]) j hb0 hb1 hx0 hx1 (by omega)
            go_wp2_with (go_at_call 27; refine (hex_any _ _).mono ?_; rintro e w' ⟨rfl, rfl⟩)
            go_round
            case rel => exact ⟨j + 1, base * x + Munch.hexV s[i + j], by omega, by omega, hpl, rfl, by go_num, by rw [← H.out, E1.out, Munch.drop_cons s _ hend, Munch.numV_good _ _ _ _ _ (by omega) (by omega)]; rfl⟩
            case measure => simp [intOf]; omega
      · go_wp2_with fail
        go_ret
        exact ⟨ret_int (by rw [← H.out, E1.out, Munch.drop_nil s _ (by omega)]; rfl), rfl⟩
    · obtain rfl : j = n := by omega
      go_wp2_with fail
      go_ret
      exact ⟨ret_int (by rw [← H.out, Nat.sub_self]; rw [Munch.numV_done]), rfl⟩
end Go.Proofs.YtjhopgfgfljcoaaDoor
