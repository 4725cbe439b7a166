import Derived.Test.YtkoaeojdlanolaaGreatDoorCb01
/-
  THE WALKS of the reader's digit, sign.
-/
namespace Go.Proofs.YtkoaeojdlanolaaGreatDoor
open Go.RowKit

set_option maxHeartbeats 1000000 in
theorem sign_no (R : Nat) (s : ByteArray) (i bad deep opn c : Int) (w : World) (hr : Rd w R s (i.toNat : Nat) bad deep opn) (hb : 0 ≤ bad) :
    Calls Tryz.prog 89 #[ptr R, .int .u8 c] w fun e w' => e = .returned (.tuple #[]) ∧ Rd w' R s (i.toNat : Nat) bad deep opn ∧ Kept R w w' := by
  go_enter Tryz.func89, Tryz.ntmps89
  go_wp2_with fail
  refine (here_no R s _ bad deep opn _ _ hr hb).mono ?_
  rintro e w1 ⟨rfl, n1, rfl⟩
  go_wp2_with fail
  refine (fail_any R s _ bad deep opn _ (hr.drewN _)).mono ?_
  rintro e w2 ⟨rfl, hr2, hk2⟩
  rw [if_neg (by omega)] at hr2
  go_wp2
  refine bodyPost_ret (results_none rfl _ _ _) rfl ?_
  exact ⟨rfl, hr2, ((Kept.refl _ _).drewN _).trans hk2⟩

set_option maxHeartbeats 1000000 in
theorem sign_bad (R : Nat) (s : ByteArray) (i : Nat) (bad deep opn : Int) (c : Nat) (w : World) (hr : Rd w R s i bad deep opn) (hb : bad < 0) (hc : Munch.hasAt s i c = false) :
    Calls Tryz.prog 89 #[ptr R, .int .u8 c] w fun e w' => e = .returned (.tuple #[]) ∧ Rd w' R s i i deep opn ∧ Kept R w w' := by
  have HC : Hid _ := hc; clear hc
  go_enter Tryz.func89, Tryz.ntmps89
  go_wp2_with fail
  refine (here_ok R s i bad deep opn c _ hr hb).mono ?_
  rintro e w1 ⟨rfl, n1, rfl⟩
  rw [HC.out]
  go_wp2_with fail
  refine (fail_any R s _ bad deep opn _ (hr.drewN _)).mono ?_
  rintro e w2 ⟨rfl, hr2, hk2⟩
  rw [if_pos hb] at hr2
  go_wp2
  refine bodyPost_ret (results_none rfl _ _ _) rfl ?_
  exact ⟨rfl, hr2, ((Kept.refl _ _).drewN _).trans hk2⟩

set_option maxHeartbeats 1000000 in
theorem sign_ok (R : Nat) (s : ByteArray) (i : Nat) (bad deep opn : Int) (c : Nat) (w : World) (hr : Rd w R s i bad deep opn) (hb : bad < 0) (hs : s.size ≤ 1000) (hc : Munch.hasAt s i c = true) :
    Calls Tryz.prog 89 #[ptr R, .int .u8 c] w fun e w' => e = .returned (.tuple #[]) ∧ Rd w' R s (i + 1 : Nat) bad deep opn ∧ Kept R w w' := by
  have hi : i < s.size := by
    rcases Nat.lt_or_ge i s.size with h | h
    · exact h
    · rw [Munch.hasAt_ge _ _ _ h] at hc; cases hc
  have HC : Hid _ := hc; clear hc
  have c1 := hr.c1
  have f1 := hr.fr 1
  go_enter Tryz.func89, Tryz.ntmps89
  go_wp2_with fail
  refine (here_ok R s i bad deep opn c _ hr hb).mono ?_
  rintro e w1 ⟨rfl, n1, rfl⟩
  rw [HC.out]
  go_wp2
  first | go_end0 | refine bodyPost_ret (results_none rfl _ _ _) rfl ?_
  exact ⟨rfl, ((hr.drewN _).set1 _).at_ (by omega) rfl, ((Kept.refl R w).drewN _).setR 1 _⟩

set_option maxHeartbeats 1000000 in
theorem digit_no (R : Nat) (s : ByteArray) (i : Nat) (bad deep opn lo : Int) (w : World) (hr : Rd w R s i bad deep opn) (hb : 0 ≤ bad) :
    Calls Tryz.prog 88 #[ptr R, .int .i64 lo] w fun e w' => e = .returned (.int .i64 0) ∧ Rd w' R s i bad deep opn ∧ Kept R w w' := by
  have c2 := hr.c2
  have hd : decide (0 ≤ bad) = true := by simp; omega
  go_enter Tryz.func88, Tryz.ntmps88
  go_wp2
  go_quiet (fail)
  go_wp2_with fail
  refine (fail_any R s i bad deep opn _ (hr.drewN _)).mono ?_
  rintro e w' ⟨rfl, hr', hk⟩
  rw [if_neg (by omega)] at hr'
  go_wp2
  go_ret
  exact ⟨rfl, hr', ((Kept.refl _ _).drewN _).trans hk⟩
end Go.Proofs.YtkoaeojdlanolaaGreatDoor
/-
  THE WALKS of the reader's digit: no byte.
-/
namespace Go.Proofs.YtkoaeojdlanolaaGreatDoor
open Go.RowKit

set_option maxHeartbeats 400000 in
theorem digit_end (R : Nat) (s : ByteArray) (i lo : Nat) (bad deep opn : Int) (w : World) (hr : Rd w R s i bad deep opn) (hb : bad < 0) (hi : s.size ≤ i) :
    Calls Tryz.prog 88 #[ptr R, .int .i64 lo] w fun e w' => e = .returned (.int .i64 0) ∧ Rd w' R s i i deep opn ∧ Kept R w w' := by
  have c0 := hr.c0
  have c1 := hr.c1
  have c2 := hr.c2
  have hd : decide (0 ≤ bad) = false := by simp; omega
  have hi' : decide ((s.size : Int) ≤ (i : Int)) = true := by simp; omega
  go_enter Tryz.func88, Tryz.ntmps88
  go_wp2
  go_quiet (fail)
  go_wp2_with fail
  refine (fail_any R s i bad deep opn _ (hr.drewN _)).mono ?_
  rintro e w' ⟨rfl, hr', hk⟩
  rw [if_pos hb] at hr'
  go_wp2
  go_ret
  exact ⟨rfl, hr', ((Kept.refl _ _).drewN _).trans hk⟩
end Go.Proofs.YtkoaeojdlanolaaGreatDoor
/-
  THE WALKS of the reader's digit: below 0.
-/
namespace Go.Proofs.YtkoaeojdlanolaaGreatDoor
open Go.RowKit

set_option maxHeartbeats 400000 in
theorem digit_under (R : Nat) (s : ByteArray) (i lo : Nat) (bad deep opn : Int) (w : World) (hr : Rd w R s i bad deep opn) (hb : bad < 0) (hi : i < s.size) (h1 : (s[i].toNat : Int) < 48) :
    Calls Tryz.prog 88 #[ptr R, .int .i64 lo] w fun e w' => e = .returned (.int .i64 0) ∧ Rd w' R s i i deep opn ∧ Kept R w w' := by
  have c0 := hr.c0
  have c1 := hr.c1
  have c2 := hr.c2
  have hd : decide (0 ≤ bad) = false := by simp; omega
  have hi' : decide (s.size ≤ i) = false := by simp; omega
  go_enter Tryz.func88, Tryz.ntmps88
  go_wp2
  go_quiet (fail)
  go_wp2_with fail
  refine (fail_any R s i bad deep opn _ (hr.drewN _)).mono ?_
  rintro e w' ⟨rfl, hr', hk⟩
  rw [if_pos hb] at hr'
  go_wp2
  go_ret
  exact ⟨rfl, hr', ((Kept.refl _ _).drewN _).trans hk⟩
end Go.Proofs.YtkoaeojdlanolaaGreatDoor
/-
  THE WALKS of the reader's digit: above 9.
-/
namespace Go.Proofs.YtkoaeojdlanolaaGreatDoor
open Go.RowKit

set_option maxHeartbeats 400000 in
theorem digit_over (R : Nat) (s : ByteArray) (i lo : Nat) (bad deep opn : Int) (w : World) (hr : Rd w R s i bad deep opn) (hb : bad < 0) (hi : i < s.size) (_h1 : 48 ≤ s[i].toNat) (h2 : 57 < (s[i].toNat : Int)) :
    Calls Tryz.prog 88 #[ptr R, .int .i64 lo] w fun e w' => e = .returned (.int .i64 0) ∧ Rd w' R s i i deep opn ∧ Kept R w w' := by
  have c0 := hr.c0
  have c1 := hr.c1
  have c2 := hr.c2
  have hd : decide (0 ≤ bad) = false := by simp; omega
  have hi' : decide (s.size ≤ i) = false := by simp; omega
  have k1 : decide ((s[i].toNat : Int) < 48) = false := by simp; omega
  go_enter Tryz.func88, Tryz.ntmps88
  go_wp2
  go_quiet (fail)
  go_wp2_with fail
  refine (fail_any R s i bad deep opn _ (hr.drewN _)).mono ?_
  rintro e w' ⟨rfl, hr', hk⟩
  rw [if_pos hb] at hr'
  go_wp2
  go_ret
  exact ⟨rfl, hr', ((Kept.refl _ _).drewN _).trans hk⟩
end Go.Proofs.YtkoaeojdlanolaaGreatDoor
