import Derived.Test.YtkoaeojdlanolaaGreatDoorCb02
/-
  THE WALKS of the reader's digit: too low.
-/
namespace Go.Proofs.YtkoaeojdlanolaaGreatDoor
open Go.RowKit

set_option maxHeartbeats 400000 in
theorem digit_low (R : Nat) (s : ByteArray) (i lo : Nat) (bad deep opn : Int) (w : World) (hr : Rd w R s i bad deep opn) (hb : bad < 0) (hi : i < s.size) (h1 : 48 ≤ s[i].toNat) (h2 : s[i].toNat ≤ 57) (h3 : (s[i].toNat : Int) - 48 < (lo : Int)) :
    Calls Tryz.prog 88 #[ptr R, .int .i64 lo] w fun e w' => e = .returned (.int .i64 0) ∧ Rd w' R s i i deep opn ∧ Kept R w w' := by
  have c0 := hr.c0
  have c1 := hr.c1
  have c2 := hr.c2
  have hd : decide (0 ≤ bad) = false := by simp; omega
  have hi' : decide (s.size ≤ i) = false := by simp; omega
  have k1 : decide ((s[i].toNat : Int) < 48) = false := by simp; omega
  have k2 : decide (57 < (s[i].toNat : Int)) = false := by simp; omega
  have hc : s[i].toNat < 256 := s[i].toNat_lt
  have u1 : IntKind.u8.wrap ((s[i].toNat : Int) - 48) = (s[i].toNat : Int) - 48 := by simp [IntKind.wrap, IntKind.signed, IntKind.bits]; omega
  have u2 : IntKind.i64.wrap ((s[i].toNat : Int) - 48) = (s[i].toNat : Int) - 48 := by rw [IntKind.wrap_i64]; omega
  go_enter Tryz.func88, Tryz.ntmps88
  go_wp2
  go_quiet (fail)
  go_wp2_with fail
  refine (fail_any R s i bad deep opn _ (hr.drewN _)).mono ?_
  rintro e w' ⟨rfl, hr', hk⟩
  rw [if_pos hb] at hr'
  go_wp2
  go_ret
  exact ⟨rfl, hr', ((Kept.refl _ _).drewN _).trans hk⟩
end Go.Proofs.YtkoaeojdlanolaaGreatDoor
/-
  THE WALKS of the reader's digit: a digit.
-/
namespace Go.Proofs.YtkoaeojdlanolaaGreatDoor
open Go.RowKit

set_option maxHeartbeats 800000 in
theorem digit_ok (R : Nat) (s : ByteArray) (i lo : Nat) (bad deep opn : Int) (w : World) (hr : Rd w R s i bad deep opn) (hb : bad < 0) (hs : s.size ≤ 1000) (hi : i < s.size) (h1 : 48 ≤ s[i].toNat) (h2 : s[i].toNat ≤ 57) (h3 : (lo : Int) ≤ (s[i].toNat : Int) - 48) :
    Calls Tryz.prog 88 #[ptr R, .int .i64 lo] w fun e w' => e = .returned (.int .i64 (s[i].toNat - 48 : Nat)) ∧ Rd w' R s (i + 1 : Nat) bad deep opn ∧ Kept R w w' := by
  have c0 := hr.c0
  have c1 := hr.c1
  have c2 := hr.c2
  have hd : decide (0 ≤ bad) = false := by simp; omega
  have f1 := hr.fr 1
  have hi' : decide (s.size ≤ i) = false := by simp; omega
  have k1 : decide ((s[i].toNat : Int) < 48) = false := by simp; omega
  have k2 : decide (57 < (s[i].toNat : Int)) = false := by simp; omega
  have hc : s[i].toNat < 256 := s[i].toNat_lt
  have u1 : IntKind.u8.wrap ((s[i].toNat : Int) - 48) = (s[i].toNat : Int) - 48 := by simp [IntKind.wrap, IntKind.signed, IntKind.bits]; omega
  have u2 : IntKind.i64.wrap ((s[i].toNat : Int) - 48) = (s[i].toNat : Int) - 48 := by rw [IntKind.wrap_i64]; omega
  have u3 : IntKind.i64.wrap (i : Int) = (i : Int) := by rw [IntKind.wrap_i64]; omega
  have k3 : decide ((s[i].toNat : Int) - 48 < (lo : Int)) = false := by simp; omega
  rw [show ((s[i].toNat - 48 : Nat) : Int) = (s[i].toNat : Int) - 48 from by omega]
  go_enter Tryz.func88, Tryz.ntmps88
  go_wp2
  go_quiet (fail)
  go_wp2
  go_quiet (fail)
  go_wp2
  go_ret
  exact ⟨rfl, (((hr.drewN _).set1 _).drewN _).at_ (by omega) rfl, (((Kept.refl R w).drewN _).setR 1 _).drewN _⟩
end Go.Proofs.YtkoaeojdlanolaaGreatDoor
/-
  THE CONTRACT of the reader's digit.
-/
namespace Go.Proofs.YtkoaeojdlanolaaGreatDoor
open Go.RowKit

def DigitPost (R : Nat) (s : ByteArray) (i lo : Nat) (bad deep opn : Int) (w : World) (e : Ending) (w' : World) : Prop :=
  (∃ v : Nat, Munch.digit s i lo = .ok v ∧ v ≤ 9 ∧ e = .returned (.int .i64 v) ∧ Rd w' R s (i + 1 : Nat) bad deep opn ∧ Kept R w w') ∨
  (Munch.digit s i lo = .bad i ∧ e = .returned (.int .i64 0) ∧ Rd w' R s i i deep opn ∧ Kept R w w')

theorem digit_any (R : Nat) (s : ByteArray) (i lo : Nat) (bad deep opn : Int) (w : World) (hr : Rd w R s i bad deep opn) (hb : bad < 0) (hs : s.size ≤ 1000) :
    Calls Tryz.prog 88 #[ptr R, .int .i64 lo] w fun e w' => DigitPost R s i lo bad deep opn w e w' := by
  by_cases hi : i < s.size
  · by_cases hd : Munch.isDigit s i lo = true
    · have hd' := hd
      unfold Munch.isDigit at hd'
      rw [dif_pos hi] at hd'
      simp at hd'
      refine (digit_ok R s i lo bad deep opn w hr hb hs hi hd'.1.1 hd'.1.2 (by omega)).mono fun e w' ⟨he, hr', hk⟩ => Or.inl ⟨_, ?_, ?_, he, hr', hk⟩
      · unfold Munch.digit; rw [dif_pos hi, if_pos hd]
      · omega
    · have hbad : Munch.digit s i lo = .bad i := by unfold Munch.digit; rw [dif_pos hi, if_neg hd]
      have hd' : ¬ (48 ≤ s[i].toNat ∧ s[i].toNat ≤ 57 ∧ lo ≤ s[i].toNat - 48) := by
        intro h; apply hd; unfold Munch.isDigit; rw [dif_pos hi]; simp; omega
      by_cases h1 : s[i].toNat < 48
      · exact (digit_under R s i lo bad deep opn w hr hb hi (by omega)).mono fun e w' ⟨he, hr', hk⟩ => Or.inr ⟨hbad, he, hr', hk⟩
      · by_cases h2 : 57 < s[i].toNat
        · exact (digit_over R s i lo bad deep opn w hr hb hi (by omega) (by omega)).mono fun e w' ⟨he, hr', hk⟩ => Or.inr ⟨hbad, he, hr', hk⟩
        · exact (digit_low R s i lo bad deep opn w hr hb hi (by omega) (by omega) (by omega)).mono fun e w' ⟨he, hr', hk⟩ => Or.inr ⟨hbad, he, hr', hk⟩
  · exact (digit_end R s i lo bad deep opn w hr hb (by omega)).mono fun e w' ⟨he, hr', hk⟩ => Or.inr ⟨by unfold Munch.digit; rw [dif_neg hi], he, hr', hk⟩
end Go.Proofs.YtkoaeojdlanolaaGreatDoor
