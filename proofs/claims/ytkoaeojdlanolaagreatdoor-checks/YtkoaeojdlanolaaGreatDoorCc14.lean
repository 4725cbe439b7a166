import Derived.Test.YtkoaeojdlanolaaGreatDoorCc13
/-
  tree.Repeat.
-/
namespace Go.Proofs.YtkoaeojdlanolaaGreatDoor
open Go.RowKit
open Munch (Words Wempty Wbytes Wcat Wany Wall Wnot KeyF Times numText Pow)

theorem times_zero (B : Words) : Times B 0 0 = Wempty := by
  funext u; apply propext
  constructor
  · rintro ⟨k, _, h, hp⟩
    obtain rfl : k = 0 := by omega
    exact hp
  · intro h; exact ⟨0, by omega, by omega, h⟩
theorem pow_empty : ∀ (k : Nat) (u : List UInt8), Pow Wempty k u → u = [] := by
  intro k
  induction k with
  | zero => intro u h; exact h
  | succ k ih =>
    rintro u ⟨a, b, rfl, ha, hb⟩
    rw [show a = [] from ha, ih b hb]; rfl
theorem pow_empty' : ∀ (k : Nat), Pow Wempty k [] := by
  intro k
  induction k with
  | zero => rfl
  | succ k ih => exact ⟨[], [], rfl, rfl, ih⟩
theorem times_empty (lo hi : Int) (h0 : 0 ≤ lo) (h : hi = -1 ∨ lo ≤ hi) : Times Wempty lo hi = Wempty := by
  funext u; apply propext
  constructor
  · rintro ⟨k, _, _, hp⟩; exact pow_empty k u hp
  · rintro rfl; exact ⟨lo.toNat, by omega, by omega, pow_empty' _⟩
theorem times_none0 (hi : Int) (_h : -1 ≤ hi) : Times (Wany []) 0 hi = Wempty := by
  funext u; apply propext
  constructor
  · rintro ⟨k, _, _, hp⟩
    cases k with
    | zero => exact hp
    | succ k => obtain ⟨a, b, _, ⟨A, hA, _⟩, _⟩ := hp; cases hA
  · intro h'; exact ⟨0, by omega, by omega, h'⟩
theorem times_none (lo hi : Int) (h : 1 ≤ lo) : Times (Wany []) lo hi = Wany [] := by
  funext u; apply propext
  constructor
  · rintro ⟨k, h1, _, hp⟩
    cases k with
    | zero => omega
    | succ k => obtain ⟨a, b, _, ⟨A, hA, _⟩, _⟩ := hp; cases hA
  · rintro ⟨A, hA, _⟩; cases hA
theorem pow_endless (B : Words) (h : Endless B) : ∀ (k : Nat) (u : List UInt8), Pow B k u → B u := by
  intro k
  induction k with
  | zero => intro u hu; rw [show u = [] from hu]; exact h.1
  | succ k ih =>
    rintro u ⟨a, b, rfl, ha, hb⟩
    exact h.2 a b ha (ih b hb)
theorem pow_one (B : Words) (u : List UInt8) : Pow B 1 u ↔ B u := by
  constructor
  · rintro ⟨a, b, rfl, ha, hb⟩
    rw [show b = [] from hb]; simpa using ha
  · intro h; exact ⟨u, [], by simp, h, rfl⟩
theorem times_endless (B : Words) (h : Endless B) (hi : Int) (h1 : hi = -1 ∨ 1 ≤ hi) : Times B 0 hi = B := by
  funext u; apply propext
  constructor
  · rintro ⟨k, _, _, hp⟩; exact pow_endless B h k u hp
  · intro hu; exact ⟨1, by omega, by omega, (pow_one B u).2 hu⟩
theorem times_one (B : Words) : Times B 1 1 = B := by
  funext u; apply propext
  constructor
  · rintro ⟨k, _, _, hp⟩
    obtain rfl : k = 1 := by omega
    exact (pow_one B u).1 hp
  · intro hu; exact ⟨1, by omega, by omega, (pow_one B u).2 hu⟩
theorem times_maybe (B : Words) (h : B []) : Times B 0 1 = B := by
  funext u; apply propext
  constructor
  · rintro ⟨k, _, _, hp⟩
    by_cases hk : k = 0
    · subst hk; rw [show u = [] from hp]; exact h
    · obtain rfl : k = 1 := by omega
      exact (pow_one B u).1 hp
  · intro hu; exact ⟨1, by omega, by omega, (pow_one B u).2 hu⟩
theorem pow_every : ∀ (u : List UInt8), Pow (Wbytes fun _ => true) u.length u := by
  intro u
  induction u with
  | nil => rfl
  | cons c u ih => exact ⟨[c], u, rfl, ⟨c, rfl, rfl⟩, ih⟩
theorem times_every : Times (Wbytes fun _ => true) 0 (-1) = Wall [] := by
  funext u; apply propext
  constructor
  · intro _ A hA; cases hA
  · intro _; exact ⟨u.length, by omega, by omega, pow_every u⟩
theorem pow_pad (B : Words) (h : B []) : ∀ (j k : Nat) (u : List UInt8), Pow B k u → Pow B (j + k) u := by
  intro j
  induction j with
  | zero => intro k u hu; simpa using hu
  | succ j ih =>
    intro k u hu
    have e : j + 1 + k = (j + k) + 1 := by omega
    rw [e]
    exact ⟨[], u, rfl, h, ih k u hu⟩
theorem times_low (B : Words) (h : B []) (lo hi : Int) (h0 : 0 ≤ lo) (h1 : hi = -1 ∨ lo ≤ hi) : Times B lo hi = Times B 0 hi := by
  funext u; apply propext
  constructor
  · rintro ⟨k, _, h2, hp⟩; exact ⟨k, by omega, h2, hp⟩
  · rintro ⟨k, _, h2, hp⟩
    by_cases hk : lo ≤ k
    · exact ⟨k, hk, h2, hp⟩
    · refine ⟨lo.toNat, by omega, by omega, ?_⟩
      have := pow_pad B h (lo.toNat - k) k u hp
      rwa [show lo.toNat - k + k = lo.toNat from by omega] at this

def anyT : Tr := ⟨.iface 200 (.agg #[]), [91, 48, 45, 102, 102, 93], Wbytes (fun _ => true), 1⟩
theorem anyKey : KeyF setText numText 1 [91, 48, 45, 102, 102, 93] (Wbytes fun _ => true) := Or.inr (Or.inl ⟨fun _ => true, by decide +kernel, rfl⟩)
theorem every_byte {w : World} {ok : Nat → Prop} {t : Tr} (h : TreeOk w ok t) (hk : t.k = [91, 48, 45, 102, 102, 93]) : t.L = Wbytes (fun _ => true) := by
  obtain ⟨d, h⟩ := h
  exact (KeyF.same clear_texts d 1 t.k [91, 48, 45, 102, 102, 93] t.L _ [] [] (h.keyF d t) anyKey (by rw [hk])).1

theorem key_rep (a b c : ByteArray) (x y z : List UInt8) (ha : a.data.toList = x) (hb : b.data.toList = y) (hc : IsKey c z) : IsKey ((⟨#[123]⟩ : ByteArray) ++ (a ++ (⟨#[44]⟩ : ByteArray) ++ b) ++ (⟨#[58]⟩ : ByteArray) ++ c ++ (⟨#[125]⟩ : ByteArray)) (123 :: (x ++ (44 :: (y ++ (58 :: (z ++ [125])))))) := by
  unfold IsKey at *; simp [ha, hb, hc]

set_option maxHeartbeats 4000000 in
set_option maxRecDepth 100000 in
theorem rep_true (b : Tr) (lo hi : Int) (w : World) (ok : Nat → Prop) (hb : TreeOk w ok b) {E : Words → Bool} (hE : TellsE E) (heb : E b.L = true) (_h0 : 0 ≤ lo) (_h1 : lo ≤ 9) (h2 : -1 ≤ hi) (h3 : hi ≤ 9) (hle : hi = -1 ∨ lo ≤ hi) (hn : b.n ≤ 1000000) (hl : LaidT w) :
    Calls Tryz.prog 76 #[b.v, .int .i64 lo, .int .i64 hi] w fun e w' => Gives w ok (Times b.L (0) hi) (b.n + 1) e w' := by
  obtain ⟨Tb, pb, fb, kb, hbv, hkb, hmb, hentb, hcallb⟩ := hb.keyed.call
  obtain ⟨Te, pe, fe, hve, hme, hente, hcalle⟩ := hb.emptied hE
  have hlb := hb.len
  have hpb := hb.pos
  have hkb' : kb.size = b.k.length := by rw [← show kb.data.toList = b.k from hkb]; simp
  rw [hbv] at hve
  cases hve
  rw [heb] at hcalle
  have HCE : Hid _ := hcalle
  have HLOW : Hid (b.L [] → (0 : Int) = 0) := by
    intro hh
    rfl
  have HEB : Hid _ := heb
  clear hcalle heb
  rw [hbv]
  by_cases hA : hi = 0
  · have HT : Hid (Times b.L (0) hi = Wempty) := by
      show Times b.L (0) hi = Wempty
      subst hA
      skip
      exact times_zero _
    subst hA
    go_enter Tryz.func76, Tryz.ntmps76
    have hb0 : Below w.heap.size w w := Below.refl _ _
    go_wp2_with fail
    rw [hente, Oper.upon_enter]
    refine (HCE.out _ (keeps_below hb0)).mono ?_
    rintro e w1 ⟨rfl, hb1'⟩
    have hb1 := hb0.trans (hb1'.mono hb0.size)
    go_wp2_with fail
    refine (empty_any w1).mono ?_
    rintro e w2 ⟨rfl, hb2'⟩
    have hb2 := hb1.trans (hb2'.mono hb1.size)
    go_wp2_with fail
    go_ret
    exact ⟨emptyT, rfl, emptyT_ok _ _, HT.out.symm, by show 1 ≤ _; omega, hb2⟩
  · by_cases hB : b.k = [40, 41]
    · have e1 := key_is hkb _ hB
      have HT : Hid (Times b.L (0) hi = Wempty) := by
        show Times b.L (0) hi = Wempty
        rw [empty_of_key hb hB]; exact times_empty _ _ (by omega) (by omega)
      clear hB
      go_enter Tryz.func76, Tryz.ntmps76
      have hb0 : Below w.heap.size w w := Below.refl _ _
      go_wp2_with fail
      rw [hente, Oper.upon_enter]
      refine (HCE.out _ (keeps_below hb0)).mono ?_
      rintro e w1 ⟨rfl, hb1'⟩
      have hb1 := hb0.trans (hb1'.mono hb0.size)
      go_wp2_with fail
      rw [hentb, Oper.upon_enter]
      refine (hcallb _).mono ?_
      rintro e w2 ⟨rfl, hb2'⟩
      have hb2 := hb1.trans (hb2'.mono hb1.size)
      go_wp2_with fail
      refine (empty_any w2).mono ?_
      rintro e w3 ⟨rfl, hb3'⟩
      have hb3 := hb2.trans (hb3'.mono hb2.size)
      go_wp2_with fail
      go_ret
      exact ⟨emptyT, rfl, emptyT_ok _ _, HT.out.symm, by show 1 ≤ _; omega, hb3⟩
    · have e1 := key_isnt hkb _ hB
      clear hB
      by_cases hC : b.k = [60, 62]
      · have e2 := key_is hkb _ hC
        have HN : Hid _ := none_of_key hb hC
        clear hC
        by_cases hlo : (0 : Int) = 0
        · have HT : Hid (Times b.L (0) hi = Wempty) := by
            show Times b.L (0) hi = Wempty
            rw [HN.out, hlo]; exact times_none0 _ h2
          skip
          go_enter Tryz.func76, Tryz.ntmps76
          have hb0 : Below w.heap.size w w := Below.refl _ _
          go_wp2_with fail
          rw [hente, Oper.upon_enter]
          refine (HCE.out _ (keeps_below hb0)).mono ?_
          rintro e w1 ⟨rfl, hb1'⟩
          have hb1 := hb0.trans (hb1'.mono hb0.size)
          go_wp2_with fail
          rw [hentb, Oper.upon_enter]
          refine (hcallb _).mono ?_
          rintro e w2 ⟨rfl, hb2'⟩
          have hb2 := hb1.trans (hb2'.mono hb1.size)
          go_wp2_with fail
          rw [hentb, Oper.upon_enter]
          refine (hcallb _).mono ?_
          rintro e w3 ⟨rfl, hb3'⟩
          have hb3 := hb2.trans (hb3'.mono hb2.size)
          go_wp2_with fail
          refine (empty_any w3).mono ?_
          rintro e w4 ⟨rfl, hb4'⟩
          have hb4 := hb3.trans (hb4'.mono hb3.size)
          go_wp2_with fail
          go_ret
          exact ⟨emptyT, rfl, emptyT_ok _ _, HT.out.symm, by show 1 ≤ _; omega, hb4⟩
        · exact absurd rfl hlo
      · have e2 := key_isnt hkb _ hC
        clear hC
        go_enter Tryz.func76, Tryz.ntmps76
        have hb0 : Below w.heap.size w w := Below.refl _ _
        go_wp2_with fail
        rw [hente, Oper.upon_enter]
        refine (HCE.out _ (keeps_below hb0)).mono ?_
        rintro e w1 ⟨rfl, hb1'⟩
        have hb1 := hb0.trans (hb1'.mono hb0.size)
        go_wp2_with fail
        rw [hentb, Oper.upon_enter]
        refine (hcallb _).mono ?_
        rintro e w2 ⟨rfl, hb2'⟩
        have hb2 := hb1.trans (hb2'.mono hb1.size)
        go_wp2_with fail
        rw [hentb, Oper.upon_enter]
        refine (hcallb _).mono ?_
        rintro e w3 ⟨rfl, hb3'⟩
        have hb3 := hb2.trans (hb3'.mono hb2.size)
        go_wp2_with fail
        rw [hentb, Oper.upon_enter]
        refine (hcallb _).mono ?_
        rintro e w4 ⟨rfl, hb4'⟩
        have hb4 := hb3.trans (hb4'.mono hb3.size)
        have hen := endless_any b w4 ok (hb.keep (keeps_below hb4))
        rw [hbv] at hen
        go_wp2_with fail
        refine hen.mono ?_
        clear hen
        rintro e w5 ⟨r, rfl, hre, hb5'⟩
        have hb5 := hb4.trans (hb5'.mono hb4.size)
        cases r with
        | true =>
          have HR : Hid _ := hre rfl
          skip
          clear hre
          go_wp2_with fail
          go_ret
          exact ⟨b, congrArg Ending.returned hbv.symm, hb.keep (keeps_below hb5), (times_endless _ HR.out hi (by omega)).symm, by omega, hb5⟩
        | false =>
          clear hre
          by_cases hF : hi = 1
          · subst hF
            have hee : b.L [] := (hE _).1 HEB.out
            go_wp2_with fail
            rw [hente, Oper.upon_enter]
            refine (HCE.out _ (keeps_below hb5)).mono ?_
            rintro e w6 ⟨rfl, hb6'⟩
            have hb6 := hb5.trans (hb6'.mono hb5.size)
            go_wp2_with fail
            go_ret
            exact ⟨b, congrArg Ending.returned hbv.symm, hb.keep (keeps_below hb6), (times_maybe _ hee).symm, by omega, hb6⟩
          · by_cases h7 : (0 : Int) = 0 ∧ hi = -1 ∧ b.k = [91, 48, 45, 102, 102, 93]
            · obtain ⟨h71, h72, h73⟩ := h7
              have e7 := key_is hkb _ h73
              have HLE : Hid _ := every_byte hb h73
              skip
              subst h72
              clear h73
              go_wp2_with fail
              rw [hentb, Oper.upon_enter]
              refine (hcallb _).mono ?_
              rintro e w6 ⟨rfl, hb6'⟩
              have hb6 := hb5.trans (hb6'.mono hb5.size)
              go_wp2_with fail
              refine (allOf_none w6).mono ?_
              rintro e w7 ⟨r2, rfl, hrk, hrL, hrn, hrok, hb7'⟩
              have hb7 := hb6.trans (hb7'.mono hb6.size)
              obtain ⟨T, p, hv⟩ := (hrok w7 (fun _ => True)).shape
              rw [hv]
              go_wp2_with fail
              go_ret
              exact ⟨r2, congrArg Ending.returned hv.symm, hrok _ _, by rw [hrL, HLE.out, times_every], by omega, hb7⟩
            · by_cases h8 : (0 : Int) = 0 ∧ hi = -1
              · have e7 := key_isnt hkb [91, 48, 45, 102, 102, 93] (fun h => h7 ⟨h8.1, h8.2, h⟩)
                obtain ⟨h81, h82⟩ := h8
                skip
                subst h82
                clear h7
                go_wp2_with fail
                rw [hentb, Oper.upon_enter]
                refine (hcallb _).mono ?_
                rintro e w6 ⟨rfl, hb6'⟩
                have hb6 := hb5.trans (hb6'.mono hb5.size)
                have hit := itoa_any (0) (by omega) (by omega) w6 (hl.keep hb6)
                go_wp2_with fail
                refine hit.mono ?_
                clear hit
                rintro e w7 ⟨x1, rfl, hx1, hs1, hb7'⟩
                have hb7 := hb6.trans (hb7'.mono hb6.size)
                have hit := itoa_any (-1) (by omega) (by omega) w7 (hl.keep hb7)
                go_wp2_with fail
                refine hit.mono ?_
                clear hit
                rintro e w8 ⟨x2, rfl, hx2, hs2, hb8'⟩
                have hb8 := hb7.trans (hb8'.mono hb7.size)
                go_wp2_with fail
                rw [hentb, Oper.upon_enter]
                refine (hcallb _).mono ?_
                rintro e w9 ⟨rfl, hb9'⟩
                have hb9 := hb8.trans (hb9'.mono hb8.size)
                go_wp2_with fail
                go_ret
                obtain ⟨d, hd⟩ := hb
                exact ⟨⟨.iface 170 (.agg #[.iface Tb pb, .int .i64 (0), .int .i64 (-1), .string ((⟨#[123]⟩ : ByteArray) ++ (x1 ++ (⟨#[44]⟩ : ByteArray) ++ x2) ++ (⟨#[58]⟩ : ByteArray) ++ kb ++ (⟨#[125]⟩ : ByteArray))]), 123 :: (numText (0) ++ (44 :: (numText (-1) ++ (58 :: (b.k ++ [125]))))), Times b.L (0) (-1), b.n + 1⟩, rfl, ⟨d + 1, Or.inr (Or.inr (Or.inr (Or.inr (Or.inr (Or.inl ⟨b, 0, -1, _, by rw [hbv], key_rep x1 x2 kb _ _ _ hx1 hx2 hkb, TreeF.keep (keeps_below hb9) _ _ hd, by omega, rfl, rfl, (fun _ => rfl), Nat.le_refl _⟩)))))⟩, rfl, Nat.le_refl _, hb9⟩
              · clear h7
                have h82 : ¬ hi = -1 := fun h => h8 ⟨rfl, h⟩
                clear h8
                have hit := itoa_any (0) (by omega) (by omega) w5 (hl.keep hb5)
                go_wp2_with fail
                refine hit.mono ?_
                clear hit
                rintro e w6 ⟨x1, rfl, hx1, hs1, hb6'⟩
                have hb6 := hb5.trans (hb6'.mono hb5.size)
                have hit := itoa_any hi (by omega) (by omega) w6 (hl.keep hb6)
                go_wp2_with fail
                refine hit.mono ?_
                clear hit
                rintro e w7 ⟨x2, rfl, hx2, hs2, hb7'⟩
                have hb7 := hb6.trans (hb7'.mono hb6.size)
                go_wp2_with fail
                rw [hentb, Oper.upon_enter]
                refine (hcallb _).mono ?_
                rintro e w8 ⟨rfl, hb8'⟩
                have hb8 := hb7.trans (hb8'.mono hb7.size)
                go_wp2_with fail
                go_ret
                obtain ⟨d, hd⟩ := hb
                exact ⟨⟨.iface 170 (.agg #[.iface Tb pb, .int .i64 (0), .int .i64 hi, .string ((⟨#[123]⟩ : ByteArray) ++ (x1 ++ (⟨#[44]⟩ : ByteArray) ++ x2) ++ (⟨#[58]⟩ : ByteArray) ++ kb ++ (⟨#[125]⟩ : ByteArray))]), 123 :: (numText (0) ++ (44 :: (numText hi ++ (58 :: (b.k ++ [125]))))), Times b.L (0) hi, b.n + 1⟩, rfl, ⟨d + 1, Or.inr (Or.inr (Or.inr (Or.inr (Or.inr (Or.inl ⟨b, 0, hi, _, by rw [hbv], key_rep x1 x2 kb _ _ _ hx1 hx2 hkb, TreeF.keep (keeps_below hb8) _ _ hd, by omega, rfl, rfl, (fun _ => rfl), Nat.le_refl _⟩)))))⟩, rfl, Nat.le_refl _, hb8⟩

set_option maxHeartbeats 4000000 in
set_option maxRecDepth 100000 in
theorem rep_false (b : Tr) (lo hi : Int) (w : World) (ok : Nat → Prop) (hb : TreeOk w ok b) {E : Words → Bool} (hE : TellsE E) (heb : E b.L = false) (h0 : 0 ≤ lo) (h1 : lo ≤ 9) (h2 : -1 ≤ hi) (h3 : hi ≤ 9) (hle : hi = -1 ∨ lo ≤ hi) (hn : b.n ≤ 1000000) (hl : LaidT w) :
    Calls Tryz.prog 76 #[b.v, .int .i64 lo, .int .i64 hi] w fun e w' => Gives w ok (Times b.L (lo) hi) (b.n + 1) e w' := by
  obtain ⟨Tb, pb, fb, kb, hbv, hkb, hmb, hentb, hcallb⟩ := hb.keyed.call
  obtain ⟨Te, pe, fe, hve, hme, hente, hcalle⟩ := hb.emptied hE
  have hlb := hb.len
  have hpb := hb.pos
  have hkb' : kb.size = b.k.length := by rw [← show kb.data.toList = b.k from hkb]; simp
  rw [hbv] at hve
  cases hve
  rw [heb] at hcalle
  have HCE : Hid _ := hcalle
  have HLOW : Hid (b.L [] → (lo : Int) = 0) := by
    intro hh
    exact absurd ((hE _).2 hh) (by rw [heb]; decide)
  have HEB : Hid _ := heb
  clear hcalle heb
  rw [hbv]
  by_cases hA : hi = 0
  · have HT : Hid (Times b.L (lo) hi = Wempty) := by
      show Times b.L (lo) hi = Wempty
      subst hA
      obtain rfl : lo = 0 := by omega
      exact times_zero _
    subst hA
    go_enter Tryz.func76, Tryz.ntmps76
    have hb0 : Below w.heap.size w w := Below.refl _ _
    go_wp2_with fail
    rw [hente, Oper.upon_enter]
    refine (HCE.out _ (keeps_below hb0)).mono ?_
    rintro e w1 ⟨rfl, hb1'⟩
    have hb1 := hb0.trans (hb1'.mono hb0.size)
    go_wp2_with fail
    refine (empty_any w1).mono ?_
    rintro e w2 ⟨rfl, hb2'⟩
    have hb2 := hb1.trans (hb2'.mono hb1.size)
    go_wp2_with fail
    go_ret
    exact ⟨emptyT, rfl, emptyT_ok _ _, HT.out.symm, by show 1 ≤ _; omega, hb2⟩
  · by_cases hB : b.k = [40, 41]
    · have e1 := key_is hkb _ hB
      have HT : Hid (Times b.L (lo) hi = Wempty) := by
        show Times b.L (lo) hi = Wempty
        rw [empty_of_key hb hB]; exact times_empty _ _ (by omega) (by omega)
      clear hB
      go_enter Tryz.func76, Tryz.ntmps76
      have hb0 : Below w.heap.size w w := Below.refl _ _
      go_wp2_with fail
      rw [hente, Oper.upon_enter]
      refine (HCE.out _ (keeps_below hb0)).mono ?_
      rintro e w1 ⟨rfl, hb1'⟩
      have hb1 := hb0.trans (hb1'.mono hb0.size)
      go_wp2_with fail
      rw [hentb, Oper.upon_enter]
      refine (hcallb _).mono ?_
      rintro e w2 ⟨rfl, hb2'⟩
      have hb2 := hb1.trans (hb2'.mono hb1.size)
      go_wp2_with fail
      refine (empty_any w2).mono ?_
      rintro e w3 ⟨rfl, hb3'⟩
      have hb3 := hb2.trans (hb3'.mono hb2.size)
      go_wp2_with fail
      go_ret
      exact ⟨emptyT, rfl, emptyT_ok _ _, HT.out.symm, by show 1 ≤ _; omega, hb3⟩
    · have e1 := key_isnt hkb _ hB
      clear hB
      by_cases hC : b.k = [60, 62]
      · have e2 := key_is hkb _ hC
        have HN : Hid _ := none_of_key hb hC
        clear hC
        by_cases hlo : (lo : Int) = 0
        · have HT : Hid (Times b.L (lo) hi = Wempty) := by
            show Times b.L (lo) hi = Wempty
            rw [HN.out, hlo]; exact times_none0 _ h2
          subst hlo
          go_enter Tryz.func76, Tryz.ntmps76
          have hb0 : Below w.heap.size w w := Below.refl _ _
          go_wp2_with fail
          rw [hente, Oper.upon_enter]
          refine (HCE.out _ (keeps_below hb0)).mono ?_
          rintro e w1 ⟨rfl, hb1'⟩
          have hb1 := hb0.trans (hb1'.mono hb0.size)
          go_wp2_with fail
          rw [hentb, Oper.upon_enter]
          refine (hcallb _).mono ?_
          rintro e w2 ⟨rfl, hb2'⟩
          have hb2 := hb1.trans (hb2'.mono hb1.size)
          go_wp2_with fail
          rw [hentb, Oper.upon_enter]
          refine (hcallb _).mono ?_
          rintro e w3 ⟨rfl, hb3'⟩
          have hb3 := hb2.trans (hb3'.mono hb2.size)
          go_wp2_with fail
          refine (empty_any w3).mono ?_
          rintro e w4 ⟨rfl, hb4'⟩
          have hb4 := hb3.trans (hb4'.mono hb3.size)
          go_wp2_with fail
          go_ret
          exact ⟨emptyT, rfl, emptyT_ok _ _, HT.out.symm, by show 1 ≤ _; omega, hb4⟩
        · skip
          have HT : Hid (Times b.L (lo) hi = b.L) := by
            show Times b.L (lo) hi = b.L
            rw [HN.out]; exact times_none _ _ (by omega)
          go_enter Tryz.func76, Tryz.ntmps76
          have hb0 : Below w.heap.size w w := Below.refl _ _
          go_wp2_with fail
          rw [hente, Oper.upon_enter]
          refine (HCE.out _ (keeps_below hb0)).mono ?_
          rintro e w1 ⟨rfl, hb1'⟩
          have hb1 := hb0.trans (hb1'.mono hb0.size)
          go_wp2_with fail
          rw [hentb, Oper.upon_enter]
          refine (hcallb _).mono ?_
          rintro e w2 ⟨rfl, hb2'⟩
          have hb2 := hb1.trans (hb2'.mono hb1.size)
          go_wp2_with fail
          rw [hentb, Oper.upon_enter]
          refine (hcallb _).mono ?_
          rintro e w3 ⟨rfl, hb3'⟩
          have hb3 := hb2.trans (hb3'.mono hb2.size)
          go_wp2_with fail
          rw [hentb, Oper.upon_enter]
          refine (hcallb _).mono ?_
          rintro e w4 ⟨rfl, hb4'⟩
          have hb4 := hb3.trans (hb4'.mono hb3.size)
          go_wp2_with fail
          go_ret
          exact ⟨b, congrArg Ending.returned hbv.symm, hb.keep (keeps_below hb4), HT.out.symm, by omega, hb4⟩
      · have e2 := key_isnt hkb _ hC
        clear hC
        go_enter Tryz.func76, Tryz.ntmps76
        have hb0 : Below w.heap.size w w := Below.refl _ _
        go_wp2_with fail
        rw [hente, Oper.upon_enter]
        refine (HCE.out _ (keeps_below hb0)).mono ?_
        rintro e w1 ⟨rfl, hb1'⟩
        have hb1 := hb0.trans (hb1'.mono hb0.size)
        go_wp2_with fail
        rw [hentb, Oper.upon_enter]
        refine (hcallb _).mono ?_
        rintro e w2 ⟨rfl, hb2'⟩
        have hb2 := hb1.trans (hb2'.mono hb1.size)
        go_wp2_with fail
        rw [hentb, Oper.upon_enter]
        refine (hcallb _).mono ?_
        rintro e w3 ⟨rfl, hb3'⟩
        have hb3 := hb2.trans (hb3'.mono hb2.size)
        go_wp2_with fail
        rw [hentb, Oper.upon_enter]
        refine (hcallb _).mono ?_
        rintro e w4 ⟨rfl, hb4'⟩
        have hb4 := hb3.trans (hb4'.mono hb3.size)
        have hen := endless_any b w4 ok (hb.keep (keeps_below hb4))
        rw [hbv] at hen
        go_wp2_with fail
        refine hen.mono ?_
        clear hen
        rintro e w5 ⟨r, rfl, hre, hb5'⟩
        have hb5 := hb4.trans (hb5'.mono hb4.size)
        cases r with
        | true =>
          have HR : Hid _ := hre rfl
          have hz : (lo : Int) = 0 := HLOW.out HR.out.1
          clear hre
          go_wp2_with fail
          go_ret
          exact ⟨b, congrArg Ending.returned hbv.symm, hb.keep (keeps_below hb5), (by rw [hz]; exact (times_endless _ HR.out hi (by omega)).symm), by omega, hb5⟩
        | false =>
          clear hre
          by_cases hF : hi = 1
          · subst hF
            by_cases hl1 : lo = 1
            · subst hl1
              go_wp2_with fail
              go_ret
              exact ⟨b, congrArg Ending.returned hbv.symm, hb.keep (keeps_below hb5), (times_one _).symm, by omega, hb5⟩
            · have hlz : lo = 0 := by omega
              subst hlz
              go_wp2_with fail
              rw [hente, Oper.upon_enter]
              refine (HCE.out _ (keeps_below hb5)).mono ?_
              rintro e w6 ⟨rfl, hb6'⟩
              have hb6 := hb5.trans (hb6'.mono hb5.size)
              have hit := itoa_any (0) (by omega) (by omega) w6 (hl.keep hb6)
              go_wp2_with fail
              refine hit.mono ?_
              clear hit
              rintro e w7 ⟨x1, rfl, hx1, hs1, hb7'⟩
              have hb7 := hb6.trans (hb7'.mono hb6.size)
              have hit := itoa_any 1 (by omega) (by omega) w7 (hl.keep hb7)
              go_wp2_with fail
              refine hit.mono ?_
              clear hit
              rintro e w8 ⟨x2, rfl, hx2, hs2, hb8'⟩
              have hb8 := hb7.trans (hb8'.mono hb7.size)
              go_wp2_with fail
              rw [hentb, Oper.upon_enter]
              refine (hcallb _).mono ?_
              rintro e w9 ⟨rfl, hb9'⟩
              have hb9 := hb8.trans (hb9'.mono hb8.size)
              go_wp2_with fail
              go_ret
              obtain ⟨d, hd⟩ := hb
              exact ⟨⟨.iface 170 (.agg #[.iface Tb pb, .int .i64 (0), .int .i64 1, .string ((⟨#[123]⟩ : ByteArray) ++ (x1 ++ (⟨#[44]⟩ : ByteArray) ++ x2) ++ (⟨#[58]⟩ : ByteArray) ++ kb ++ (⟨#[125]⟩ : ByteArray))]), 123 :: (numText (0) ++ (44 :: (numText 1 ++ (58 :: (b.k ++ [125]))))), Times b.L (0) 1, b.n + 1⟩, rfl, ⟨d + 1, Or.inr (Or.inr (Or.inr (Or.inr (Or.inr (Or.inl ⟨b, 0, 1, _, by rw [hbv], key_rep x1 x2 kb _ _ _ hx1 hx2 hkb, TreeF.keep (keeps_below hb9) _ _ hd, by omega, rfl, rfl, (fun _ => rfl), Nat.le_refl _⟩)))))⟩, rfl, Nat.le_refl _, hb9⟩
          · by_cases h7 : (lo : Int) = 0 ∧ hi = -1 ∧ b.k = [91, 48, 45, 102, 102, 93]
            · obtain ⟨h71, h72, h73⟩ := h7
              have e7 := key_is hkb _ h73
              have HLE : Hid _ := every_byte hb h73
              subst h71
              subst h72
              clear h73
              go_wp2_with fail
              rw [hentb, Oper.upon_enter]
              refine (hcallb _).mono ?_
              rintro e w6 ⟨rfl, hb6'⟩
              have hb6 := hb5.trans (hb6'.mono hb5.size)
              go_wp2_with fail
              refine (allOf_none w6).mono ?_
              rintro e w7 ⟨r2, rfl, hrk, hrL, hrn, hrok, hb7'⟩
              have hb7 := hb6.trans (hb7'.mono hb6.size)
              obtain ⟨T, p, hv⟩ := (hrok w7 (fun _ => True)).shape
              rw [hv]
              go_wp2_with fail
              go_ret
              exact ⟨r2, congrArg Ending.returned hv.symm, hrok _ _, by rw [hrL, HLE.out, times_every], by omega, hb7⟩
            · by_cases h8 : (lo : Int) = 0 ∧ hi = -1
              · have e7 := key_isnt hkb [91, 48, 45, 102, 102, 93] (fun h => h7 ⟨h8.1, h8.2, h⟩)
                obtain ⟨h81, h82⟩ := h8
                subst h81
                subst h82
                clear h7
                go_wp2_with fail
                rw [hentb, Oper.upon_enter]
                refine (hcallb _).mono ?_
                rintro e w6 ⟨rfl, hb6'⟩
                have hb6 := hb5.trans (hb6'.mono hb5.size)
                have hit := itoa_any (0) (by omega) (by omega) w6 (hl.keep hb6)
                go_wp2_with fail
                refine hit.mono ?_
                clear hit
                rintro e w7 ⟨x1, rfl, hx1, hs1, hb7'⟩
                have hb7 := hb6.trans (hb7'.mono hb6.size)
                have hit := itoa_any (-1) (by omega) (by omega) w7 (hl.keep hb7)
                go_wp2_with fail
                refine hit.mono ?_
                clear hit
                rintro e w8 ⟨x2, rfl, hx2, hs2, hb8'⟩
                have hb8 := hb7.trans (hb8'.mono hb7.size)
                go_wp2_with fail
                rw [hentb, Oper.upon_enter]
                refine (hcallb _).mono ?_
                rintro e w9 ⟨rfl, hb9'⟩
                have hb9 := hb8.trans (hb9'.mono hb8.size)
                go_wp2_with fail
                go_ret
                obtain ⟨d, hd⟩ := hb
                exact ⟨⟨.iface 170 (.agg #[.iface Tb pb, .int .i64 (0), .int .i64 (-1), .string ((⟨#[123]⟩ : ByteArray) ++ (x1 ++ (⟨#[44]⟩ : ByteArray) ++ x2) ++ (⟨#[58]⟩ : ByteArray) ++ kb ++ (⟨#[125]⟩ : ByteArray))]), 123 :: (numText (0) ++ (44 :: (numText (-1) ++ (58 :: (b.k ++ [125]))))), Times b.L (0) (-1), b.n + 1⟩, rfl, ⟨d + 1, Or.inr (Or.inr (Or.inr (Or.inr (Or.inr (Or.inl ⟨b, 0, -1, _, by rw [hbv], key_rep x1 x2 kb _ _ _ hx1 hx2 hkb, TreeF.keep (keeps_below hb9) _ _ hd, by omega, rfl, rfl, (fun _ => rfl), Nat.le_refl _⟩)))))⟩, rfl, Nat.le_refl _, hb9⟩
              · clear h7
                by_cases hlz : lo = 0
                · subst hlz
                  have h82 : ¬ hi = -1 := fun h => h8 ⟨rfl, h⟩
                  clear h8
                  have hit := itoa_any (0) (by omega) (by omega) w5 (hl.keep hb5)
                  go_wp2_with fail
                  refine hit.mono ?_
                  clear hit
                  rintro e w6 ⟨x1, rfl, hx1, hs1, hb6'⟩
                  have hb6 := hb5.trans (hb6'.mono hb5.size)
                  have hit := itoa_any hi (by omega) (by omega) w6 (hl.keep hb6)
                  go_wp2_with fail
                  refine hit.mono ?_
                  clear hit
                  rintro e w7 ⟨x2, rfl, hx2, hs2, hb7'⟩
                  have hb7 := hb6.trans (hb7'.mono hb6.size)
                  go_wp2_with fail
                  rw [hentb, Oper.upon_enter]
                  refine (hcallb _).mono ?_
                  rintro e w8 ⟨rfl, hb8'⟩
                  have hb8 := hb7.trans (hb8'.mono hb7.size)
                  go_wp2_with fail
                  go_ret
                  obtain ⟨d, hd⟩ := hb
                  exact ⟨⟨.iface 170 (.agg #[.iface Tb pb, .int .i64 (0), .int .i64 hi, .string ((⟨#[123]⟩ : ByteArray) ++ (x1 ++ (⟨#[44]⟩ : ByteArray) ++ x2) ++ (⟨#[58]⟩ : ByteArray) ++ kb ++ (⟨#[125]⟩ : ByteArray))]), 123 :: (numText (0) ++ (44 :: (numText hi ++ (58 :: (b.k ++ [125]))))), Times b.L (0) hi, b.n + 1⟩, rfl, ⟨d + 1, Or.inr (Or.inr (Or.inr (Or.inr (Or.inr (Or.inl ⟨b, 0, hi, _, by rw [hbv], key_rep x1 x2 kb _ _ _ hx1 hx2 hkb, TreeF.keep (keeps_below hb8) _ _ hd, by omega, rfl, rfl, (fun _ => rfl), Nat.le_refl _⟩)))))⟩, rfl, Nat.le_refl _, hb8⟩
                · clear h8
                  have hit := itoa_any (lo) (by omega) (by omega) w5 (hl.keep hb5)
                  go_wp2_with fail
                  refine hit.mono ?_
                  clear hit
                  rintro e w6 ⟨x1, rfl, hx1, hs1, hb6'⟩
                  have hb6 := hb5.trans (hb6'.mono hb5.size)
                  have hit := itoa_any hi (by omega) (by omega) w6 (hl.keep hb6)
                  go_wp2_with fail
                  refine hit.mono ?_
                  clear hit
                  rintro e w7 ⟨x2, rfl, hx2, hs2, hb7'⟩
                  have hb7 := hb6.trans (hb7'.mono hb6.size)
                  go_wp2_with fail
                  rw [hentb, Oper.upon_enter]
                  refine (hcallb _).mono ?_
                  rintro e w8 ⟨rfl, hb8'⟩
                  have hb8 := hb7.trans (hb8'.mono hb7.size)
                  go_wp2_with fail
                  go_ret
                  obtain ⟨d, hd⟩ := hb
                  exact ⟨⟨.iface 170 (.agg #[.iface Tb pb, .int .i64 (lo), .int .i64 hi, .string ((⟨#[123]⟩ : ByteArray) ++ (x1 ++ (⟨#[44]⟩ : ByteArray) ++ x2) ++ (⟨#[58]⟩ : ByteArray) ++ kb ++ (⟨#[125]⟩ : ByteArray))]), 123 :: (numText (lo) ++ (44 :: (numText hi ++ (58 :: (b.k ++ [125]))))), Times b.L (lo) hi, b.n + 1⟩, rfl, ⟨d + 1, Or.inr (Or.inr (Or.inr (Or.inr (Or.inr (Or.inl ⟨b, lo, hi, _, by rw [hbv], key_rep x1 x2 kb _ _ _ hx1 hx2 hkb, TreeF.keep (keeps_below hb8) _ _ hd, by omega, rfl, rfl, HLOW.out, Nat.le_refl _⟩)))))⟩, rfl, Nat.le_refl _, hb8⟩

theorem repeat_any (b : Tr) (lo hi : Int) (w : World) (ok : Nat → Prop) (hb : TreeOk w ok b) (h0 : 0 ≤ lo) (h1 : lo ≤ 9) (h2 : -1 ≤ hi) (h3 : hi ≤ 9) (hle : hi = -1 ∨ lo ≤ hi) (hn : b.n ≤ 1000000) (hl : LaidT w) :
    Calls Tryz.prog 76 #[b.v, .int .i64 lo, .int .i64 hi] w fun e w' => Gives w ok (Times b.L lo hi) (b.n + 1) e w' := by
  obtain ⟨E, hE⟩ := tellsE
  cases heb : E b.L with
  | true =>
    rw [times_low b.L ((hE _).1 heb) lo hi h0 hle]
    exact rep_true b lo hi w ok hb hE heb h0 h1 h2 h3 hle hn hl
  | false => exact rep_false b lo hi w ok hb hE heb h0 h1 h2 h3 hle hn hl
end Go.Proofs.YtkoaeojdlanolaaGreatDoor
