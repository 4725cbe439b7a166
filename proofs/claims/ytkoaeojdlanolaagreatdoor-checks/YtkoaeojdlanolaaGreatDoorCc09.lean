import Derived.Test.YtkoaeojdlanolaaGreatDoorCc08
/-
  tree.Then.
-/
namespace Go.Proofs.YtkoaeojdlanolaaGreatDoor
open Go.RowKit
open Munch (Words Wempty Wbytes Wcat Wany Wall Wnot KeyF Times numText)

set_option maxHeartbeats 4000000 in
set_option maxRecDepth 100000 in
theorem then_f : ∀ (d : Nat) (a b : Tr) (w : World) (ok : Nat → Prop), TreeF w ok d a → TreeOk w ok b → a.n + b.n ≤ 1000000 →
    Calls Tryz.prog 119 #[a.v, b.v] w fun e w' => Gives w ok (Wcat a.L b.L) (a.n + b.n) e w' := by
  intro d
  induction d with
  | zero => intro a b w ok h; exact h.elim
  | succ d ih =>
    intro a b w ok haF hb hn
    have ha : TreeOk w ok a := ⟨d + 1, haF⟩
    have hla := ha.len
    have hlb := hb.len
    have hpa := ha.pos
    have hpb := hb.pos
    obtain ⟨Ta, pa, fa, ka, hav, hka, hma, henta, hcalla⟩ := ha.keyed.call
    obtain ⟨Tb, pb, fb, kb, hbv, hkb, hmb, hentb, hcallb⟩ := hb.keyed.call
    have hka' : ka.size = a.k.length := by rw [← show ka.data.toList = a.k from hka]; simp
    have hkb' : kb.size = b.k.length := by rw [← show kb.data.toList = b.k from hkb]; simp
    rw [hav, hbv]
    by_cases h1 : a.k = [60, 62]
    · have e1 := key_is hka _ h1
      have HL : Hid _ := none_of_key ha h1
      clear h1 haF
      go_enter Tryz.func119, Tryz.ntmps119
      go_wp2_with fail
      rw [henta, Oper.upon_enter]
      refine (hcalla _).mono ?_
      rintro e w1 ⟨rfl, hb1⟩
      go_wp2_with fail
      refine (oneOf_none w1).mono ?_
      rintro e w2 ⟨r, rfl, hrk, hrL, hrn, hrok, hb2⟩
      obtain ⟨T, p, hv⟩ := (hrok w2 (fun _ => True)).shape
      rw [hv]
      go_wp2_with fail
      go_ret
      exact ⟨r, congrArg Ending.returned hv.symm, hrok _ _, by rw [hrL, HL.out, none_cat], by omega, hb1.trans (hb2.mono hb1.size)⟩
    · have e1 := key_isnt hka _ h1
      by_cases h2 : b.k = [60, 62]
      · have e2 := key_is hkb _ h2
        have HL : Hid _ := none_of_key hb h2
        clear h1 h2 haF
        go_enter Tryz.func119, Tryz.ntmps119
        go_wp2_with fail
        rw [henta, Oper.upon_enter]
        refine (hcalla _).mono ?_
        rintro e w1 ⟨rfl, hb1⟩
        go_wp2_with fail
        rw [hentb, Oper.upon_enter]
        refine (hcallb _).mono ?_
        rintro e w2 ⟨rfl, hb2⟩
        go_wp2_with fail
        refine (oneOf_none w2).mono ?_
        rintro e w3 ⟨r, rfl, hrk, hrL, hrn, hrok, hb3⟩
        obtain ⟨T, p, hv⟩ := (hrok w3 (fun _ => True)).shape
        rw [hv]
        go_wp2_with fail
        go_ret
        exact ⟨r, congrArg Ending.returned hv.symm, hrok _ _, by rw [hrL, HL.out, cat_none], by omega, hb1.trans ((hb2.trans (hb3.mono hb2.size)).mono hb1.size)⟩
      · have e2 := key_isnt hkb _ h2
        by_cases h3 : a.k = [40, 41]
        · have e3 := key_is hka _ h3
          have HL : Hid _ := empty_of_key ha h3
          clear h1 h2 h3 haF
          go_enter Tryz.func119, Tryz.ntmps119
          go_wp2_with fail
          rw [henta, Oper.upon_enter]
          refine (hcalla _).mono ?_
          rintro e w1 ⟨rfl, hb1⟩
          go_wp2_with fail
          rw [hentb, Oper.upon_enter]
          refine (hcallb _).mono ?_
          rintro e w2 ⟨rfl, hb2⟩
          go_wp2_with fail
          rw [henta, Oper.upon_enter]
          refine (hcalla _).mono ?_
          rintro e w3 ⟨rfl, hb3⟩
          go_wp2_with fail
          go_ret
          have hb9 := hb1.trans ((hb2.trans (hb3.mono hb2.size)).mono hb1.size)
          exact ⟨b, congrArg Ending.returned hbv.symm, hb.keep (keeps_below hb9), by rw [HL.out, empty_cat], by omega, hb9⟩
        · have e3 := key_isnt hka _ h3
          by_cases h4 : b.k = [40, 41]
          · have e4 := key_is hkb _ h4
            have HL : Hid _ := empty_of_key hb h4
            clear h1 h2 h3 h4 haF
            go_enter Tryz.func119, Tryz.ntmps119
            go_wp2_with fail
            rw [henta, Oper.upon_enter]
            refine (hcalla _).mono ?_
            rintro e w1 ⟨rfl, hb1⟩
            go_wp2_with fail
            rw [hentb, Oper.upon_enter]
            refine (hcallb _).mono ?_
            rintro e w2 ⟨rfl, hb2⟩
            go_wp2_with fail
            rw [henta, Oper.upon_enter]
            refine (hcalla _).mono ?_
            rintro e w3 ⟨rfl, hb3⟩
            go_wp2_with fail
            rw [hentb, Oper.upon_enter]
            refine (hcallb _).mono ?_
            rintro e w4 ⟨rfl, hb4⟩
            go_wp2_with fail
            go_ret
            have hb9 := hb1.trans ((hb2.trans ((hb3.trans (hb4.mono hb3.size)).mono hb2.size)).mono hb1.size)
            exact ⟨a, congrArg Ending.returned hav.symm, ha.keep (keeps_below hb9), by rw [HL.out, cat_empty], by omega, hb9⟩
          · have e4 := key_isnt hkb _ h4
            rcases haF.rowCase with ⟨a1, a2, key, hrv, hf1, hf2, hL, hn'⟩ | ⟨T, p, hrv, hT⟩
            · rw [← hav, ← hbv]
              exact then_row a b a1 a2 key w ok ha hb h1 h2 h3 h4 hrv ⟨d, hf1⟩ ⟨d, hf2⟩ hL hn' (fun w' hw' => ih a2 b w' ok (TreeF.keep (keeps_below hw') _ _ hf2) (hb.keep (keeps_below hw')) (by omega)) (fun r w' hw' hr hrn => ih a1 r w' ok (TreeF.keep (keeps_below hw') _ _ hf1) hr (by omega))
            · rw [hav] at hrv
              cases hrv
              clear haF h1 h2 h3 h4 ih
              go_enter Tryz.func119, Tryz.ntmps119
              go_wp2_with fail
              rw [henta, Oper.upon_enter]
              refine (hcalla _).mono ?_
              rintro e w1 ⟨rfl, hb1⟩
              go_wp2_with fail
              rw [hentb, Oper.upon_enter]
              refine (hcallb _).mono ?_
              rintro e w2 ⟨rfl, hb2⟩
              go_wp2_with fail
              rw [henta, Oper.upon_enter]
              refine (hcalla _).mono ?_
              rintro e w3 ⟨rfl, hb3⟩
              go_wp2_with fail
              rw [hentb, Oper.upon_enter]
              refine (hcallb _).mono ?_
              rintro e w4 ⟨rfl, hb4⟩
              have hta := ta_row_miss Ta hT pa w4
              clear hT
              go_wp2_with fail
              rw [henta, Oper.upon_enter]
              refine (hcalla _).mono ?_
              rintro e w5 ⟨rfl, hb5⟩
              go_wp2_with fail
              rw [hentb, Oper.upon_enter]
              refine (hcallb _).mono ?_
              rintro e w6 ⟨rfl, hb6⟩
              go_wp2_with fail
              go_ret
              have hb9 : Below w.heap.size w w4 := hb1.trans ((hb2.trans ((hb3.trans (hb4.mono hb3.size)).mono hb2.size)).mono hb1.size)
              have hb10 := (hb9.alloc hb9.size (.cells #[.nilIface, .nilIface, .string ByteArray.empty] 223)).trans ((hb5.trans (hb6.mono hb5.size)).mono (by have := hb9.size; simp; omega))
              obtain ⟨db, hbF⟩ := hb
              refine ⟨⟨.iface 223 (.agg #[.iface Ta pa, .iface Tb pb, .string ((⟨#[40]⟩ : ByteArray) ++ ka ++ kb ++ (⟨#[41]⟩ : ByteArray))]), 40 :: (a.k ++ (b.k ++ [41])), Wcat a.L b.L, a.n + b.n⟩, rfl, ?_, rfl, Nat.le_refl _, hb10⟩
              obtain ⟨da, haF⟩ := ha
              exact ⟨max da db + 1, Or.inr (Or.inr (Or.inl ⟨a, b, _, by rw [hav, hbv], key_pair ka kb _ _ hka hkb, TreeF.keep (keeps_below hb10) _ _ (haF.up _ _ _ (by omega)), TreeF.keep (keeps_below hb10) _ _ (hbF.up _ _ _ (by omega)), rfl, rfl, Nat.le_refl _⟩))⟩

theorem then_any (a b : Tr) (w : World) (ok : Nat → Prop) (ha : TreeOk w ok a) (hb : TreeOk w ok b) (hn : a.n + b.n ≤ 1000000) :
    Calls Tryz.prog 119 #[a.v, b.v] w fun e w' => Gives w ok (Wcat a.L b.L) (a.n + b.n) e w' := by
  obtain ⟨d, h⟩ := ha
  exact then_f d a b w ok h hb hn
end Go.Proofs.YtkoaeojdlanolaaGreatDoor
