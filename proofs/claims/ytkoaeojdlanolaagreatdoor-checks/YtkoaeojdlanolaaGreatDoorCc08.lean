import Derived.Test.YtkoaeojdlanolaaGreatDoorCc07
/-
  tree.Then, at a row.
-/
namespace Go.Proofs.YtkoaeojdlanolaaGreatDoor
open Go.RowKit
open Munch (Words Wempty Wbytes Wcat Wany Wall Wnot KeyF Times numText)

def noneT : Tr := ⟨.iface 186 (.agg #[.slice none 0 0, .string ⟨#[60, 62]⟩]), [60, 62], Wany [], 1⟩
theorem noneT_ok (w : World) (ok : Nat → Prop) : TreeOk w ok noneT := ⟨1, Or.inr (Or.inr (Or.inr (Or.inl ⟨[], .slice none 0 0, ⟨#[60, 62]⟩, rfl, rfl, (none_held w ok).held, (fun y hy => by cases hy), rfl, rfl, by simp [noneT], Nat.le_refl _, by simp⟩)))⟩
def everyT : Tr := ⟨.iface 140 (.agg #[.slice none 0 0, .string ⟨#[38, 60, 62]⟩]), [38, 60, 62], Wall [], 1⟩
theorem everyT_ok (w : World) (ok : Nat → Prop) : TreeOk w ok everyT := ⟨1, Or.inr (Or.inr (Or.inr (Or.inr (Or.inl ⟨[], .slice none 0 0, ⟨#[38, 60, 62]⟩, rfl, rfl, (none_held w ok).held, (fun y hy => by cases hy), rfl, rfl, by simp [everyT], Nat.le_refl _, by simp⟩))))⟩
theorem none_of_key {w : World} {ok : Nat → Prop} {t : Tr} (h : TreeOk w ok t) (hk : t.k = [60, 62]) : t.L = Wany [] := h.same (noneT_ok w ok) hk
theorem every_of_key {w : World} {ok : Nat → Prop} {t : Tr} (h : TreeOk w ok t) (hk : t.k = [38, 60, 62]) : t.L = Wall [] := h.same (everyT_ok w ok) hk
theorem empty_of_key {w : World} {ok : Nat → Prop} {t : Tr} (h : TreeOk w ok t) (hk : t.k = [40, 41]) : t.L = Wempty := h.same (emptyT_ok w ok) hk

theorem key_is {kb : ByteArray} {k : List UInt8} (h : IsKey kb k) (l : List UInt8) (hk : k = l) : (kb.toList == l) = true := by
  rw [ByteArray.toList_eq, show kb.data.toList = k from h, hk]; simp
theorem key_isnt {kb : ByteArray} {k : List UInt8} (h : IsKey kb k) (l : List UInt8) (hk : k ≠ l) : (kb.toList == l) = false := by
  rw [ByteArray.toList_eq, show kb.data.toList = k from h]; simpa using hk

/-- A tree is a row, or of another kind. -/
theorem TreeF.rowCase {w : World} {ok : Nat → Prop} {d : Nat} {t : Tr} (h : TreeF w ok (d + 1) t) :
    (∃ (a b : Tr) (key : ByteArray), t.v = .iface 223 (.agg #[a.v, b.v, .string key]) ∧ TreeF w ok d a ∧ TreeF w ok d b ∧ t.L = Wcat a.L b.L ∧ a.n + b.n ≤ t.n) ∨
    ∃ T p, t.v = .iface T p ∧ (T = 181 ∨ T = 200 ∨ T = 172 ∨ T = 186 ∨ T = 140 ∨ T = 170) := by
  rcases h with ⟨h1, h2, _⟩ | ⟨S, f, key, h1, h2, h3, h4, h5, h6, h7⟩ | ⟨a, b, key, h1, h2, h3, h4, h5, h6, h7⟩ | ⟨ts, sv, key, h1, h2, _⟩ | ⟨ts, sv, key, h1, h2, _⟩ | ⟨b, lo, hi, key, h1, h2, _⟩ | ⟨b, key, h1, h2, h3, h4⟩
  · exact Or.inr ⟨_, _, h1, by simp⟩
  · exact Or.inr ⟨_, _, h1, by simp⟩
  · exact Or.inl ⟨a, b, key, h1, h3, h4, h6, h7⟩
  · exact Or.inr ⟨_, _, h1, by simp⟩
  · exact Or.inr ⟨_, _, h1, by simp⟩
  · exact Or.inr ⟨_, _, h1, by simp⟩
  · exact Or.inr ⟨_, _, h1, by simp⟩

theorem key_pair (ka kb : ByteArray) (a b : List UInt8) (ha : IsKey ka a) (hb : IsKey kb b) : IsKey ((⟨#[40]⟩ : ByteArray) ++ ka ++ kb ++ (⟨#[41]⟩ : ByteArray)) (40 :: (a ++ (b ++ [41]))) := by
  unfold IsKey at *; simp [ha, hb]

set_option maxHeartbeats 4000000 in
set_option maxRecDepth 100000 in
theorem then_row (a b a1 a2 : Tr) (key : ByteArray) (w : World) (ok : Nat → Prop) (ha : TreeOk w ok a) (hb : TreeOk w ok b) (h1 : a.k ≠ [60, 62]) (h2 : b.k ≠ [60, 62]) (h3 : a.k ≠ [40, 41]) (h4 : b.k ≠ [40, 41])
    (hrv : a.v = .iface 223 (.agg #[a1.v, a2.v, .string key])) (h5 : TreeOk w ok a1) (h6 : TreeOk w ok a2) (hL : a.L = Wcat a1.L a2.L) (hn : a1.n + a2.n ≤ a.n)
    (hin : ∀ w', Below w.heap.size w w' → Calls Tryz.prog 119 #[a2.v, b.v] w' fun e w'' => Gives w' ok (Wcat a2.L b.L) (a2.n + b.n) e w'')
    (hout : ∀ r w', Below w.heap.size w w' → TreeOk w' ok r → r.n ≤ a2.n + b.n → Calls Tryz.prog 119 #[a1.v, r.v] w' fun e w'' => Gives w' ok (Wcat a1.L r.L) (a1.n + r.n) e w'') :
    Calls Tryz.prog 119 #[a.v, b.v] w fun e w' => Gives w ok (Wcat a.L b.L) (a.n + b.n) e w' := by
  obtain ⟨Ta, pa, fa, ka, hav, hka, hma, henta, hcalla⟩ := ha.keyed.call
  obtain ⟨Tb, pb, fb, kb, hbv, hkb, hmb, hentb, hcallb⟩ := hb.keyed.call
  obtain ⟨T1, p1, hv1⟩ := h5.shape
  obtain ⟨T2, p2, hv2⟩ := h6.shape
  have e1 := key_isnt hka _ h1
  have e2 := key_isnt hkb _ h2
  have e3 := key_isnt hka _ h3
  have e4 := key_isnt hkb _ h4
  clear h1 h2 h3 h4 hka hkb h5 h6
  have HL : Hid _ := hL; clear hL
  rw [hav] at hrv
  cases hrv
  rw [hav, hbv]
  rw [hv1, hv2] at hma hcalla hav ⊢
  rw [hv2, hbv] at hin
  have hin' : ∀ w', Below w.heap.size w w' → Calls Tryz.prog 119 #[.iface T2 p2, .iface Tb pb] w' fun e w'' => ∃ r T p, e = .returned (.iface T p) ∧ r.v = .iface T p ∧ TreeOk w'' ok r ∧ r.L = Wcat a2.L b.L ∧ r.n ≤ a2.n + b.n ∧ Below w'.heap.size w' w'' := by
    intro w' hw'
    refine (hin w' hw').mono ?_
    rintro e w'' ⟨r, rfl, hrok, hrL, hrn, hb5⟩
    obtain ⟨T, p, hv⟩ := hrok.shape
    exact ⟨r, T, p, congrArg Ending.returned hv, hv, hrok, hrL, hrn, hb5⟩
  have hout' : ∀ r T p w', r.v = .iface T p → Below w.heap.size w w' → TreeOk w' ok r → r.n ≤ a2.n + b.n → Calls Tryz.prog 119 #[.iface T1 p1, .iface T p] w' fun e w'' => ∃ q T p, e = .returned (.iface T p) ∧ q.v = .iface T p ∧ TreeOk w'' ok q ∧ q.L = Wcat a1.L r.L ∧ q.n ≤ a1.n + r.n ∧ Below w'.heap.size w' w'' := by
    intro r T p w' hv hw' hok hrn
    have hO := hout r w' hw' hok hrn
    rw [hv1, hv] at hO
    refine hO.mono ?_
    rintro e w'' ⟨q, rfl, hrok, hrL, hrn, hb5⟩
    obtain ⟨T, p, hv⟩ := hrok.shape
    exact ⟨q, T, p, congrArg Ending.returned hv, hv, hrok, hrL, hrn, hb5⟩
  have HO : Hid _ := hout'
  have HI : Hid _ := hin'
  clear hout hout' hin hin'
  go_enter Tryz.func119, Tryz.ntmps119
  go_wp2_with fail
  rw [henta, Oper.upon_enter]
  refine (hcalla _).mono ?_
  rintro e w1 ⟨rfl, hb1⟩
  go_wp2_with fail
  rw [hentb, Oper.upon_enter]
  refine (hcallb _).mono ?_
  rintro e w2 ⟨rfl, hb2⟩
  go_wp2_with fail
  rw [henta, Oper.upon_enter]
  refine (hcalla _).mono ?_
  rintro e w3 ⟨rfl, hb3⟩
  go_wp2_with fail
  rw [hentb, Oper.upon_enter]
  refine (hcallb _).mono ?_
  rintro e w4 ⟨rfl, hb4⟩
  have hta := ta_row (.agg #[.iface T1 p1, .iface T2 p2, .string key]) w4
  have hb9 : Below w.heap.size w w4 := hb1.trans ((hb2.trans ((hb3.trans (hb4.mono hb3.size)).mono hb2.size)).mono hb1.size)
  have hb10 := hb9.alloc hb9.size (.cells #[.iface T1 p1, .iface T2 p2, .string key] 223)
  have k0 : Blk (w4.alloc (.cells #[.iface T1 p1, .iface T2 p2, .string key] 223)) w4.heap.size 223 #[.iface T1 p1, .iface T2 p2, .string key] := Blk.new _ _ _
  have hlt4 : w4.heap.size < (w4.alloc (.cells #[.iface T1 p1, .iface T2 p2, .string key] 223)).heap.size := by simp
  clear hb1 hb2 hb3 hb4 hb9 hma hmb henta hentb hcalla hcallb e1 e2 e3
  go_wp2_with fail
  clear hta e4
  generalize hW : w4.alloc (.cells #[.iface T1 p1, .iface T2 p2, .string key] 223) = W at *
  generalize hB : w4.heap.size = B at *
  have kc : W.cell? ⟨B, 0, none⟩ = some (.iface T1 p1) := k0.cell 0
  have kd : W.cell? ⟨B, 1, none⟩ = some (.iface T2 p2) := k0.cell 1
  clear hW hB
  go_region_with (go_at_call 119; first
    | (refine (HO.out r Tr_ pr _ hrv (by exact ⟨hb11.os, hb11.tape, hb11.output, hb11.size, hb11.block⟩) (by exact hrok.keep ⟨Nat.le_refl _, fun _ _ _ => rfl⟩) hrn).mono ?_; rintro e w6 ⟨r2, Tq, pq, rfl, hqv, hrok2, hrL2, hrn2, hb6⟩; have hb12 : Below w.heap.size w w6 := ⟨hb6.os.trans hb11.os, hb6.tape.trans hb11.tape, hb6.output.trans hb11.output, Nat.le_trans hb11.size hb6.size, fun k hk => (hb6.block k (Nat.lt_of_lt_of_le hk hb11.size)).trans (hb11.block k hk)⟩)
    | (refine (HI.out _ (by exact ⟨hb10.os, hb10.tape, hb10.output, hb10.size, hb10.block⟩)).mono ?_; rintro e w5 ⟨r, Tr_, pr, rfl, hrv, hrok, hrL, hrn, hb5⟩; have hb11 : Below w.heap.size w w5 := ⟨hb5.os.trans hb10.os, hb5.tape.trans hb10.tape, hb5.output.trans hb10.output, Nat.le_trans hb10.size hb5.size, fun k hk => (hb5.block k (Nat.lt_of_lt_of_le hk hb10.size)).trans (hb10.block k hk)⟩; have kc5 : w5.cell? ⟨B, 0, none⟩ = some (.iface T1 p1) := Blk.cell (w := w5) (b := B) (t := 223) (c := #[.iface T1 p1, .iface T2 p2, .string key]) ((hb5.block B hlt4).trans k0) 0))
  all_goals
    go_wp2_with fail
    go_ret
    exact ⟨r2, congrArg Ending.returned hqv.symm, hrok2.keep ⟨Nat.le_refl _, fun _ _ _ => rfl⟩, by rw [hrL2, hrL, HL.out, cat_assoc], by omega, ⟨hb12.os, hb12.tape, hb12.output, hb12.size, hb12.block⟩⟩
end Go.Proofs.YtkoaeojdlanolaaGreatDoor
