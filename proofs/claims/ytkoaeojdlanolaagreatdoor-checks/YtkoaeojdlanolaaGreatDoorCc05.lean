import Derived.Test.YtkoaeojdlanolaaGreatDoorCc04
/-
  tree.splitHead.
-/
namespace Go.Proofs.YtkoaeojdlanolaaGreatDoor
open Go.RowKit
open Munch (Words Wempty Wbytes Wcat Wany Wall Wnot KeyF Times numText)

def Split (w : World) (ok : Nat → Prop) (t : Tr) (e : Ending) : Prop :=
  (∃ (f : Value) (S : Nat → Bool) (rest : Tr), e = .returned (.tuple #[f, rest.v, .bool true]) ∧ SetOk w ok f S ∧ TreeOk w ok rest ∧ t.L = Wcat (Wbytes S) rest.L ∧ rest.n ≤ t.n) ∨
  e = .returned (.tuple #[.nilFunc, .nilIface, .bool false])

set_option maxHeartbeats 1000000 in
set_option maxRecDepth 100000 in
theorem split_byte (S : Nat → Bool) (f : Value) (key : ByteArray) (t : Tr) (w0 w : World) (ok : Nat → Prop) (hv : t.v = .iface 181 (.agg #[f, .string key])) (hS : SetOk w0 ok f S) (hL : t.L = Wbytes S) (hn : 1 ≤ t.n) :
    Calls Tryz.prog 127 #[t.v] w fun e w' => Split w0 ok t e ∧ Below w.heap.size w w' := by
  rw [hv]
  obtain ⟨fn, caps, rfl⟩ := hS.notAgg
  have HP : Hid (Split w0 ok t (.returned (.tuple #[.func (.func fn) #[] caps, .iface 200 (.agg #[]), .bool true]))) :=
    Or.inl ⟨_, S, emptyT, rfl, hS, emptyT_ok _ _, by rw [hL]; exact (cat_empty _).symm, hn⟩
  clear hS hL
  have hta := ta_byte (.agg #[.func (.func fn) #[] caps, .string key]) w
  have hb0 := (Below.refl w.heap.size w).alloc (Nat.le_refl _) (.cells #[.func (.func fn) #[] caps, .string key] 181)
  have k0 : Blk (w.alloc (.cells #[.func (.func fn) #[] caps, .string key] 181)) w.heap.size 181 #[.func (.func fn) #[] caps, .string key] := Blk.new _ _ _
  go_enter Tryz.func127, Tryz.ntmps127
  go_wp2_with fail
  go_region_with (go_at_call 96; refine (empty_any _).mono ?_; rintro e w1 ⟨rfl, hb1⟩; have hcw : w1.cell? ⟨w.heap.size, 0, none⟩ = some (.func (.func fn) #[] caps) := by first | exact (k0.below hb1 (by simp)).cell 0 | exact (k0.drew.below hb1 (by simp)).cell 0 | exact (k0.drew.drew.below hb1 (by simp)).cell 0 | exact (k0.drew.drew.drew.below hb1 (by simp)).cell 0)
  all_goals
    go_wp2_with fail
    go_ret3
    refine ⟨HP.out, ?_⟩
    first | exact hb0.trans (hb1.mono (by simp)) | exact (hb0.trans (hb1.mono (by simp))).drew | exact (hb0.drew).trans (hb1.mono (by simp)) | exact ((hb0.drew).trans (hb1.mono (by simp))).drew | exact (hb0.drew.drew).trans (hb1.mono (by simp)) | exact (((hb0.drew).trans (hb1.mono (by simp))).drew).drew | exact ((hb0.drew.drew).trans (hb1.mono (by simp))).drew

set_option maxHeartbeats 1000000 in
set_option maxRecDepth 100000 in
theorem split_row (a b : Tr) (key : ByteArray) (t : Tr) (w0 w : World) (ok : Nat → Prop) (hv : t.v = .iface 223 (.agg #[a.v, b.v, .string key])) (ha : TreeOk w0 ok a) (hb : TreeOk w0 ok b) (hL : t.L = Wcat a.L b.L) (hn : a.n + b.n ≤ t.n) :
    Calls Tryz.prog 127 #[t.v] w fun e w' => Split w0 ok t e ∧ Below w.heap.size w w' := by
  rw [hv]
  obtain ⟨Tb, pb, hbv⟩ := hb.shape
  have h1 := ta_byte_miss 223 (by simp) (.agg #[a.v, b.v, .string key]) w
  have h2 := ta_row (.agg #[a.v, b.v, .string key]) w
  have hb0 := (Below.refl w.heap.size w).alloc (Nat.le_refl _) (.cells #[a.v, b.v, .string key] 223)
  have k0 : Blk (w.alloc (.cells #[a.v, b.v, .string key] 223)) w.heap.size 223 #[a.v, b.v, .string key] := Blk.new _ _ _
  rcases ha.headCase with ⟨S, f, ka, hav, hS, haL, han⟩ | hoth
  · obtain ⟨fn, caps, rfl⟩ := hS.notAgg
    have HP : Hid (Split w0 ok t (.returned (.tuple #[.func (.func fn) #[] caps, b.v, .bool true]))) :=
      Or.inl ⟨_, S, b, rfl, hS, hb, by rw [hL, haL], by omega⟩
    clear hS hL haL
    rw [hav, hbv] at h1 h2 k0 hb0
    rw [hbv] at HP
    rw [hav, hbv]
    have hta := ta_byte (.agg #[.func (.func fn) #[] caps, .string ka]) (w.alloc (.cells #[.iface 181 (.agg #[.func (.func fn) #[] caps, .string ka]), .iface Tb pb, .string key] 223))
    have hb1 := hb0.alloc (by simp) (.cells #[.func (.func fn) #[] caps, .string ka] 181)
    go_enter Tryz.func127, Tryz.ntmps127
    go_wp2_with fail
    go_quiet (fail)
    go_wp2_with fail
    go_ret3
    exact ⟨HP.out, below_drewN hb1 _⟩
  · obtain ⟨Ta, pa, hav, hTa⟩ : ∃ Ta pa, a.v = .iface Ta pa ∧ (Ta = 223 ∨ Ta = 200 ∨ Ta = 172 ∨ Ta = 186 ∨ Ta = 140 ∨ Ta = 170) := by
      rcases hoth with ⟨_, _, _, h, _⟩ | ⟨T, p, h, hT⟩
      · exact ⟨_, _, h, Or.inl rfl⟩
      · exact ⟨T, p, h, Or.inr hT⟩
    rw [hav, hbv] at h1 h2 k0 hb0
    rw [hav, hbv]
    have hta := ta_byte_miss Ta hTa pa (w.alloc (.cells #[.iface Ta pa, .iface Tb pb, .string key] 223))
    have hb1 := hb0.alloc (by simp) (.cells #[.nilFunc, .string ByteArray.empty] 181)
    clear hTa hL hoth
    go_enter Tryz.func127, Tryz.ntmps127
    go_wp2_with fail
    go_ret3
    exact ⟨Or.inr rfl, hb1⟩


set_option maxHeartbeats 1000000 in
set_option maxRecDepth 100000 in
theorem split_other (T : TypeId) (p : Value) (t : Tr) (w0 w : World) (ok : Nat → Prop) (hv : t.v = .iface T p) (hT : T = 200 ∨ T = 172 ∨ T = 186 ∨ T = 140 ∨ T = 170) :
    Calls Tryz.prog 127 #[t.v] w fun e w' => Split w0 ok t e ∧ Below w.heap.size w w' := by
  rw [hv]
  have h1 := ta_byte_miss T (Or.inr hT) p w
  have h2 := ta_row_miss T (Or.inr hT) p w
  clear hT
  go_enter Tryz.func127, Tryz.ntmps127
  go_wp2_with fail
  go_ret3
  exact ⟨Or.inr rfl, Below.refl _ _⟩

theorem splitHead_any (t : Tr) (w0 w : World) (ok : Nat → Prop) (h : TreeOk w0 ok t) : Calls Tryz.prog 127 #[t.v] w fun e w' => Split w0 ok t e ∧ Below w.heap.size w w' := by
  rcases h.headCase with ⟨S, f, key, hv, hS, hL, hn⟩ | ⟨a, b, key, hv, ha, hb, hL, hn⟩ | ⟨T, p, hv, hT⟩
  · exact split_byte S f key t w0 w ok hv hS hL hn
  · exact split_row a b key t w0 w ok hv ha hb hL hn
  · exact split_other T p t w0 w ok hv hT
end Go.Proofs.YtkoaeojdlanolaaGreatDoor
/-
  tree.joinKeys.
-/
namespace Go.Proofs.YtkoaeojdlanolaaGreatDoor
open Go.RowKit

theorem builderAt_keep {T e : TypeId} {B b : Nat} {p : Value} {bs : List Value} {w w' : World} (h : Lib.BuilderAt T e B b p bs w) (hb : Below w.heap.size w w') : Lib.BuilderAt T e B b p bs w' := by
  obtain ⟨h1, v, h2, h3, h4⟩ := h
  exact ⟨h1, v, (hb.block b (lt_of_block h2)).trans h2, ownsRow_keep h3 hb, h4⟩
theorem isBuilder_keep {T e : TypeId} {B b : Nat} {bs : List Value} {w w' : World} (h : Lib.IsBuilder T e B b bs w) (hb : Below w.heap.size w w') : Lib.IsBuilder T e B b bs w' := by
  rcases h with h | h
  · exact Or.inl (builderAt_keep h hb)
  · exact Or.inr (builderAt_keep h hb)

theorem builder_write (B b : Nat) (bs : List Value) (s : ByteArray) (w : World) (h : Lib.IsBuilder 191 5 B b bs w) (hlen : bs.length + s.size ≤ 140737488355328) (hBw : B ≤ w.heap.size) :
    Calls Tryz.prog 110 #[.pointer (some ⟨b, 0, none⟩), .string s] w fun e w' => e = .returned (.tuple #[.int .i64 s.size, .nilIface]) ∧ (Lib.BuilderAt 191 5 B b (.pointer (some ⟨b, 0, none⟩)) (bs ++ Lib.strCells s) w' ∧ Below B w w') :=
  Any.Builder_WriteString { Tryz.lays156 with } Tryz.Builder_Extra_156 B b bs s w h hlen hBw

set_option maxHeartbeats 4000000 in
set_option maxRecDepth 100000 in
theorem joinKeys_any (sv : Value) (ts : List Tr) (w : World) {ok : Nat → Prop} (hS : TreesOk w ok sv ts) (hn : (ts.map (·.n)).sum ≤ 1000000) :
    Calls Tryz.prog 85 #[sv] w fun e w' => ∃ x : ByteArray, e = .returned (.string x) ∧ x.data.toList = (ts.map (·.k)).flatten ∧ Below w.heap.size w w' := by
  obtain ⟨ao, cap, rfl, hmax⟩ := hS.held.shape
  go_enter Tryz.func85, Tryz.ntmps85
  go_wp2_with fail
  have hfl := flat_len ts (fun x hx => (hS.trees x hx).len)
  have hb0 := (Below.refl w.heap.size w).alloc (Nat.le_refl _) (.cells #[.pointer none, .slice none 0 0] 191)
  have hbd : Lib.IsBuilder 191 5 w.heap.size w.heap.size (Lib.byteCells []) (w.alloc (.cells #[.pointer none, .slice none 0 0] 191)) :=
    Or.inl ⟨Nat.le_refl _, .slice none 0 0, Blk.new _ _ _, World.ownsRow_nil _ _ _ _, by simp [Value.ownBlock]⟩
  go_loopw [8] (fun i wr => ∃ k : Nat, k ≤ ts.length ∧ i = .int .i64 k ∧ Below w.heap.size w wr ∧ w.heap.size + 1 ≤ wr.heap.size ∧ Lib.IsBuilder 191 5 w.heap.size w.heap.size (Lib.byteCells ((ts.take k).map (·.k)).flatten) wr) (fun i _ => ts.length - (intOf i).toNat)
  case atStart => exact ⟨0, Nat.zero_le _, rfl, hb0, by simp, by simpa using hbd⟩
  case round =>
    obtain ⟨k, hk, rfl, hnx, hsz, hB⟩ := hrel
    have HB : Hid _ := hB; clear hB
    by_cases hlt : k < ts.length
    · obtain ⟨g, rfl, hx, hg⟩ := hS.held.at_ k hlt
      obtain ⟨T, p, f, kb, hv, hkb, hm, hent, hcall⟩ := (hS.trees ts[k] (List.getElem_mem hlt)).keyed.call
      have hx' : wr.cell? ⟨g, k, none⟩ = some (.iface T p) := by rw [hnx.cell (p := ⟨g, k, none⟩) hg, ← hv]; exact hx
      have hcl := hcall wr
      clear hcall hx hv
      have htk : ((ts.take (k + 1)).map (·.k)).flatten = ((ts.take k).map (·.k)).flatten ++ kb.data.toList := by
        rw [List.take_succ_eq_append_getElem hlt, List.map_append, List.flatten_append, show kb.data.toList = ts[k].k from hkb]; simp
      have hle : (((ts.take (k + 1)).map (·.k)).flatten).length ≤ 2000000000 := by
        have : ((ts.take (k + 1)).map (·.k)).flatten.length ≤ (ts.map (·.k)).flatten.length := by
          have e : ts = ts.take (k + 1) ++ ts.drop (k + 1) := (List.take_append_drop _ _).symm
          conv => rhs; rw [e]
          rw [List.map_append, List.flatten_append, List.length_append]; omega
        omega
      rw [htk, List.length_append] at hle
      have HTK : Hid _ := htk; clear htk
      have hkl : kb.data.toList.length = kb.size := by simp
      rw [hkl] at hle
      go_wp2_with fail
      rw [hent, Oper.upon_enter]
      refine hcl.mono ?_
      rintro e w1 ⟨rfl, hb1⟩
      clear hcl
      have hB1 := isBuilder_keep HB.out hb1
      have hnx1 := hnx.trans (hb1.mono hnx.size)
      have hsz1 : w.heap.size + 1 ≤ w1.heap.size := by have := hb1.size; omega
      have hwr := builder_write w.heap.size w.heap.size _ kb w1 hB1 (by rw [Lib.byteCells_length]; omega) (by omega)
      go_wp2_with fail
      refine hwr.mono ?_
      rintro e w2 ⟨rfl, hB2, hb2⟩
      clear hwr
      have HB2 : Hid _ := hB2; clear hB2
      go_wp2_with fail
      go_roundw
      case rel =>
        refine ⟨k + 1, by omega, by go_num, hnx1.trans hb2, by have := hb2.size; omega, Or.inr ?_⟩
        have e : Lib.byteCells ((ts.take (k + 1)).map (·.k)).flatten = Lib.byteCells ((ts.take k).map (·.k)).flatten ++ Lib.strCells kb := by
          rw [HTK.out]; unfold Lib.byteCells Lib.strCells; rw [List.map_append]
        rw [e]
        exact HB2.out
      case measure => simp [intOf]; omega
    · obtain rfl : k = ts.length := by omega
      rw [List.take_of_length_le (Nat.le_refl _)] at HB
      have hst := Tryz.Builder_String_any w.heap.size w.heap.size _ wr HB.out (by omega)
      go_wp2_with fail
      refine hst.mono ?_
      rintro e w1 ⟨rfl, hb1⟩
      go_wp2_with fail
      go_ret
      exact ⟨_, rfl, rfl, hnx.trans hb1⟩
end Go.Proofs.YtkoaeojdlanolaaGreatDoor
/-
  tree.settle's two functions.
-/
namespace Go.Proofs.YtkoaeojdlanolaaGreatDoor
open Go.RowKit

theorem enters_cmp : Enters 101 := enters_of Tryz.func101 (by kernel_rfl) (by kernel_rfl)
theorem enters_eq : Enters 104 := enters_of Tryz.func104 (by kernel_rfl) (by kernel_rfl)

/-- Only draws and new blocks. -/
def Grew (w w' : World) : Prop := ∃ q os, w' = Sort.grow (w.drewN q) os
theorem Grew.below {w w' : World} (h : Grew w w') : Below w.heap.size w w' := by
  obtain ⟨q, os, rfl⟩ := h
  refine ⟨rfl, rfl, rfl, by simp [Sort.grow], fun k hk => ?_⟩
  simp [Sort.grow, Array.getElem?_append, hk]

set_option maxHeartbeats 1000000 in
set_option maxRecDepth 100000 in
theorem cmp_call (v1 v2 : Value) (k1 k2 : List UInt8) (w : World) (h1 : Keyed v1 k1) (h2 : Keyed v2 k2) :
    Calls Tryz.prog 101 #[v1, v2] w fun e w' => e = .returned (.int .i64 (Lib.compareBytes k1 k2)) ∧ Grew w w' := by
  obtain ⟨T, p, f, kb, rfl, hkb, hm, hent, hcall⟩ := h1
  obtain ⟨T', p', f', kb', rfl, hkb', hm', hent', hcall'⟩ := h2
  go_enter Tryz.func101, Tryz.ntmps101
  go_wp2_with fail
  rw [hent, Oper.upon_enter]
  refine (hcall _).mono ?_
  rintro e w1 ⟨rfl, os, rfl⟩
  go_wp2_with fail
  rw [hent', Oper.upon_enter]
  refine (hcall' _).mono ?_
  rintro e w2 ⟨rfl, os', rfl⟩
  have hc := Tryz.strings_Compare kb kb' (Sort.grow (Sort.grow w os) os')
  rw [hkb, hkb'] at hc
  go_wp2_with fail
  refine hc.mono ?_
  rintro e w3 ⟨rfl, rfl⟩
  go_wp2_with fail
  go_ret
  exact ⟨rfl, 0, os ++ os', by rw [Sort.grow_grow]; rfl⟩
set_option maxHeartbeats 1000000 in
set_option maxRecDepth 100000 in
theorem eq_call (v1 v2 : Value) (k1 k2 : List UInt8) (w : World) (h1 : Keyed v1 k1) (h2 : Keyed v2 k2) :
    Calls Tryz.prog 104 #[v1, v2] w fun e w' => e = .returned (.bool (k1 == k2)) ∧ Grew w w' := by
  obtain ⟨T, p, f, kb, rfl, hkb, hm, hent, hcall⟩ := h1
  obtain ⟨T', p', f', kb', rfl, hkb', hm', hent', hcall'⟩ := h2
  go_enter Tryz.func104, Tryz.ntmps104
  go_wp2_with fail
  rw [hent, Oper.upon_enter]
  refine (hcall _).mono ?_
  rintro e w1 ⟨rfl, os, rfl⟩
  go_wp2_with fail
  rw [hent', Oper.upon_enter]
  refine (hcall' _).mono ?_
  rintro e w2 ⟨rfl, os', rfl⟩
  go_wp2_with fail
  go_ret
  exact ⟨ret_bool (by rw [ByteArray.toList_eq, ByteArray.toList_eq, hkb, hkb']), 0, os ++ os', by rw [Sort.grow_grow]; rfl⟩
end Go.Proofs.YtkoaeojdlanolaaGreatDoor
