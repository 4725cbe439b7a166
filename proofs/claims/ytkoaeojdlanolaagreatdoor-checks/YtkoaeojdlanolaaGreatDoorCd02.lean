import Derived.Test.YtkoaeojdlanolaaGreatDoorCd01
import Derived.Test.YtkoaeojdlanolaaGreatDoorCa02
import Derived.Test.YtkoaeojdlanolaaGreatDoorCc10
import Derived.Deep.LoopGhost
import Derived.Test.YtkoaeojdlanolaaGreatDoorCc14
/-
  THE DEVELOPERS' READER: spans.
-/
namespace Go.Proofs.YtkoaeojdlanolaaGreatDoor
open Go.RowKit
open Munch (Words Wempty Wbytes Wcat Wany Wall Wnot KeyF Times numText)

theorem Moves.setNew {R : Nat} {a w : World} (h : Moves R a w) {b : Nat} (hb : a.heap.size ≤ b) (k : Nat) (v : Value) : Moves R a (w.setCell ⟨b, k, none⟩ v) :=
  ⟨h.os, h.tape, h.output, by rw [size_setCell]; exact h.size, fun x hx hne => (Below.heap_setCell w ⟨b, k, none⟩ v x (by show x ≠ b; omega)).trans (h.block x hx hne)⟩
theorem Moves.grown {R : Nat} {a w w1 : World} (h : Moves R a w) {row : Option Nat} (hg : w.grownBy w1 row) (hr : ∀ k, row = some k → a.heap.size ≤ k) : Moves R a w1 :=
  ⟨hg.os.trans h.os, hg.tape.trans h.tape, hg.output.trans h.output, Nat.le_trans h.size hg.size, fun x hx hne => (hg.block x (Nat.lt_of_lt_of_le hx h.size) (fun e => by have := hr x e.symm; omega)).trans (h.block x hx hne)⟩
theorem sets_snoc {w w1 : World} {ok : Nat → Prop} {base : Nat} {ov ov' : Value} {v : Value} {S : Nat → Bool} (ht : SetOk w (Apart ok base ov) v S) (hg : w.grownBy w1 ov.ownBlock) (hat : ov'.ownBlock = ov.ownBlock ∨ ov'.ownBlock = some w.heap.size) : SetOk w1 (Apart ok base ov') v S := by
  have h1 : SetOk w (fun x => Apart ok base ov x ∧ Apart ok base ov' x) v S := ht.mono (fun x hx h => ⟨h, h.1, by
    rcases hat with e | e
    · rw [e]; exact h.2
    · rw [e]; intro he; simp at he; omega⟩)
  have h2 : SetOk w1 (fun x => Apart ok base ov x ∧ Apart ok base ov' x) v S := h1.keep ⟨hg.size, fun x hx h => hg.block x hx (fun e => h.1.2 e.symm)⟩
  exact h2.mono (fun x _ h => h.2)

theorem laid_moves {w w' : World} {R i mb : Nat} {s : ByteArray} {nest deep : Int} (h : Laid w) (hr : Rs w R s i nest deep mb) (hm : Moves R w w') : Laid w' := by
  have h3 : (3 : Nat) < w.heap.size := cell_lt h.tz
  have h4 : (3 : Nat) ≠ R := by
    intro e
    subst e
    have := Blk.cell hr 15
    rw [h.tz] at this
    simp at this
  exact ⟨(World.cell?_of_block (hm.block 3 h3 (by simpa using h4))).trans h.tz⟩
theorem laidT_moves {w w' : World} {R i mb : Nat} {s : ByteArray} {nest deep : Int} (h : LaidT w) (hr : Rs w R s i nest deep mb) (hm : Moves R w w') : LaidT w' := by
  refine ⟨laid_moves h.laid hr hm, ?_⟩
  obtain ⟨t, fr, hp⟩ := h.pow
  have h4 : (1 : Nat) ≠ R := by
    intro e
    subst e
    unfold Rs Blk at hr
    rw [hr] at hp
    simp at hp
    have := congrArg List.length hp.1
    simp [Lib.pow10Tab] at this
  exact ⟨t, fr, by rw [hm.block 1 (lt_of_block hp) (by simpa using h4)]; exact hp⟩

/-- What a method that reads a part answers: 'm' bounds its size. -/
def Parsed {α : Type} (R : Nat) (s : ByteArray) (mb : Nat) (nest : Int) (res : Munch.Res α) (out : α → Munch.Node × Nat × Int) (m : Nat → Nat) (w : World) (e : Ending) (w' : World) : Prop :=
  Moves R w w' ∧ ((∃ p nest' deep', res = .bad p ∧ e = .returned (.tuple #[.agg #[.nilIface, .int .i64 0], .bool false]) ∧ Rs w' R s p nest' deep' mb) ∨
    (∃ x v, res = .ok x ∧ e = .returned (.tuple #[v, .bool true]) ∧ Rs w' R s (out x).2.1 nest (out x).2.2 mb ∧ PieceOk w' w.heap.size (out x).1 (m (out x).2.1) v))

structure SpInv (R : Nat) (s : ByteArray) (mb : Nat) (nest deep : Int) (w w1 : World) (B : Nat) (sa : Option Addr) (sc : Nat) (vs : List Value) (acc : List (Nat × Nat)) (j : Nat) (wr : World) : Prop where
  row : wr.ownsRow w1.heap.size 149 1 (.slice sa vs.length sc) vs.length vs
  len : vs.length = acc.length
  sets : ∀ (k : Nat) (x : Nat × Nat), acc[k]? = some x → ∃ v, vs[k]? = some v ∧ SetOk wr (Apart (fun _ => False) w1.heap.size (.slice sa vs.length sc)) v (spanV x.1 x.2)
  rs : Rs wr R s j nest deep mb
  res : Blk wr B 82 #[.nilIface, .int .i64 0]
  moves : Moves R w wr
  small : acc.length ≤ j
  grow : w1.heap.size ≤ wr.heap.size
  le : j ≤ s.size

theorem SpInv.keep {R : Nat} {s : ByteArray} {mb : Nat} {nest deep : Int} {w w1 : World} {B : Nat} {sa : Option Addr} {sc : Nat} {vs : List Value} {acc : List (Nat × Nat)} {j j' : Nat} {wr wr' : World} (h : SpInv R s mb nest deep w w1 B sa sc vs acc j wr) (hm : Moves R wr wr') (hr : Rs wr' R s j' nest deep mb) (hjj : j ≤ j') (hle : j' ≤ s.size) (hR : R < w1.heap.size) (hB : B ≠ R) : SpInv R s mb nest deep w w1 B sa sc vs acc j' wr' where
  row := ownsRow_keeps h.row hm.keeps (fun g hg => by have := (h.row.lt g hg).1; omega)
  len := h.len
  sets := fun k x hx => by
    obtain ⟨v, hv, hs⟩ := h.sets k x hx
    refine ⟨v, hv, hs.keep (hm.keeps.mono (fun b _ hb => ?_))⟩
    rcases hb.1 with h1 | h1
    · exact h1.elim
    · omega
  rs := hr
  res := h.res.grown hm (by simpa using hB)
  moves := h.moves.trans hm
  small := Nat.le_trans h.small hjj
  grow := Nat.le_trans h.grow hm.size
  le := hle

theorem SpInv.snoc {R : Nat} {s : ByteArray} {mb : Nat} {nest deep : Int} {w w1 : World} {B : Nat} {sa : Option Addr} {sc : Nat} {vs : List Value} {acc : List (Nat × Nat)} {j j' : Nat} {wr wr' : World} (h : SpInv R s mb nest deep w w1 B sa sc vs acc j wr) (hj : acc.length + 1 ≤ j') (hle : j' ≤ s.size) (hr : Rs wr R s j' nest deep mb) {g cap : Nat} {f : Value} {x : Nat × Nat}
    (hf : SetOk wr (Apart (fun _ => False) w1.heap.size (.slice sa vs.length sc)) f (spanV x.1 x.2)) (hown : wr'.ownsRow w1.heap.size 149 1 (.slice (some ⟨g, 0, none⟩) (vs.length + 1) cap) (vs.length + 1) (vs ++ [f])) (hg : wr.grownBy wr' (Value.slice sa vs.length sc).ownBlock) (hat : (Value.slice sa vs.length sc).ownBlock = some g ∨ g = wr.heap.size) (hw1 : w.heap.size ≤ w1.heap.size) (hR : R < w1.heap.size) (hB : B < w1.heap.size) :
    SpInv R s mb nest deep w w1 B (some ⟨g, 0, none⟩) cap (vs ++ [f]) (acc ++ [x]) j' wr' := by
  have hat' : (Value.slice (some ⟨g, 0, none⟩) (vs ++ [f]).length cap).ownBlock = (Value.slice sa vs.length sc).ownBlock ∨ (Value.slice (some ⟨g, 0, none⟩) (vs ++ [f]).length cap).ownBlock = some wr.heap.size := by
    rcases hat with e | e
    · left; rw [e]; rfl
    · right; rw [e]; rfl
  refine ⟨by simpa using hown, by simp [h.len], fun k y hy => ?_, ?_, ?_, h.moves.grown hg (fun k hk => by have := (h.row.lt k hk).1; omega), by simp; omega, Nat.le_trans h.grow hg.size, hle⟩
  · rcases snoc_case hy with hy | ⟨rfl, rfl⟩
    · obtain ⟨v, hv, hs⟩ := h.sets k y hy
      exact ⟨v, by rw [List.getElem?_append_left (lt_of_at hv)]; exact hv, sets_snoc hs hg hat'⟩
    · exact ⟨f, by rw [← h.len, List.getElem?_append_right (Nat.le_refl _)]; simp, sets_snoc hf hg hat'⟩
  · exact Blk.grown hr hg (fun e => by have := (h.row.lt R e.symm).1; omega)
  · exact h.res.grown hg (fun e => by have := (h.row.lt B e.symm).1; omega)

theorem anySpans (acc : List (Nat × Nat)) (c : Nat) : anyV (acc.map fun x => spanV x.1 x.2) c = acc.any fun x => decide (x.1 ≤ c) && decide (c ≤ x.2) := by
  unfold anyV; rw [List.any_map]; rfl

set_option maxHeartbeats 4000000 in
set_option maxRecDepth 100000 in
theorem spansM_any (R : Nat) (s : ByteArray) (i mb N : Nat) (nest deep : Int) (w : World) (hr : Rs w R s i nest deep mb) (hi : i < s.size) (hs : s.size ≤ 80) (hl : Laid w) (hout : Munch.setR s N (i + 1) ≠ .out) :
    Calls Tryz.prog 160 #[.pointer (some ⟨R, 0, none⟩)] w fun e w' => Parsed R s mb nest (Munch.setR s N (i + 1)) (fun x => (x.1, x.2, deep)) (fun _ => 1) w e w' := by
  obtain ⟨i2, hi2, hi20, hi21, hi22⟩ := info_parts infoSet
  have hRl := hr.lt
  have c1 := hr.c1
  have f1 := hr.fr 1
  have hw : IntKind.i64.wrap ((i : Int) + 1) = (i : Int) + 1 := by rw [IntKind.wrap_i64]; omega
  have hb0 := below_box (w.setCell ⟨R, 1, none⟩ (.int .i64 ((i : Int) + 1))) (.cells #[.nilIface, .int .i64 0] 82)
  have hr1 : Rs ((w.setCell ⟨R, 1, none⟩ (.int .i64 ((i : Int) + 1))).alloc (.cells #[.nilIface, .int .i64 0] 82)) R s (i + 1) nest deep mb := by
    have := (hr.set1 (i + 1))
    rw [show ((i + 1 : Nat) : Int) = (i : Int) + 1 from by omega] at this
    exact this.keep hb0
  have hm1 : Moves R w ((w.setCell ⟨R, 1, none⟩ (.int .i64 ((i : Int) + 1))).alloc (.cells #[.nilIface, .int .i64 0] 82)) := ((Moves.refl R w).set 1 _).trans (Moves.of_below hb0)
  have kB1 : Blk ((w.setCell ⟨R, 1, none⟩ (.int .i64 ((i : Int) + 1))).alloc (.cells #[.nilIface, .int .i64 0] 82)) w.heap.size 82 #[.nilIface, .int .i64 0] := by
    have := Blk.new (w.setCell ⟨R, 1, none⟩ (.int .i64 ((i : Int) + 1))) #[.nilIface, .int .i64 0] 82
    rwa [size_setCell] at this
  have HOUT : Hid _ := hout
  clear hout
  go_enter Tryz.func160, Tryz.ntmps160
  go_wp2_with fail
  have ht := take_any R s (i + 1) mb nest deep 94 _ hr1 (by omega) hs
  refine ht.mono ?_
  clear ht
  rintro e w1 ⟨rfl, hr2, hm2⟩
  have kB2 : Blk w1 w.heap.size 82 #[.nilIface, .int .i64 0] := kB1.grown hm2 (by simp; omega)
  have hm12 := hm1.trans hm2
  have hR1 : R < w1.heap.size := hr2.lt
  have hB1 : w.heap.size < w1.heap.size := kB2.lt
  obtain ⟨j0, hj0⟩ : ∃ j0, j0 = (if Munch.hasAt s (i + 1) 94 then i + 1 + 1 else i + 1) := ⟨_, rfl⟩
  rw [← hj0] at hr2
  have hj0l : j0 ≤ s.size := by
    rw [hj0]
    cases hh : Munch.hasAt s (i + 1) 94 with
    | true => have := Munch.hasAt_true _ _ _ hh; simp; omega
    | false => simp; omega
  have HSR : Hid (Munch.setR s N (i + 1) = (Munch.spans s N j0 []).bind fun x => .ok (.set (Munch.hasAt s (i + 1) 94) x.1, x.2)) := by
    show Munch.setR s N (i + 1) = _
    unfold Munch.setR; rw [hj0]
  have HNO : Hid (Munch.spans s N j0 [] ≠ .out) := fun h => HOUT.out (by rw [HSR.out, h]; rfl)
  have HLD : Hid _ := hl
  clear hj0 hr1 hm1 hm2 kB1 c1 f1 hb0 hl HOUT
  have H0 : SpInv R s mb nest deep w w1 w.heap.size none 0 [] [] j0 w1 := ⟨World.ownsRow_nil _ _ _ _, rfl, (fun k x h => by simp at h), hr2, kB2, hm12, Nat.zero_le _, Nat.le_refl _, hj0l⟩
  go_wp2_with fail
  go_loopg [5] N (fun k sv wr => k ≤ N ∧ ∃ (sa : Option Addr) (sc : Nat) (vs : List Value) (acc : List (Nat × Nat)) (j : Nat), sv = .slice sa vs.length sc ∧ SpInv R s mb nest deep w w1 w.heap.size sa sc vs acc j wr ∧ Hid (Munch.spans s k j acc = Munch.spans s N j0 []))
  case atStart => exact ⟨Nat.le_refl _, none, 0, [], [], j0, rfl, H0, rfl⟩
  case round =>
    obtain ⟨hgN, sa, sc, vs, acc, j, rfl, H, HV⟩ := hrel
    clear H0 hr2 kB2 hm12
    obtain ⟨K, rfl⟩ : ∃ K, gk = K + 1 := by
      cases gk with
      | zero => exact absurd (by rw [← HV.out]; rfl) HNO.out
      | succ K => exact ⟨K, rfl⟩
    have HE : Hid (Munch.spans s N j0 [] = if Munch.hasAt s j 93 then .ok (acc, j + 1) else (Munch.span s j).bind fun x => Munch.spans s K x.2 (acc ++ [x.1])) := by
      show Munch.spans s N j0 [] = _
      rw [← HV.out]; rfl
    have hjl := H.le
    have hvl : vs.length ≤ 80 := by have := H.len; have := H.small; omega
    have ht := take_any R s j mb nest deep 93 wr H.rs hjl hs
    have hBR : w.heap.size ≠ R := by omega
    cases hh : Munch.hasAt s j 93 with
    | true =>
      rw [hh] at ht
      have hjlt := Munch.hasAt_true _ _ _ hh
      have HF : Hid (Munch.setR s N (i + 1) = .ok (.set (Munch.hasAt s (i + 1) 94) acc, j + 1)) := by
        show Munch.setR s N (i + 1) = _
        rw [HSR.out, HE.out, hh]; rfl
      clear HE HV hh
      go_wp2_with fail
      refine ht.mono ?_
      clear ht
      rintro e w2 ⟨rfl, hr2, hm2⟩
      replace hr2 : Rs w2 R s (j + 1) nest deep mb := by simpa using hr2
      have H2 := H.keep hm2 hr2 (Nat.le_succ j) (by omega) hR1 hBR
      clear H hr2 hm2
      have HSS : Hid (SetsOk w2 (fun _ => True) (.slice sa vs.length sc) (acc.map fun x => spanV x.1 x.2)) := by
        refine ⟨vs, w1.heap.size, by rw [List.length_map, ← H2.len]; exact H2.row, fun _ _ => trivial, fun k S hk => ?_⟩
        rw [List.getElem?_map] at hk
        cases hx : acc[k]? with
        | none => rw [hx] at hk; simp at hk
        | some x =>
          rw [hx] at hk; simp at hk; subst hk
          obtain ⟨v, hv, hset⟩ := H2.sets k x hx
          exact ⟨v, hv, hset.mono (fun _ _ _ => trivial)⟩
      have hld2 : Laid w2 := laid_moves HLD.out hr H2.moves
      have hany := anyOf_any _ _ w2 _ HSS.out
      have hkB2 := H2.res
      have hrs2 := H2.rs
      have hmv2 := H2.moves
      clear H2 HSS
      go_wp2_with fail
      refine hany.mono ?_
      clear hany
      rintro e w3 ⟨f3, rfl, hs3, hb3⟩
      obtain ⟨fn3, caps3, rfl⟩ := hs3.notAgg
      cases ho : Munch.hasAt s (i + 1) 94 with
      | false =>
        rw [ho] at HF
        have hof := ofBytes_any _ _ w3 _ hs3 (hld2.keep hb3)
        have hszx := hb3.size
        clear hs3
        go_wp2_with fail
        refine hof.mono ?_
        clear hof
        rintro e w5 ⟨r, T, p, rfl, hv, hrok, hrL, hrn, hb5⟩
        have hb25 := hb3.trans (hb5.mono hb3.size)
        have hkB := hkB2.below hb25 hkB2.lt
        have d0 := hkB.cell 0
        have d1 := hkB.cell 1
        have g0 := hkB.frozen 0
        have g1 := hkB.frozen 1
        simp at d0 d1
        have hmF := (((hmv2.trans (Moves.of_below hb25)).setNew (b := w.heap.size) (Nat.le_refl _) 0 (.iface T p)).setNew (b := w.heap.size) (Nat.le_refl _) 1 (.int .i64 1))
        have hrF : Rs ((w5.setCell ⟨w.heap.size, 0, none⟩ (.iface T p)).setCell ⟨w.heap.size, 1, none⟩ (.int .i64 1)) R s (j + 1) nest deep mb := Blk.setOther (Blk.setOther (hrs2.keep hb25) (a := ⟨w.heap.size, 0, none⟩) (by show R ≠ w.heap.size; omega) _) (a := ⟨w.heap.size, 1, none⟩) (by show R ≠ w.heap.size; omega) _
        have kF : Blk ((w5.setCell ⟨w.heap.size, 0, none⟩ (.iface T p)).setCell ⟨w.heap.size, 1, none⟩ (.int .i64 1)) w.heap.size 82 #[.iface T p, .int .i64 1] := by
          have := (hkB.set 0 (.iface T p)).set 1 (.int .i64 1); simpa using this
        have HR : Hid (PieceOk ((w5.setCell ⟨w.heap.size, 0, none⟩ (.iface T p)).setCell ⟨w.heap.size, 1, none⟩ (.int .i64 1)) w.heap.size (.set false acc) 1 (.agg #[.iface T p, .int .i64 1])) := by
          have hR2 := hrs2.lt
          have hB2 := hkB2.lt
          have h1 : TreeOk w5 (fun x => w.heap.size ≤ x ∧ x ≠ w.heap.size) r := hrok.mono (fun x _ hx => by constructor <;> omega)
          refine ⟨r, T, p, rfl, hv, ?_, by rw [hrL]; exact lang_spans false acc _ (fun c _ => by simp [Munch.inSet, anySpans]), by omega⟩
          exact ((h1.keep ((keeps_both (keeps_set w5 ⟨w.heap.size, 0, none⟩ (.iface T p)) (keeps_set _ ⟨w.heap.size, 1, none⟩ (.int .i64 1))).mono (fun x _ hx => ⟨hx.2, hx.2⟩))).mono (fun x _ hx => hx.1))
        clear hrok hkB hkB2 hrs2
        go_wp2_with fail
        have z0 := kF.cell 0
        have z1 := kF.cell 1
        simp at z0 z1
        refine bodyPost_ret (v := .tuple #[.agg #[.iface T p, .int .i64 1], .bool true]) (by simp [results, Tryz.results160, go_sem, z0, z1]) rfl ?_
        exact ⟨hmF, Or.inr ⟨(.set false acc, j + 1), _, HF.out, rfl, hrF, HR.out⟩⟩
      | true =>
        rw [ho] at HF
        have hou := outside_any _ _ w3 _ hs3
        clear hs3
        go_wp2_with fail
        refine hou.mono ?_
        clear hou
        rintro e w4 ⟨f4, rfl, hs4, hb4'⟩
        obtain ⟨fn4, caps4, rfl⟩ := hs4.notAgg
        have hb4 := hb3.trans (hb4'.mono hb3.size)
        have hof := ofBytes_any _ _ w4 _ hs4 (hld2.keep hb4)
        have hszx := hb4.size
        clear hs4
        go_wp2_with fail
        refine hof.mono ?_
        clear hof
        rintro e w5 ⟨r, T, p, rfl, hv, hrok, hrL, hrn, hb5⟩
        have hb25 := hb4.trans (hb5.mono hb4.size)
        have hkB := hkB2.below hb25 hkB2.lt
        have d0 := hkB.cell 0
        have d1 := hkB.cell 1
        have g0 := hkB.frozen 0
        have g1 := hkB.frozen 1
        simp at d0 d1
        have hmF := (((hmv2.trans (Moves.of_below hb25)).setNew (b := w.heap.size) (Nat.le_refl _) 0 (.iface T p)).setNew (b := w.heap.size) (Nat.le_refl _) 1 (.int .i64 1))
        have hrF : Rs ((w5.setCell ⟨w.heap.size, 0, none⟩ (.iface T p)).setCell ⟨w.heap.size, 1, none⟩ (.int .i64 1)) R s (j + 1) nest deep mb := Blk.setOther (Blk.setOther (hrs2.keep hb25) (a := ⟨w.heap.size, 0, none⟩) (by show R ≠ w.heap.size; omega) _) (a := ⟨w.heap.size, 1, none⟩) (by show R ≠ w.heap.size; omega) _
        have kF : Blk ((w5.setCell ⟨w.heap.size, 0, none⟩ (.iface T p)).setCell ⟨w.heap.size, 1, none⟩ (.int .i64 1)) w.heap.size 82 #[.iface T p, .int .i64 1] := by
          have := (hkB.set 0 (.iface T p)).set 1 (.int .i64 1); simpa using this
        have HR : Hid (PieceOk ((w5.setCell ⟨w.heap.size, 0, none⟩ (.iface T p)).setCell ⟨w.heap.size, 1, none⟩ (.int .i64 1)) w.heap.size (.set true acc) 1 (.agg #[.iface T p, .int .i64 1])) := by
          have hR2 := hrs2.lt
          have hB2 := hkB2.lt
          have h1 : TreeOk w5 (fun x => w.heap.size ≤ x ∧ x ≠ w.heap.size) r := hrok.mono (fun x _ hx => by constructor <;> omega)
          refine ⟨r, T, p, rfl, hv, ?_, by rw [hrL]; exact lang_spans true acc _ (fun c _ => by simp [Munch.inSet, anySpans]), by omega⟩
          exact ((h1.keep ((keeps_both (keeps_set w5 ⟨w.heap.size, 0, none⟩ (.iface T p)) (keeps_set _ ⟨w.heap.size, 1, none⟩ (.int .i64 1))).mono (fun x _ hx => ⟨hx.2, hx.2⟩))).mono (fun x _ hx => hx.1))
        clear hrok hkB hkB2 hrs2
        go_wp2_with fail
        have z0 := kF.cell 0
        have z1 := kF.cell 1
        simp at z0 z1
        refine bodyPost_ret (v := .tuple #[.agg #[.iface T p, .int .i64 1], .bool true]) (by simp [results, Tryz.results160, go_sem, z0, z1]) rfl ?_
        exact ⟨hmF, Or.inr ⟨(.set true acc, j + 1), _, HF.out, rfl, hrF, HR.out⟩⟩
    | false =>
      rw [hh] at ht
      have HE2 : Hid (Munch.spans s N j0 [] = (Munch.span s j).bind fun x => Munch.spans s K x.2 (acc ++ [x.1])) := by
        show Munch.spans s N j0 [] = _
        rw [HE.out, hh]; rfl
      clear HE HV hh
      go_wp2_with fail
      refine ht.mono ?_
      clear ht
      rintro e w2 ⟨rfl, hr2, hm2⟩
      replace hr2 : Rs w2 R s j nest deep mb := by simpa using hr2
      have H2 := H.keep hm2 hr2 (Nat.le_refl j) hjl hR1 hBR
      have hsp := rspan_any R s j mb nest deep w2 hr2 hjl hs
      clear H hr2 hm2
      go_wp2_with fail
      refine hsp.mono ?_
      clear hsp
      rintro e w3 ⟨hm3, ⟨p, v, hres, rfl, hr3⟩ | ⟨a, b, j2, fn, caps, hres, rfl, hset, hr3⟩⟩
      · have HG : Hid (Munch.setR s N (i + 1) = .bad p) := by
          show Munch.setR s N (i + 1) = _
          rw [HSR.out, HE2.out, hres]; rfl
        have hkB := H2.res.grown hm3 (by simpa using hBR)
        have d0 := hkB.cell 0
        have d1 := hkB.cell 1
        have g0 := hkB.frozen 0
        have g1 := hkB.frozen 1
        simp at d0 d1
        have hm4 := (((H2.moves.trans hm3).setNew (b := w.heap.size) (Nat.le_refl _) 0 .nilIface).setNew (b := w.heap.size) (Nat.le_refl _) 1 (.int .i64 0))
        have hr4 : Rs ((w3.setCell ⟨w.heap.size, 0, none⟩ .nilIface).setCell ⟨w.heap.size, 1, none⟩ (.int .i64 0)) R s p nest deep mb := Blk.setOther (Blk.setOther hr3 (a := ⟨w.heap.size, 0, none⟩) (by show R ≠ w.heap.size; omega) _) (a := ⟨w.heap.size, 1, none⟩) (by show R ≠ w.heap.size; omega) _
        have hkB2 : Blk ((w3.setCell ⟨w.heap.size, 0, none⟩ .nilIface).setCell ⟨w.heap.size, 1, none⟩ (.int .i64 0)) w.heap.size 82 #[.nilIface, .int .i64 0] := by
          have := (hkB.set 0 .nilIface).set 1 (.int .i64 0); simpa using this
        clear hres H2 hm3 hr3 hkB
        go_wp2_with fail
        have z0 := hkB2.cell 0
        have z1 := hkB2.cell 1
        simp at z0 z1
        refine bodyPost_ret (v := .tuple #[.agg #[.nilIface, .int .i64 0], .bool false]) (by simp [results, Tryz.results160, go_sem, z0, z1]) rfl ?_
        exact ⟨hm4, Or.inl ⟨p, nest, deep, HG.out, rfl, hr4⟩⟩
      · have hbd := Munch.span_ok _ _ _ _ hres
        have HG : Hid (Munch.spans s K j2 (acc ++ [(a, b)]) = Munch.spans s N j0 []) := by
          show _ = _
          rw [HE2.out, hres]; rfl
        have hw2 : w1.heap.size ≤ w2.heap.size := H2.grow
        have H3 := H2.keep hm3 hr3 (Nat.le_of_lt hbd.1) hbd.2.1 hR1 hBR
        have hb4 := below_box w3 (.cells #[.func (.func fn) #[] caps] 149)
        have H4 := H3.keep (Moves.of_below hb4) (hr3.keep hb4) (Nat.le_refl _) hbd.2.1 hR1 hBR
        have hset4 : SetOk (w3.alloc (.cells #[.func (.func fn) #[] caps] 149)) (Apart (fun _ => False) w1.heap.size (.slice sa vs.length sc)) (.func (.func fn) #[] caps) (spanV a b) := by
          refine (hset.mono (fun x _ hx => ⟨Or.inr (by omega), fun e => ?_⟩)).keep (keeps_below hb4)
          have := (H2.row.lt x e).2
          omega
        have hbase : w1.heap.size ≤ (w3.alloc (.cells #[.func (.func fn) #[] caps] 149)).heap.size := H4.grow
        have hww : w.heap.size ≤ w1.heap.size := by omega
        have hr4 := hr3.keep hb4
        have hsm : acc.length + 1 ≤ j2 := by have := H2.small; omega
        clear hres hset H2 hm3
        go_wp2_with (at_builtin; go_must (refine wpList_append_lies _ rfl (.tmp 29) (.tmp 31) 179 rfl w1.heap.size 149 i2 .nilFunc 1 8 Tryz.underlying179 hi2 hi20 hi21 hi22 rfl (by decide) _ _ _ rfl H4.row ⟨w3.heap.size, 0, none⟩ 1 1 [.func (.func fn) #[] caps] rfl rfl (World.news_of_block (Blk.new _ _ _)) (by intro u hu; simp at hu; subst hu; rfl) (by decide) (by unfold maxLen; omega) (by omega) hbase _ rfl ?_))
        intro g2 cap2 w5 hown5 hgrow5 hat5 hlt5
        have H5 := H4.snoc (j' := j2) (x := (a, b)) hsm hbd.2.1 hr4 hset4 hown5 hgrow5 (by simpa using hat5) hww hR1 hB1
        clear hown5 hgrow5 hat5 hlt5 H4 H3 hset4 hr4 hr3 hb4
        go_wp2_with fail
        go_roundg K
        case measure => omega
        case rel => exact ⟨by omega, some ⟨g2, 0, none⟩, cap2, vs ++ [.func (.func fn) #[] caps], acc ++ [(a, b)], j2, by simp, H5, HG.out⟩
end Go.Proofs.YtkoaeojdlanolaaGreatDoor
/-
  THE DEVELOPERS' READER: results; escaped; star, plus, question.
-/
namespace Go.Proofs.YtkoaeojdlanolaaGreatDoor
open Go.RowKit
open Munch (Words Wempty Wbytes Wcat Wany Wall Wnot KeyF Times numText)

/-- A piece is laid into the result's block. -/
theorem put_piece {w w5 : World} {R j mb B base m : Nat} {s : ByteArray} {nest deep : Int} {x y : Value} {nd : Munch.Node} {r : Tr} {T : TypeId} {p : Value} (hm : Moves R w w5) (hB : w.heap.size ≤ B) (hBR : B ≠ R) (hr : Rs w5 R s j nest deep mb) (hk : Blk w5 B 82 #[x, y])
    (hv : r.v = .iface T p) (hrok : TreeOk w5 (fun x => base ≤ x ∧ x ≠ B) r) (hL : r.L = Munch.Lang nd) (hn : r.n ≤ m) (wt : Int) (hwt : wt = (Munch.weightV nd : Int)) :
    Moves R w ((w5.setCell ⟨B, 0, none⟩ (.iface T p)).setCell ⟨B, 1, none⟩ (.int .i64 wt)) ∧ Rs ((w5.setCell ⟨B, 0, none⟩ (.iface T p)).setCell ⟨B, 1, none⟩ (.int .i64 wt)) R s j nest deep mb ∧
    Blk ((w5.setCell ⟨B, 0, none⟩ (.iface T p)).setCell ⟨B, 1, none⟩ (.int .i64 wt)) B 82 #[.iface T p, .int .i64 wt] ∧ PieceOk ((w5.setCell ⟨B, 0, none⟩ (.iface T p)).setCell ⟨B, 1, none⟩ (.int .i64 wt)) base nd m (.agg #[.iface T p, .int .i64 wt]) := by
  refine ⟨(hm.setNew hB 0 _).setNew hB 1 _, ?_, ?_, ⟨r, T, p, by rw [hwt], hv, ?_, hL, hn⟩⟩
  · exact Blk.setOther (Blk.setOther hr (a := ⟨B, 0, none⟩) (fun e => hBR e.symm) _) (a := ⟨B, 1, none⟩) (fun e => hBR e.symm) _
  · have h1 := (hk.set 0 (.iface T p)).set 1 (.int .i64 wt)
    simpa using h1
  · exact ((hrok.keep ((keeps_both (keeps_set w5 ⟨B, 0, none⟩ (.iface T p)) (keeps_set _ ⟨B, 1, none⟩ (.int .i64 wt))).mono (fun x _ hx => ⟨hx.2, hx.2⟩))).mono (fun x _ hx => hx.1))
/-- Nothing is laid into the result's block. -/
theorem put_none {w w5 : World} {R j mb B : Nat} {s : ByteArray} {nest deep : Int} {x y : Value} (hm : Moves R w w5) (hB : w.heap.size ≤ B) (hBR : B ≠ R) (hr : Rs w5 R s j nest deep mb) (hk : Blk w5 B 82 #[x, y]) :
    Moves R w ((w5.setCell ⟨B, 0, none⟩ .nilIface).setCell ⟨B, 1, none⟩ (.int .i64 0)) ∧ Rs ((w5.setCell ⟨B, 0, none⟩ .nilIface).setCell ⟨B, 1, none⟩ (.int .i64 0)) R s j nest deep mb ∧
    Blk ((w5.setCell ⟨B, 0, none⟩ .nilIface).setCell ⟨B, 1, none⟩ (.int .i64 0)) B 82 #[.nilIface, .int .i64 0] := by
  refine ⟨(hm.setNew hB 0 _).setNew hB 1 _, ?_, ?_⟩
  · exact Blk.setOther (Blk.setOther hr (a := ⟨B, 0, none⟩) (fun e => hBR e.symm) _) (a := ⟨B, 1, none⟩) (fun e => hBR e.symm) _
  · have h1 := (hk.set 0 .nilIface).set 1 (.int .i64 0)
    simpa using h1

def escR (s : ByteArray) (i : Nat) : Munch.Res (Munch.Node × Nat) := if h : i < s.size then (if s[i].toNat = 10 then .bad i else .ok (Munch.one s[i], i + 1)) else .bad i

set_option maxHeartbeats 2000000 in
set_option maxRecDepth 100000 in
theorem escaped_any (R : Nat) (s : ByteArray) (i mb : Nat) (nest deep : Int) (w : World) (hr : Rs w R s i nest deep mb) (hi : i ≤ s.size) (hs : s.size ≤ 80) (hl : Laid w) :
    Calls Tryz.prog 163 #[.pointer (some ⟨R, 0, none⟩)] w fun e w' => Parsed R s mb nest (escR s i) (fun x => (x.1, x.2, deep)) (fun _ => 1) w e w' := by
  have hRl := hr.lt
  have hb0 := below_box w (.cells #[.nilIface, .int .i64 0] 82)
  have kB : Blk (w.alloc (.cells #[.nilIface, .int .i64 0] 82)) w.heap.size 82 #[.nilIface, .int .i64 0] := Blk.new _ _ _
  have hr0 := hr.keep hb0
  have hen := ended_any R s i mb nest deep _ hr0
  have hBR : w.heap.size ≠ R := by omega
  by_cases hlt : i < s.size
  · have hd : decide (i = s.size) = false := by simp; omega
    rw [hd] at hen
    clear hd
    go_enter Tryz.func163, Tryz.ntmps163
    go_wp2_with fail
    refine hen.mono ?_
    clear hen
    rintro e w1 ⟨rfl, n1, rfl⟩
    have hse := sees_any R s i mb nest deep 10 _ (hr0.drewN n1) hi
    have hb1 : Below w.heap.size w ((w.alloc (.cells #[.nilIface, .int .i64 0] 82)).drewN n1) := below_drewN hb0 n1
    cases hh : Munch.hasAt s i 10 with
    | true =>
      rw [hh] at hse
      have HE : Hid (escR s i = .bad i) := by
        show escR s i = .bad i
        rw [Munch.hasAt_lt _ _ _ hlt] at hh
        unfold escR; rw [dif_pos hlt, if_pos (by simpa using hh)]
      clear hh
      go_wp2_with fail
      refine hse.mono ?_
      clear hse
      rintro e w2 ⟨rfl, hb2⟩
      have hb12 := hb1.trans (hb2.mono hb1.size)
      have hkB := (kB.drewN n1).below hb2 (kB.drewN n1).lt
      obtain ⟨hmF, hrF, kF⟩ := put_none (Moves.of_below hb12) (Nat.le_refl _) hBR ((hr0.drewN n1).keep hb2) hkB
      have d0 := hkB.cell 0
      have d1 := hkB.cell 1
      have g0 := hkB.frozen 0
      have g1 := hkB.frozen 1
      simp at d0 d1
      clear hkB
      go_wp2_with fail
      have z0 := kF.cell 0
      have z1 := kF.cell 1
      simp at z0 z1
      refine bodyPost_ret (v := .tuple #[.agg #[.nilIface, .int .i64 0], .bool false]) (by simp [results, Tryz.results163, go_sem, z0, z1]) rfl ?_
      exact ⟨hmF, Or.inl ⟨i, nest, deep, HE.out, rfl, hrF⟩⟩
    | false =>
      rw [hh] at hse
      have HE : Hid (escR s i = .ok (Munch.one s[i], i + 1)) := by
        show escR s i = _
        rw [Munch.hasAt_lt _ _ _ hlt] at hh
        unfold escR; rw [dif_pos hlt, if_neg (by simpa using hh)]
      clear hh
      go_wp2_with fail
      refine hse.mono ?_
      clear hse
      rintro e w2 ⟨rfl, hb2⟩
      have hb12 := hb1.trans (hb2.mono hb1.size)
      have hkB := (kB.drewN n1).below hb2 (kB.drewN n1).lt
      have hr2 := (hr0.drewN n1).keep hb2
      have c0 := hr2.c0
      have c1 := hr2.c1
      have hi' : (i : Int) < (s.size : Int) := by omega
      have hw : IntKind.i64.wrap ((i : Int) + 1) = (i : Int) + 1 := by rw [IntKind.wrap_i64]; omega
      clear hb1 hb2
      go_wp2_with fail
      go_quiet (fail)
      have hr3 := hr2.drewN nq
      have c1' := hr3.c1
      have f1' := hr3.fr 1
      have hr4 : Rs ((w2.drewN nq).setCell ⟨R, 1, none⟩ (.int .i64 ((i : Int) + 1))) R s (i + 1) nest deep mb := by
        have := hr3.set1 (i + 1)
        rwa [show ((i + 1 : Nat) : Int) = (i : Int) + 1 from by omega] at this
      have hm4 : Moves R w ((w2.drewN nq).setCell ⟨R, 1, none⟩ (.int .i64 ((i : Int) + 1))) := ((Moves.of_below (R := R) hb12).trans (Moves.of_below (below_drewN' w2 nq))).set _ _
      have hkB4 : Blk ((w2.drewN nq).setCell ⟨R, 1, none⟩ (.int .i64 ((i : Int) + 1))) w.heap.size 82 #[.nilIface, .int .i64 0] := (hkB.drewN nq).setOther (a := ⟨R, 1, none⟩) hBR _
      have hl4 := laid_moves hl hr hm4
      generalize hW : (w2.drewN nq).setCell ⟨R, 1, none⟩ (.int .i64 ((i : Int) + 1)) = w4 at *
      have hsp := span_any s[i].toNat s[i].toNat w4
      go_wp2_with fail
      clear hW
      refine hsp.mono ?_
      clear hsp
      rintro e w5 ⟨f, rfl, hset, hb5⟩
      have hof := ofBytes_any f _ w5 _ hset (hl4.keep hb5)
      obtain ⟨fn, caps, rfl⟩ := hset.notAgg
      clear hset
      go_wp2_with fail
      refine hof.mono ?_
      clear hof
      rintro e w6 ⟨r, T, p, rfl, hv, hrok, hrL, hrn, hb6⟩
      have hb46 := hb5.trans (hb6.mono hb5.size)
      have hkB6 := hkB4.below hb46 hkB4.lt
      have hlt4 := hkB4.lt
      have hsz5 := hb5.size
      obtain ⟨hmF, hrF, kF, HP⟩ := put_piece (nd := Munch.one s[i]) (m := 1) (base := w.heap.size) (hm4.trans (Moves.of_below hb46)) (Nat.le_refl _) hBR (hr4.keep hb46) hkB6 hv (hrok.mono (fun x _ hx => by constructor <;> omega)) (by rw [hrL]; exact lang_span _ _) (by omega) 1 rfl
      have d0 := hkB6.cell 0
      have d1 := hkB6.cell 1
      have g0 := hkB6.frozen 0
      have g1 := hkB6.frozen 1
      simp at d0 d1
      have HPH : Hid _ := HP
      clear HP hkB6 hrok
      go_wp2_with fail
      have z0 := kF.cell 0
      have z1 := kF.cell 1
      simp at z0 z1
      refine bodyPost_ret (v := .tuple #[.agg #[.iface T p, .int .i64 1], .bool true]) (by simp [results, Tryz.results163, go_sem, z0, z1]) rfl ?_
      exact ⟨hmF, Or.inr ⟨(Munch.one s[i], i + 1), _, HE.out, rfl, hrF, HPH.out⟩⟩
  · have HE : Hid (escR s i = .bad i) := by
      show escR s i = .bad i
      unfold escR; rw [dif_neg hlt]
    have hd : decide (i = s.size) = true := by simp; omega
    rw [hd] at hen
    clear hd
    go_enter Tryz.func163, Tryz.ntmps163
    go_wp2_with fail
    refine hen.mono ?_
    clear hen
    rintro e w1 ⟨rfl, n1, rfl⟩
    have hb1 : Below w.heap.size w ((w.alloc (.cells #[.nilIface, .int .i64 0] 82)).drewN n1) := below_drewN hb0 n1
    have hkB := kB.drewN n1
    obtain ⟨hmF, hrF, kF⟩ := put_none (Moves.of_below hb1) (Nat.le_refl _) hBR (hr0.drewN n1) hkB
    have d0 := hkB.cell 0
    have d1 := hkB.cell 1
    have g0 := hkB.frozen 0
    have g1 := hkB.frozen 1
    simp at d0 d1
    clear hkB
    go_wp2_with fail
    have z0 := kF.cell 0
    have z1 := kF.cell 1
    simp at z0 z1
    refine bodyPost_ret (v := .tuple #[.agg #[.nilIface, .int .i64 0], .bool false]) (by simp [results, Tryz.results163, go_sem, z0, z1]) rfl ?_
    exact ⟨hmF, Or.inl ⟨i, nest, deep, HE.out, rfl, hrF⟩⟩
end Go.Proofs.YtkoaeojdlanolaaGreatDoor
