/-
  THE WALK of table.readState.
-/
import Derived.Test.YtjhopgfgfljcoaaDoorDvSpec
namespace Go.Proofs.YtjhopgfgfljcoaaDoor
open Go.RowKit

theorem infoEdgeD : (Tryd.prog.info? 66).map (fun i => (i.zero, i.size, i.bytes)) = some (some (.agg #[.int .u8 0, .int .u8 0, .int .i64 0]), 3, 16) := by kernel_rfl

def edgeCellsD (E : List Munch.Edge) : List Value := E.flatMap fun x => [.int .u8 x.1, .int .u8 x.2.1, .int .i64 x.2.2]
theorem edgeCellsD_snoc (E : List Munch.Edge) (a b c : Int) : edgeCellsD (E ++ [(a, b, c)]) = edgeCellsD E ++ [.int .u8 a, .int .u8 b, .int .i64 c] := by simp [edgeCellsD]

/-- What table.readState answers, by its specification. -/
def StatePostD (R : Option (Int × List Munch.Edge)) (w : World) (e : Ending) (w' : World) : Prop :=
  (R = none ∧ e = .returned (.tuple #[.agg #[.int .i64 0, .slice none 0 0], .bool false]) ∧ Below w.heap.size w w') ∨
  (∃ tag E v, R = some (tag, E) ∧ e = .returned (.tuple #[.agg #[.int .i64 tag, v], .bool true]) ∧ w'.ownsRow w.heap.size 66 3 v E.length (edgeCellsD E) ∧ Below w.heap.size w w')

set_option maxHeartbeats 1000000 in
theorem readState_empty (s : ByteArray) (n : Int) (w : World) (hs : s.size = 0) :
    Calls Tryd.prog 20 #[.string s, .int .i64 n] w fun e w' => StatePostD (Munch.stateV s.data.toList n) w e w' := by
  obtain rfl : s = ByteArray.empty := by
    apply ByteArray.ext; apply Array.eq_empty_of_size_eq_zero; simpa using hs
  go_enter Tryd.func20, Tryd.ntmps20
  go_wp2_with fail
  exact bodyPost_ret (v := .tuple #[.agg #[.int .i64 0, .slice none 0 0], .bool false]) (by simp [results, Tryd.results20, go_sem]) rfl (Or.inl ⟨rfl, rfl, (Below.refl _ _).alloc (Nat.le_refl _) _⟩)

theorem isEmpty_no (s : ByteArray) (hs : 0 < s.size) : s.toList.isEmpty = false := by rw [ByteArray.toList_eq, toList_cons s hs]; rfl

set_option maxHeartbeats 1000000 in
theorem readState_bad (s : ByteArray) (n : Int) (w : World) (hs : 0 < s.size) (hb : Munch.badTag s[0] = true) :
    Calls Tryd.prog 20 #[.string s, .int .i64 n] w fun e w' => StatePostD (Munch.stateV s.data.toList n) w e w' := by
  have hR : Munch.stateV s.data.toList n = none := by rw [toList_cons s hs, Munch.stateV, if_pos hb]
  rw [hR]
  have hne := isEmpty_no s hs
  have c := readTag_any s[0] (w.alloc (.cells #[.int .i64 0, .slice none 0 0] 59))
  rw [tagPair, if_pos hb] at c
  clear hb hR
  go_enter Tryd.func20, Tryd.ntmps20
  go_wp2_with fail
  refine c.mono ?_
  rintro e w' ⟨rfl, rfl⟩
  clear c
  go_wp2_with fail
  exact bodyPost_ret (v := .tuple #[.agg #[.int .i64 0, .slice none 0 0], .bool false]) (by simp [results, Tryd.results20, go_sem]) rfl (Or.inl ⟨rfl, rfl, (Below.refl _ _).alloc (Nat.le_refl _) _⟩)

set_option maxHeartbeats 1000000 in
theorem readState_odd (s : ByteArray) (n : Int) (w : World) (hs : 0 < s.size) (hs1 : s.size ≤ 200000) (hb : Munch.badTag s[0] = false) (hm : (s.size - 1) % 10 ≠ 0) :
    Calls Tryd.prog 20 #[.string s, .int .i64 n] w fun e w' => StatePostD (Munch.stateV s.data.toList n) w e w' := by
  have hR : Munch.stateV s.data.toList n = none := by rw [toList_cons s hs]; exact Munch.stateV_mod _ _ _ (by simpa using hm)
  rw [hR]
  have hne := isEmpty_no s hs
  have c := readTag_any s[0] (w.alloc (.cells #[.int .i64 0, .slice none 0 0] 59))
  rw [tagPair, if_neg (by rw [hb]; decide)] at c
  have hm' : (((s.size : Int) - 1) % 10 != 0) = true := by rw [bne_iff_ne]; omega
  clear hb hR hm
  go_enter Tryd.func20, Tryd.ntmps20
  go_wp2_with fail
  refine c.mono ?_
  rintro e w' ⟨rfl, rfl⟩
  clear c
  go_wp2_with fail
  exact bodyPost_ret (v := .tuple #[.agg #[.int .i64 0, .slice none 0 0], .bool false]) (by simp [results, Tryd.results20, go_sem]) rfl (Or.inl ⟨rfl, rfl, (Below.refl _ _).alloc (Nat.le_refl _) _⟩)

/-- The loop's state in memory: the result's block, the row of the edges. -/
structure StInvD (B : Nat) (w : World) (L : List Munch.Edge) (ao : Option Addr) (cap : Nat) (wr : World) : Prop where
  res : Blk wr B 59 #[.int .i64 0, .slice none 0 0]
  own : wr.ownsRow (B + 1) 66 3 (.slice ao L.length cap) L.length (edgeCellsD L)
  below : Below B w wr

theorem StInvD.size {B : Nat} {w : World} {L : List Munch.Edge} {ao : Option Addr} {cap : Nat} {wr : World} (h : StInvD B w L ao cap wr) : B + 1 ≤ wr.heap.size := by
  have := h.res.lt; omega
theorem StInvD.keep {B : Nat} {w : World} {L : List Munch.Edge} {ao : Option Addr} {cap : Nat} {wr w' : World} (h : StInvD B w L ao cap wr) (hb : Below wr.heap.size wr w') : StInvD B w L ao cap w' :=
  ⟨h.res.below hb h.res.lt, ownsRow_below h.own hb (Nat.le_refl _), h.below.trans (hb.mono (by have := h.size; omega))⟩
theorem StInvD.alloc {B : Nat} {w : World} {L : List Munch.Edge} {ao : Option Addr} {cap : Nat} {wr : World} (h : StInvD B w L ao cap wr) (o : Obj) : StInvD B w L ao cap (wr.alloc o) :=
  ⟨h.res.alloc o, h.own.alloc o, h.below.alloc (by have := h.size; omega) o⟩
theorem StInvD.step {B : Nat} {w : World} {L : List Munch.Edge} {ao : Option Addr} {cap : Nat} {wr w1 : World} {v' : Value} {a b c : Int} (h : StInvD B w L ao cap wr)
    (hown : w1.ownsRow (B + 1) 66 3 v' (L.length + 1) (edgeCellsD L ++ [.int .u8 a, .int .u8 b, .int .i64 c])) (hg : wr.grownBy w1 (Value.slice ao L.length cap).ownBlock) :
    ∃ ao' cap', v' = .slice ao' (L.length + 1) cap' ∧ StInvD B w (L ++ [(a, b, c)]) ao' cap' w1 := by
  obtain ⟨ao', cap', rfl⟩ := ownsRow_shape hown
  refine ⟨ao', cap', rfl, h.res.grown hg (fun hh => ?_), by simpa [edgeCellsD_snoc] using hown, h.below.grown hg (by have := h.size; omega) (fun k hk => by have := (h.own.lt k hk).1; omega)⟩
  have := (h.own.lt B hh.symm).1; omega

/-- The way out by 'State, false': the facts that the walk asks. -/
theorem StInvD.giveUp {B : Nat} {w : World} {L : List Munch.Edge} {ao : Option Addr} {cap : Nat} {wr : World} (h : StInvD B w L ao cap wr) :
    wr.cell? ⟨B, 0, none⟩ = some (.int .i64 0) ∧ wr.cell? ⟨B, 1, none⟩ = some (.slice none 0 0) ∧ wr.frozen? ⟨B, 0, none⟩ = false ∧ wr.frozen? ⟨B, 1, none⟩ = false ∧
    (wr.setCell ⟨B, 0, none⟩ (.int .i64 0)).cell? ⟨B, 1, none⟩ = some (.slice none 0 0) ∧ (wr.setCell ⟨B, 0, none⟩ (.int .i64 0)).frozen? ⟨B, 1, none⟩ = false ∧
    ((wr.setCell ⟨B, 0, none⟩ (.int .i64 0)).setCell ⟨B, 1, none⟩ (.slice none 0 0)).cell? ⟨B, 0, none⟩ = some (.int .i64 0) ∧
    ((wr.setCell ⟨B, 0, none⟩ (.int .i64 0)).setCell ⟨B, 1, none⟩ (.slice none 0 0)).cell? ⟨B, 1, none⟩ = some (.slice none 0 0) ∧
    Below B w ((wr.setCell ⟨B, 0, none⟩ (.int .i64 0)).setCell ⟨B, 1, none⟩ (.slice none 0 0)) := by
  have z := h.res.set 0 (.int .i64 0)
  have z' := z.set 1 (.slice none 0 0)
  refine ⟨?_, ?_, h.res.frozen 0, h.res.frozen 1, ?_, z.frozen 1, ?_, ?_, (h.below.setCell (by simp) _).setCell (by simp) _⟩
  · have := h.res.cell 0; simpa using this
  · have := h.res.cell 1; simpa using this
  · have := z.cell 1; simpa using this
  · have := z'.cell 0; simpa using this
  · have := z'.cell 1; simpa using this

theorem rest_data (r : ByteArray) (k : Nat) : (r.extract k r.size).data.toList = r.data.toList.drop k := by
  rw [Munch.extract_seg, Munch.seg_end]

set_option maxHeartbeats 4000000 in
set_option maxRecDepth 100000 in
theorem readState_good (s : ByteArray) (n : Int) (w : World) (hs : 0 < s.size) (hs1 : s.size ≤ 200000) (hb : Munch.badTag s[0] = false) (hm : (s.size - 1) % 10 = 0) :
    Calls Tryd.prog 20 #[.string s, .int .i64 n] w fun e w' => StatePostD (Munch.stateV s.data.toList n) w e w' := by
  obtain ⟨i0, hi, hz0, hz1, hz2⟩ := info_parts infoEdgeD
  have hR : Munch.stateV s.data.toList n = (Munch.edges n (s.data.toList.drop 1) (-1) []).map fun E => (Munch.tagV s[0], E) := by rw [toList_cons s hs, Munch.stateV, if_neg (by rw [hb]; decide)]; simp
  rw [hR]
  have hne := isEmpty_no s hs
  have c := readTag_any s[0] (w.alloc (.cells #[.int .i64 0, .slice none 0 0] 59))
  rw [tagPair, if_neg (by rw [hb]; decide)] at c
  have hm' : (((s.size : Int) - 1) % 10 != 0) = false := by rw [bne_eq_false_iff_eq]; omega
  have HM : Hid _ := hm
  clear hb hR hm
  generalize Munch.tagV s[0] = tag at *
  have hbel : Below w.heap.size w (w.alloc (.cells #[.int .i64 0, .slice none 0 0] 59)) := (Below.refl _ _).alloc (Nat.le_refl _) _
  have hblk : Blk (w.alloc (.cells #[.int .i64 0, .slice none 0 0] 59)) w.heap.size 59 #[.int .i64 0, .slice none 0 0] := Blk.new _ _ _
  go_enter Tryd.func20, Tryd.ntmps20
  go_wp2_with fail
  refine c.mono ?_
  rintro e w' ⟨rfl, rfl⟩
  clear c
  go_wp2_with fail
  go_loopw [8, 9, 10] (fun v l r wr => ∃ (i : Nat) (x : Int) (L : List Munch.Edge) (ao : Option Addr) (cap : Nat) (q : ByteArray), i ≤ s.size ∧ 1 ≤ i ∧ L.length ≤ i ∧ (s.size - i) % 10 = 0 ∧ -1 ≤ x ∧ x ≤ 255 ∧ v = .slice ao L.length cap ∧ l = .int .i64 x ∧ r = .string q ∧ q.size = s.size - i ∧
      q.data.toList = s.data.toList.drop i ∧ StInvD w.heap.size w L ao cap wr ∧ Munch.edges n (s.data.toList.drop i) x L = Munch.edges n (s.data.toList.drop 1) (-1) []) (fun _ _ r _ => match r with | .string q => q.size | _ => 0)
  case atStart => exact ⟨1, -1, [], none, 0, s.extract 1 s.size, by omega, by omega, by simp, HM.out, by decide, by decide, rfl, rfl, rfl, by simp, rest_data s 1, ⟨hblk, World.ownsRow_nil _ _ _ _, hbel⟩, rfl⟩
  case round =>
    obtain ⟨i, x, L, ao, cap, q, hi1, hi2, hLi, hmod, hx0, hx1, rfl, rfl, rfl, hq, hqd, inv, hE⟩ := hrel
    have H : Hid _ := hE; clear hE
    have HQ : Hid _ := hqd; clear hqd
    have hbr := inv.below
    by_cases hlt : i < s.size
    · have hq10 : 10 ≤ q.size := by omega
      have hqne := isEmpty_no q (by omega)
      have hrne : s.data.toList.drop i ≠ [] := by rw [Munch.drop_cons s i hlt]; simp
      have c := readEdge_any (q.extract 0 10) wr (by simp; omega)
      have hev : Munch.edgeV (q.extract 0 10).data.toList = Munch.edgeV (s.data.toList.drop i) := by
        rw [Munch.extract_seg, ← Munch.edgeV_take (s.data.toList.drop i), ← HQ.out]; unfold Munch.seg; rw [List.drop_zero]
      rw [hev] at c
      clear hev
      have hb1 : ∀ w', Below wr.heap.size wr w' → Below w.heap.size w w' := fun w' h => hbr.trans (h.mono (by have := inv.size; omega))
      go_wp2_with fail
      refine c.mono ?_
      rintro e w1 ⟨rfl, hbw⟩
      clear c
      have inv1 := inv.keep hbw
      have hsz1 := inv1.size
      cases hR : Munch.edgeV (s.data.toList.drop i) with
      | none =>
        have hNo := Munch.edges_none n _ x L hrne hx0 (Or.inl hR)
        rw [H.out] at hNo
        have HNo : Hid _ := hNo
        have inv2 := inv1.alloc (.cells #[.int .u8 0, .int .u8 0, .int .i64 0] 66)
        obtain ⟨q0, q1, f0, f1, g1, g2, z0, z1, hfin⟩ := inv2.giveUp
        clear hR hNo
        rw [edgePair]
        go_wp2_with fail
        exact bodyPost_ret (v := .tuple #[.agg #[.int .i64 0, .slice none 0 0], .bool false]) (by simp [results, Tryd.results20, go_sem, z0, z1]) rfl (Or.inl ⟨by rw [HNo.out]; rfl, rfl, hfin⟩)
      | some y =>
        obtain ⟨lo, hi', to'⟩ := y
        have hrg := Munch.edgeV_range _ _ hR
        simp only at hrg
        have inv2 := inv1.alloc (.cells #[.int .u8 lo, .int .u8 hi', .int .i64 to'] 66)
        rw [edgePair]
        have w1' : IntKind.i64.wrap lo = lo := by rw [IntKind.wrap_i64]; omega
        have w2' : IntKind.i64.wrap hi' = hi' := by rw [IntKind.wrap_i64]; omega
        by_cases hlo : lo ≤ x
        · have hNo := Munch.edges_none n _ x L hrne hx0 (Or.inr ⟨_, hR, Or.inl hlo⟩)
          rw [H.out] at hNo
          have HNo : Hid _ := hNo
          obtain ⟨q0, q1, f0, f1, g1, g2, z0, z1, hfin⟩ := inv2.giveUp
          clear hR hNo
          go_wp2_with fail
          exact bodyPost_ret (v := .tuple #[.agg #[.int .i64 0, .slice none 0 0], .bool false]) (by simp [results, Tryd.results20, go_sem, z0, z1]) rfl (Or.inl ⟨by rw [HNo.out]; rfl, rfl, hfin⟩)
        · by_cases hto : n ≤ to'
          · have hNo := Munch.edges_none n _ x L hrne hx0 (Or.inr ⟨_, hR, Or.inr hto⟩)
            rw [H.out] at hNo
            have HNo : Hid _ := hNo
            obtain ⟨q0, q1, f0, f1, g1, g2, z0, z1, hfin⟩ := inv2.giveUp
            clear hR hNo
            go_wp2_with fail
            exact bodyPost_ret (v := .tuple #[.agg #[.int .i64 0, .slice none 0 0], .bool false]) (by simp [results, Tryd.results20, go_sem, z0, z1]) rfl (Or.inl ⟨by rw [HNo.out]; rfl, rfl, hfin⟩)
          · have hYes := Munch.edges_some n _ x L _ hrne hR (by simp only; omega) (by simp only; omega)
            rw [H.out, List.drop_drop] at hYes
            have HYes : Hid _ := hYes
            clear hR hYes
            have inv3 := inv2.alloc (.cells #[.int .u8 lo, .int .u8 hi', .int .i64 to'] 66)
            go_wp2_with (at_builtin; refine wpList_append_own _ rfl (.tmp 63) (.tmp 65) 57 rfl (w.heap.size + 1) 66 i0 (.agg #[.int .u8 0, .int .u8 0, .int .i64 0]) 3 16 Tryd.underlying57 hi hz0 hz1 hz2 rfl (by decide) _ _ _ rfl inv3.own ⟨(w1.alloc (.cells #[.int .u8 lo, .int .u8 hi', .int .i64 to'] 66)).heap.size, 0, none⟩ 1 1 [.int .u8 lo, .int .u8 hi', .int .i64 to'] (by simp [Act.eval]) rfl (cell_three_new _ _ _ _ _) (by intro u hu; simp at hu; rcases hu with rfl | rfl | rfl <;> rfl) (by unfold maxLen; omega) (by omega) (by simp; omega) ?_)
            intro v' w2 hown' hgrow _
            obtain ⟨ao', cap', rfl, inv'⟩ := inv3.step hown' hgrow
            go_wp2_with fail
            go_roundw
            case rel => exact ⟨i + 10, hi', L ++ [(lo, hi', to')], ao', cap', q.extract 10 q.size, by omega, by omega, by simp; omega, by omega, by omega, by omega, by simp, rfl, by rw [hq], by simp; omega, by rw [rest_data, HQ.out, List.drop_drop], inv', HYes.out.symm⟩
            case measure => simp; omega
    · have hqe : q.size = 0 := by omega
      obtain rfl : q = ByteArray.empty := by
        apply ByteArray.ext; apply Array.eq_empty_of_size_eq_zero; simpa using hqe
      have hR : Munch.edges n (s.data.toList.drop 1) (-1) [] = some L := by rw [← H.out, Munch.drop_nil s _ (by omega), Munch.edges_nil]
      have HR : Hid _ := hR; clear hR
      have q0 := inv.res.cell 0
      have q1 := inv.res.cell 1
      have f0 := inv.res.frozen 0
      have f1 := inv.res.frozen 1
      have z0 := inv.res.set 0 (.int .i64 tag)
      have g1 := z0.cell 1
      have g2 := z0.frozen 1
      have z1 := (z0.set 1 (.slice ao L.length cap)).cell 1
      replace z0 := z0.cell 0
      simp at z0 z1 q0 q1 g1
      go_wp2_with fail
      refine bodyPost_ret (v := .tuple #[.agg #[.int .i64 tag, .slice ao L.length cap], .bool true]) ?_ rfl (Or.inr ⟨tag, L, .slice ao L.length cap, by rw [HR.out]; rfl, rfl, ?_, ?_⟩)
      · simp [results, Tryd.results20, go_sem, z0, z1]
      · exact ownsRow_base (ownsRow_setCell_below (ownsRow_setCell_below inv.own (by simp) _) (by simp) _) (by omega)
      · exact (hbr.setCell (by simp) _).setCell (by simp) _

/-- table.readState, at every text of a table. -/
theorem readState_any (s : ByteArray) (n : Int) (w : World) (hs : s.size ≤ 200000) :
    Calls Tryd.prog 20 #[.string s, .int .i64 n] w fun e w' => StatePostD (Munch.stateV s.data.toList n) w e w' := by
  by_cases h0 : s.size = 0
  · exact readState_empty s n w h0
  · by_cases hb : Munch.badTag (s[0]'(by omega)) = true
    · exact readState_bad s n w (by omega) hb
    · by_cases hm : (s.size - 1) % 10 = 0
      · exact readState_good s n w (by omega) hs (by simpa using hb) hm
      · exact readState_odd s n w (by omega) hs (by simpa using hb) hm
end Go.Proofs.YtjhopgfgfljcoaaDoor
