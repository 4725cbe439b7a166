import Derived.RangeFuncNested
import Derived.RangeFuncBound
import Derived.RangeFuncCalls
import Derived.RangeFuncLeaves
import Derived.Shelf.Abstract
import Derived.Shelf.RegionOpen
import Derived.WalkKit
import Derived.OwnWalkIn
import Derived.TacticsInMore
import Derived.LoopNIn
import Derived.LoopIn
import Derived.Test.YtkoaeojdlanolaaGreatDoorCc07
import Derived.Test.YtkoaeojdlanolaaGreatDoorCd06
import Derived.Test.YtkoaeojdlanolaaGreatDoorCc09
import Derived.Test.YtkoaeojdlanolaaGreatDoorCa02
import Derived.Test.YtkoaeojdlanolaaGreatDoorCd07
/-
  slices.Backward over trees: what its closure does.
-/
namespace Go.Proofs.YtkoaeojdlanolaaGreatDoor
open Go.RowKit Go.Shelf
open Munch (Words Wempty Wbytes Wcat Wany Wall Wnot KeyF Times numText)

attribute [local go_sem] Oper.semAt_some

/-- The tree of the empty word. -/
def emptyTr : Tr := ⟨.iface 200 (.agg #[]), [40, 41], Wempty, 1⟩
theorem emptyTr_ok (w : World) (ok : Nat → Prop) : TreeOk w ok emptyTr := ⟨1, Or.inl ⟨rfl, rfl, rfl, Nat.le_refl _⟩⟩

/-- What has come when k rounds are over. -/
def comes (n k : Nat) : List Nat := (List.range k).map (fun j => n - 1 - j)
theorem comes_succ (n k : Nat) : comes n (k + 1) = comes n k ++ [n - 1 - k] := by simp [comes, List.range_succ]
theorem comes_length (n k : Nat) : (comes n k).length = k := by simp [comes]

/-- What a round keeps. -/
def BackK (n₀ Bs : Nat) (W W' : World) : Prop := Below n₀ W W' ∧ ∀ v, W.cell? ⟨Bs, 0, none⟩ = some v → W'.cell? ⟨Bs, 0, none⟩ = some v
theorem BackK.trans {n₀ Bs : Nat} {A B C : World} (h : BackK n₀ Bs A B) (k : BackK n₀ Bs B C) : BackK n₀ Bs A C := ⟨h.1.trans k.1, fun v hv => k.2 v (h.2 v hv)⟩
theorem backK_b {n₀ Bs : Nat} {w : World} (hn : n₀ ≤ w.heap.size) (W : World) (l : Nat) (o o' : Obj) (hl : w.heap.size ≤ l) (h : W.heap[l]? = some o) (h1 : o.isCells = false) (h2 : o.isWalk = false) : BackK n₀ Bs W (W.putObj l o') :=
  ⟨belowK_b hn W l o o' hl h h1 h2, fun _ hv => cell_kept hv (grownBy_putObj' W l o') (fun r e => by cases e; exact ⟨_, h, h1⟩)⟩

set_option maxRecDepth 100000 in
set_option maxHeartbeats 4000000 in
theorem back1_in (F : Fence) (n : Nat) (hF : F.fn 135) (hro : F.round = none) (hn : 1 ≤ n) (l Bs n₀ cap : Nat) (ao : Option Addr) (ts : List Tr) (hlen : ts.length ≤ 1000000) (J Jx : List Nat → World → Prop)
    (hY : ∀ pre x W, J pre W → pre.length < ts.length → YieldAt F (n - 1) Tryz.prog l #[.int .i64 (x : Nat), (ts[x]?.getD emptyTr).v] W fun e W' =>
      (e = .returned (.bool true) ∧ J (pre ++ [x]) W' ∧ BackK n₀ Bs W W') ∨ (e = .returned (.bool false) ∧ Jx (pre ++ [x]) W'))
    (W : World) (hBs : W.cell? ⟨Bs, 0, none⟩ = some (.slice ao ts.length cap)) (hc : ∀ j, j < ts.length → ∃ g, ao = some ⟨g, 0, none⟩ ∧ g < n₀ ∧ W.cell? ⟨g, j, none⟩ = some (ts[j]?.getD emptyTr).v) (h0 : J [] W) :
    CallsIn F n Tryz.prog 135 #[.func (.yield l) #[] #[], .pointer (some ⟨Bs, 0, none⟩)] W fun e W' => (∃ v, e = .returned v) ∧
      ((∃ ys, ys = comes ts.length ts.length ∧ J ys W') ∨ (∃ pre, True ∧ Jx pre W')) := by
  refine callsIn_of_wp Tryz.func135 rfl hF ?_ hro
  simp only [Tryz.ntmps135, List.size_toArray, List.length_cons, List.length_nil, Nat.reduceAdd, Nat.reduceSub, Array.replicate_succ, Array.replicate_zero, List.push_toArray, List.append_toArray, List.nil_append, List.cons_append]
  have hw1 : IntKind.i64.wrap ((ts.length : Int) - 1) = (ts.length : Int) - 1 := by rw [IntKind.wrap_i64]; omega
  gi_wp2
  gi_loopw [3] (fun i wr => ∃ m : Nat, m ≤ ts.length ∧ i = .int .i64 ((m : Int) - 1) ∧ J (comes ts.length (ts.length - m)) wr ∧ BackK n₀ Bs W wr)
    (fun i _ => (intOf i + 1).toNat)
  case atStart => exact ⟨ts.length, Nat.le_refl _, by simp, by simpa [comes] using h0, Below.refl _ _, fun _ h => h⟩
  case round =>
    obtain ⟨m, hm, rfl, hJs, hnx⟩ := hrel
    have hbx := hnx.2 _ hBs
    cases m with
    | zero =>
      gi_wp2
      go_end0
      exact ⟨⟨_, rfl⟩, .inl ⟨_, rfl, by simpa using hJs⟩⟩
    | succ m =>
      obtain ⟨g, rfl, hg, hcm⟩ := hc m (by omega)
      have hcx : wr.cell? ⟨g, m, none⟩ = some (ts[m]?.getD emptyTr).v := (hnx.1.cell (p := ⟨g, m, none⟩) hg).trans hcm
      obtain ⟨fn, tmps, assign, body, hy, hR⟩ := hY _ m wr hJs (by rw [comes_length]; omega)
      have hm1 : (((m + 1 : Nat) : Int) - 1) = (m : Int) := by omega
      have hm2 : IntKind.i64.wrap ((m : Int) - 1) = (m : Int) - 1 := by rw [IntKind.wrap_i64]; omega
      have hm3 : m < ts.length := by omega
      have hgd : ts[m]?.getD emptyTr = ts[m] := by simp [hm3]
      rw [hgd] at hy hcx
      rw [hm1]
      clear hm1 hgd hcm
      gi_wp2
      refine hR.mono ?_
      rintro e W3 (⟨rfl, hJ3, hk3⟩ | ⟨rfl, hJx3⟩)
      · gi_wp2
        go_roundw
        case rel => exact ⟨m, by omega, by simp, by rw [show ts.length - m = ts.length - (m + 1) + 1 by omega, comes_succ, show ts.length - 1 - (ts.length - (m + 1)) = m by omega]; exact hJ3, hnx.trans hk3⟩
        case measure => simp [intOf]
      · gi_wp2
        refine bodyPost_ret (results_none rfl _ _ _) rfl ?_
        exact ⟨⟨_, rfl⟩, .inr ⟨_, trivial, hJx3⟩⟩

theorem back_stops (F : Fence) (n : Nat) (hF : F.fn 135) (hro : F.round = none) (hn : 1 ≤ n) (Bs n₀ cap : Nat) (ao : Option Addr) (ts : List Tr) (hlen : ts.length ≤ 1000000) (w : World) (hBs : Bs < w.heap.size) (hn₀ : n₀ ≤ w.heap.size)
    (hcb : w.cell? ⟨Bs, 0, none⟩ = some (.slice ao ts.length cap)) (hc : ∀ j, j < ts.length → ∃ g, ao = some ⟨g, 0, none⟩ ∧ g < n₀ ∧ w.cell? ⟨g, j, none⟩ = some (ts[j]?.getD emptyTr).v) :
    SeqStopsK F n Tryz.prog 135 #[.pointer (some ⟨Bs, 0, none⟩)] (fun x : Nat => #[Value.int .i64 (x : Int), (ts[x]?.getD emptyTr).v]) (BackK n₀ Bs) (fun ys => ys = comes ts.length ts.length)
      (fun _ => True) ts.length w := fun l J Jx W hW _ _ hY h0 =>
  back1_in F n hF hro hn l Bs n₀ cap ao ts hlen J Jx hY W ((hW.cell (p := ⟨Bs, 0, none⟩) hBs).trans hcb) (fun j hj => by
    obtain ⟨g, e, hg, h⟩ := hc j hj
    exact ⟨g, e, hg, (hW.cell (p := ⟨g, j, none⟩) (by show g < _; omega)).trans h⟩) h0

set_option maxHeartbeats 1000000 in
theorem back_any (ao : Option Addr) (len cap : Nat) (w : World) :
    Calls Tryz.prog 118 #[.slice ao len cap] w fun e w' => e = .returned (.func (.func 135) #[] #[.pointer (some ⟨w.heap.size, 0, none⟩)]) ∧ w' = w.alloc (.cells #[.slice ao len cap] 34) := by
  go_enter Tryz.func118, Tryz.ntmps118
  go_wp2_with fail
  go_ret
  exact ⟨rfl, rfl⟩

/-- The words of a row, told from its end. -/
def rowL (ts : List Tr) (pre : List Nat) : Words := pre.foldl (fun acc x => Wcat (ts[x]?.getD emptyTr).L acc) Wempty
def rowN (ts : List Tr) (pre : List Nat) : Nat := pre.foldl (fun acc x => (ts[x]?.getD emptyTr).n + acc) 1
theorem rowL_snoc (ts : List Tr) (pre : List Nat) (x : Nat) : rowL ts (pre ++ [x]) = Wcat (ts[x]?.getD emptyTr).L (rowL ts pre) := by simp [rowL]
theorem rowN_snoc (ts : List Tr) (pre : List Nat) (x : Nat) : rowN ts (pre ++ [x]) = (ts[x]?.getD emptyTr).n + rowN ts pre := by simp [rowN]
theorem rowL_comes (ts : List Tr) : ∀ k, k ≤ ts.length → rowL ts (comes ts.length k) = (ts.drop (ts.length - k)).foldr (fun t acc => Wcat t.L acc) Wempty := by
  intro k
  induction k with
  | zero => intro _; simp [comes, rowL]
  | succ k ih =>
    intro hk
    rw [comes_succ, rowL_snoc, ih (by omega)]
    have hlt : ts.length - (k + 1) < ts.length := by omega
    rw [List.drop_eq_getElem_cons hlt, List.foldr_cons, show ts.length - 1 - k = ts.length - (k + 1) by omega, show ts.length - (k + 1) + 1 = ts.length - k by omega]
    simp [hlt]
theorem rowN_comes (ts : List Tr) : ∀ k, k ≤ ts.length → rowN ts (comes ts.length k) = ((ts.drop (ts.length - k)).map (·.n)).sum + 1 := by
  intro k
  induction k with
  | zero => intro _; simp [comes, rowN]
  | succ k ih =>
    intro hk
    rw [comes_succ, rowN_snoc, ih (by omega)]
    have hlt : ts.length - (k + 1) < ts.length := by omega
    rw [List.drop_eq_getElem_cons hlt, List.map_cons, List.sum_cons, show ts.length - 1 - k = ts.length - (k + 1) by omega, show ts.length - (k + 1) + 1 = ts.length - k by omega]
    simp [hlt]; omega
theorem rowL_all (ts : List Tr) : rowL ts (comes ts.length ts.length) = ts.foldr (fun t acc => Wcat t.L acc) Wempty := by
  rw [rowL_comes ts _ (Nat.le_refl _)]; simp
theorem rowN_all (ts : List Tr) : rowN ts (comes ts.length ts.length) = (ts.map (·.n)).sum + 1 := by
  rw [rowN_comes ts _ (Nat.le_refl _)]; simp
theorem sum_mem (ts : List Tr) : ∀ t ∈ ts, t.n ≤ (ts.map (·.n)).sum := by
  induction ts with
  | nil => intro t h; cases h
  | cons a r ih =>
    intro t h
    simp only [List.map_cons, List.sum_cons]
    rcases List.mem_cons.1 h with rfl | h
    · omega
    · have := ih t h; omega
theorem tree_n (ts : List Tr) (x : Nat) : (ts[x]?.getD emptyTr).n ≤ (ts.map (·.n)).sum + 1 := by
  by_cases h : x < ts.length
  · have := sum_mem ts ts[x] (List.getElem_mem h)
    simp [h]; omega
  · simp [Nat.le_of_not_lt h, emptyTr]
theorem rowN_from (ts : List Tr) : ∀ (pre : List Nat) (a : Nat), pre.foldl (fun acc x => (ts[x]?.getD emptyTr).n + acc) a ≤ a + pre.length * ((ts.map (·.n)).sum + 1) := by
  intro pre
  induction pre with
  | nil => intro a; simp
  | cons x r ih =>
    intro a
    have h1 := ih ((ts[x]?.getD emptyTr).n + a)
    have h2 := tree_n ts x
    rw [List.foldl_cons, List.length_cons, Nat.add_mul, Nat.one_mul]
    omega
theorem rowN_le (ts : List Tr) (pre : List Nat) : rowN ts pre ≤ 1 + pre.length * ((ts.map (·.n)).sum + 1) := rowN_from ts pre 1
theorem langRow_fold (l : List Munch.Node) : Munch.Lang (.row l) = l.foldr (fun t acc => Wcat (Munch.Lang t) acc) Wempty := by
  induction l with
  | nil => funext u; apply propext; simp [Munch.lang_row, Munch.LangRow, Wempty]
  | cons n r ih =>
    rw [List.foldr_cons, ← ih]
    funext u; apply propext
    rfl
theorem fold_langs : ∀ (ts : List Tr) (l : List Munch.Node), ts.map (·.L) = l.map Munch.Lang → ts.foldr (fun t acc => Wcat t.L acc) Wempty = l.foldr (fun t acc => Wcat (Munch.Lang t) acc) Wempty := by
  intro ts
  induction ts with
  | nil => intro l h; cases l with
    | nil => rfl
    | cons _ _ => cases h
  | cons t r ih => intro l h; cases l with
    | nil => cases h
    | cons a b =>
      simp only [List.map_cons, List.cons.injEq] at h
      rw [List.foldr_cons, List.foldr_cons, ih b h.2, h.1]
end Go.Proofs.YtkoaeojdlanolaaGreatDoor
/-
  THE DEVELOPERS' READER: row.
-/
namespace Go.Proofs.YtkoaeojdlanolaaGreatDoor
open Go.RowKit Go.Shelf
open Munch (Words Wempty Wbytes Wcat Wany Wall Wnot KeyF Times numText)

attribute [local go_sem] Oper.semAt_some

section
variable {R : Nat} {s : ByteArray} {mb opn i0 : Nat} {w w1 : World} {ta : Option Addr} {tc : Nat} {ts : List Tr} {acc : List Munch.Node} {i : Nat} {d : Option Nat} {wr : World}
theorem PtInv.move (h : PtInv R s mb opn i0 w w1 ta tc ts acc i d wr) {w' : World} (hm : Moves R wr w') (hr : Rs w' R s i opn (deepD d) mb) (hR1 : R < w1.heap.size) (hBR : w.heap.size ≠ R) : PtInv R s mb opn i0 w w1 ta tc ts acc i d w' := by
  refine ⟨ownsRow_keeps h.row hm.keeps (fun k hk => by have := (h.row.lt k hk).1; omega), fun t ht => (h.trees t ht).keep (hm.keeps.mono (fun x _ hx => ?_)), h.langs, h.sum, h.can, hr, h.res.grown hm (by simpa using hBR), h.moves.trans hm, Nat.le_trans h.grow hm.size, h.le, h.ge⟩
  rcases hx.1 with hx | hx
  · exact hx.elim
  · omega
theorem PtInv.ends (h : PtInv R s mb opn i0 w w1 ta tc ts acc i d wr) : TreesOk wr (fun x => w1.heap.size ≤ x) (.slice ta ts.length tc) ts :=
  ⟨⟨w1.heap.size, h.row, fun k hk => (h.row.lt k hk).1⟩, fun t ht => (h.trees t ht).mono (fun x _ hx => by rcases hx.1 with hx | hx; exact hx.elim; exact hx)⟩
end

/-- Between two rounds of the loop over the pieces. -/
structure RowI (ts : List Tr) (lo n₀ B8 : Nat) (w5 : World) (pre : List Nat) (W : World) : Prop where
  tree : ∃ (r : Tr) (T : TypeId) (p : Value), r.v = .iface T p ∧ Blk W B8 72 #[.iface T p] ∧ TreeOk W (fun x => lo ≤ x ∧ x < n₀) r ∧ r.L = rowL ts pre ∧ r.n ≤ rowN ts pre
  below : Below n₀ w5 W
theorem rowI_own (ts : List Tr) (lo n₀ B8 : Nat) (w5 : World) (hn : n₀ ≤ w5.heap.size) (hB : B8 < w5.heap.size) : OwnFrom w5.heap.size (RowI ts lo n₀ B8 w5) := by
  rintro pre A B row ⟨⟨r, T, p, h1, h2, h3, h4⟩, h5⟩ hg hr
  refine ⟨⟨r, T, p, h1, h2.grown hg (fun e => by have := (hr _ e.symm).1; omega), h3.keep ⟨hg.size, fun k hk hok => hg.block k hk (fun e => by have := (hr _ e.symm).1; omega)⟩, h4⟩, h5.grown hg (Nat.le_trans hn h5.size) (fun k e => Nat.le_trans hn (hr k e).1)⟩
theorem RowI.step {ts : List Tr} {lo n₀ B8 : Nat} {w5 : World} {pre : List Nat} {W : World} (h : RowI ts lo n₀ B8 w5 pre W) {w' : World} {x Bs : Nat} {r : Tr} {T : TypeId} {p : Value} (hv : r.v = .iface T p) (hok : TreeOk w' (fun x => lo ≤ x ∧ x < n₀) r) (hL : r.L = rowL ts (pre ++ [x])) (hn : r.n ≤ rowN ts (pre ++ [x])) (hb : Below W.heap.size W w') (hBs : Bs ≠ B8) (hn0 : n₀ ≤ B8) :
    KeepsOthers W (w'.setCell ⟨B8, 0, none⟩ (.iface T p)) ∧ BackK n₀ Bs W (w'.setCell ⟨B8, 0, none⟩ (.iface T p)) ∧ RowI ts lo n₀ B8 w5 (pre ++ [x]) (w'.setCell ⟨B8, 0, none⟩ (.iface T p)) := by
  obtain ⟨⟨r0, T0, p0, _, hk0, _⟩, hb0⟩ := h
  have hBl := hk0.lt
  have hb1 : Below n₀ W w' := hb.mono (by omega)
  have hb2 : Below n₀ W (w'.setCell ⟨B8, 0, none⟩ (.iface T p)) := hb1.setCell (p := ⟨B8, 0, none⟩) hn0 _
  refine ⟨(KeepsOthers.of_grownBy (row := none) ⟨hb.os, hb.tape, hb.output, hb.size, fun k hk _ => hb.block k hk⟩ (fun j o e => by cases e)).trans (KeepsOthers.setCell _ _ _), ⟨hb2, fun v hv2 => ?_⟩, ⟨⟨r, T, p, hv, ?_, ?_, hL, hn⟩, hb0.trans hb2⟩⟩
  · have hlt := cell_lt hv2
    rw [World.cell?_setCell_other _ _ _ _ (fun e => hBs (by cases e; rfl)), hb.cell (p := ⟨Bs, 0, none⟩) hlt]
    exact hv2
  · have := (hk0.below hb hBl).set 0 (.iface T p)
    simpa using this
  · exact hok.keep ((keeps_set w' ⟨B8, 0, none⟩ (.iface T p)).mono (fun y _ hy => by have := hy.2; show y ≠ B8; omega))

set_option maxHeartbeats 8000000 in
set_option maxRecDepth 100000 in
theorem row_call (N : Nat) (hp : ∀ k, k < N → DPiece k) (s : ByteArray) (opn : Nat) (hs : s.size ≤ 80) (k0 i0 : Nat) (d0 : Option Nat) (R mb : Nat) (w : World) (hk : k0 < N) (hr : Rs w R s i0 opn (deepD d0) mb) (hg : Signs w mb) (hi : i0 ≤ s.size) (ho : opn ≤ i0) (hl : LaidT w) (hout : Munch.rowF s k0 i0 opn d0 [] ≠ .out) :
    Calls Tryz.prog 99 #[.pointer (some ⟨R, 0, none⟩)] w fun e w' => Parsed R s mb opn (Munch.rowF s k0 i0 opn d0 []) (fun x => (x.1, x.2.1, deepD x.2.2)) (fun j => 2 * (j - i0) + 1) w e w' := by
  obtain ⟨i1, hi1, hi10, hi11, hi12⟩ := info_parts infoTree
  have hRl := hr.lt
  obtain ⟨w1, hw1e⟩ : ∃ w1, w1 = w.alloc (.cells #[.nilIface, .int .i64 0] 82) := ⟨_, rfl⟩
  have hb0 : Below w.heap.size w w1 := by rw [hw1e]; exact below_box w _
  have kB : Blk w1 w.heap.size 82 #[.nilIface, .int .i64 0] := by rw [hw1e]; exact Blk.new _ _ _
  have hBR : w.heap.size ≠ R := by omega
  have hB1 := kB.lt
  have hR1 : R < w1.heap.size := by omega
  have H0 : PtInv R s mb opn i0 w w1 none 0 [] [] i0 d0 w1 := ⟨World.ownsRow_nil _ _ _ _, (fun t h => by cases h), rfl, by simp, Munch.Can.zero _, hr.keep hb0, kB, Moves.of_below hb0, Nat.le_refl _, hi, Nat.le_refl _⟩
  have HNO : Hid _ := hout
  have HP : Hid (∀ k, k < N → DPiece k) := hp
  clear hout hp kB hb0
  refine (callsIn_wide (n := 3)).1 ?_
  refine callsIn_of_wp_marks Tryz.func99 rfl trivial ?_ rfl
  refine wpIn_wide.2 ?_
  simp only [Tryz.ntmps99, List.size_toArray, List.length_cons, List.length_nil, Nat.reduceAdd, Nat.reduceSub, Array.replicate_succ, Array.replicate_zero, List.push_toArray, List.append_toArray, List.nil_append, List.cons_append]
  go_wp2_with fail
  rw [← hw1e]
  clear hw1e
  go_loopg [4, 5] k0 (fun k tv wt wr => k ≤ k0 ∧ ∃ (ta : Option Addr) (tc : Nat) (ts : List Tr) (acc : List Munch.Node) (i : Nat) (d : Option Nat), tv = .slice ta ts.length tc ∧ wt = .int .i64 (Munch.weightsV acc) ∧ PtInv R s mb opn i0 w w1 ta tc ts acc i d wr ∧ Hid (Munch.rowF s k i opn d acc = Munch.rowF s k0 i0 opn d0 []))
  case atStart => exact ⟨Nat.le_refl _, none, 0, [], [], i0, d0, rfl, rfl, H0, rfl⟩
  case round =>
    obtain ⟨hgN, ta, tc, ts, acc, i, d, rfl, rfl, H, HV⟩ := hrel
    clear H0
    obtain ⟨K, rfl⟩ : ∃ K, gk = K + 1 := by
      cases gk with
      | zero => exact absurd (by rw [← HV.out]; rfl) HNO.out
      | succ K => exact ⟨K, rfl⟩
    have HE : Hid (Munch.rowF s k0 i0 opn d0 [] = if Munch.begins s i then (Munch.pieceF s K i opn d).bind fun x => Munch.rowF s K x.2.1 opn x.2.2 (acc ++ [x.1]) else .ok (.row acc, i, d)) := by
      show Munch.rowF s k0 i0 opn d0 [] = _
      rw [← HV.out, Munch.rowF_s]
    clear HV
    have hge := H.ge
    have hle := H.le
    have hsa := seesAtom_any R s i mb opn (deepD d) wr H.rs hle
    cases hbg : Munch.begins s i with
    | true =>
      rw [hbg] at hsa
      have HE2 : Hid (Munch.rowF s k0 i0 opn d0 [] = (Munch.pieceF s K i opn d).bind fun x => Munch.rowF s K x.2.1 opn x.2.2 (acc ++ [x.1])) := by
        show Munch.rowF s k0 i0 opn d0 [] = _
        rw [HE.out, hbg]; rfl
      clear HE
      have hlt : i < s.size := by
        rcases Nat.lt_or_ge i s.size with h | h
        · exact h
        · unfold Munch.begins at hbg; rw [dif_neg (by omega)] at hbg; cases hbg
      clear hbg
      go_wp2_with fail
      refine hsa.mono ?_
      clear hsa
      rintro e wq ⟨rfl, hbq⟩
      have H2 := H.move (Moves.of_below hbq) (H.rs.keep hbq) hR1 hBR
      clear H
      have hno : Munch.pieceF s K i opn d ≠ .out := fun h => HNO.out (by rw [HE2.out, h]; rfl)
      have hca := HP.out K (by omega) R s i mb opn d wq H2.rs (signs_moves hg hr H2.moves) hlt hs (by omega) (laidT_moves hl hr H2.moves) hno
      clear hno
      go_wp2_with fail
      refine hca.mono ?_
      clear hca
      rintro e w2 ⟨hm2, ⟨pl, n', d', hres, rfl, hr2⟩ | ⟨⟨nd, j, d2⟩, v, hres, rfl, hr2, r, T, p, rfl, hv, hok, hL, hn⟩⟩
      · have HF : Hid (Munch.rowF s k0 i0 opn d0 [] = .bad pl) := by
          show _ = _
          rw [HE2.out, hres]; rfl
        have hb3 := below_box w2 (.cells #[.nilIface, .int .i64 0] 82)
        have kB3 := (H2.res.grown hm2 (by simpa using hBR)).alloc (.cells #[.nilIface, .int .i64 0] 82)
        obtain ⟨hmF, hrF, kF⟩ := put_none ((H2.moves.trans hm2).trans (Moves.of_below hb3)) (Nat.le_refl _) hBR (hr2.keep hb3) kB3
        have e0 := kB3.cell 0
        have e1 := kB3.cell 1
        have g0 := kB3.frozen 0
        have g1 := kB3.frozen 1
        simp at e0 e1
        clear kB3 hres H2
        go_wp2_with fail
        have z0 := kF.cell 0
        have z1 := kF.cell 1
        simp at z0 z1
        refine ⟨.tuple #[.agg #[.nilIface, .int .i64 0], .bool false], by simp [results, Tryz.results99, go_sem, z0, z1], ?_⟩
        exact ⟨hmF, Or.inl ⟨pl, n', d', HF.out, rfl, hrF⟩⟩
      · obtain ⟨hij, hjs⟩ := (Munch.bounds s K).2.2.1 i opn d nd j d2 hres
        have hcan := (Munch.heavies s K).2.2.1 i opn d nd j d2 hres
        simp only at hr2 hn hL
        have HG : Hid (Munch.rowF s K j opn d2 (acc ++ [nd]) = Munch.rowF s k0 i0 opn d0 []) := by
          show _ = _
          rw [HE2.out, hres]; rfl
        clear hres HE2
        have hb3 := below_box w2 (.cells #[.iface T p, .int .i64 (Munch.weightV nd)] 82)
        have kI : Blk (w2.alloc (.cells #[.iface T p, .int .i64 (Munch.weightV nd)] 82)) w2.heap.size 82 #[.iface T p, .int .i64 (Munch.weightV nd)] := Blk.new _ _ _
        have hb4 := hb3.alloc (by simp) (.cells #[.iface T p] 72)
        have kI4 := kI.alloc (.cells #[.iface T p] 72)
        have hm24 : Moves R wq ((w2.alloc (.cells #[.iface T p, .int .i64 (Munch.weightV nd)] 82)).alloc (.cells #[.iface T p] 72)) := hm2.trans (Moves.of_below hb4)
        have hgr := H2.grow
        have hrow4 := ownsRow_keeps H2.row hm24.keeps (fun k hk => by have := (H2.row.lt k hk).1; omega)
        have hbase : w1.heap.size ≤ ((w2.alloc (.cells #[.iface T p, .int .i64 (Munch.weightV nd)] 82)).alloc (.cells #[.iface T p] 72)).heap.size := Nat.le_trans hgr hm24.size
        have hlen := H2.len
        have hr4 := hr2.keep hb4
        have HO4 : Hid (TreeOk ((w2.alloc (.cells #[.iface T p, .int .i64 (Munch.weightV nd)] 82)).alloc (.cells #[.iface T p] 72)) (fun x => wq.heap.size ≤ x) r) := hok.keep (keeps_below hb4)
        have hwb1 := H2.can.bound (by omega)
        have hwb2 := hcan.bound (by omega)
        have hadd : IntKind.i64.wrap ((Munch.weightsV acc : Int) + (Munch.weightV nd : Int)) = (Munch.weightsV acc : Int) + (Munch.weightV nd : Int) := by rw [IntKind.wrap_i64]; omega
        have hI2 : ∀ x, (Value.slice ta ts.length tc).ownBlock = some x → x < wq.heap.size := fun x hx => (H2.row.lt x hx).2
        have hwr2 := hm2.size
        clear hok
        go_wp2_with (at_builtin; go_must (refine wpList_append_lies _ rfl (.tmp 21) (.tmp 24) 34 rfl w1.heap.size 72 i1 .nilIface 1 16 Tryz.underlying34 hi1 hi10 hi11 hi12 rfl (by decide) _ _ _ rfl hrow4 ⟨w2.heap.size + 1, 0, none⟩ 1 1 [.iface T p] (by simp [Act.eval]) rfl (World.news_of_block (by have := Blk.new (w2.alloc (.cells #[.iface T p, .int .i64 (Munch.weightV nd)] 82)) #[.iface T p] 72; rwa [size_alloc] at this)) (by intro u hu; simp at hu; subst hu; rfl) (by decide) (by unfold maxLen; omega) (by omega) hbase _ rfl ?_))
        intro g2 cap2 w5 hown5 hgrow5 hat5 hlt5
        have kI5 := kI4.grown hgrow5 (fun e => by have := hI2 _ e.symm; omega)
        have q1 : w5.cell? ⟨w2.heap.size, 1, none⟩ = some (.int .i64 (Munch.weightV nd)) := kI5.cell 1
        rw [← hv] at hown5
        obtain ⟨hr5, hm5, hsum5, hcan5, hnext, _⟩ := H2.snoc (c := 0) hm24 hr4 hR1 hB1 hBR HO4.out hL (by omega) (by omega) hcan (by omega) hjs hown5 hgrow5 (by simpa using hat5)
        have H6 := hnext j w5 (Moves.refl _ _) hr5 (by omega) hjs
        have HWA : Hid ((Munch.weightsV acc : Int) + (Munch.weightV nd : Int) = (Munch.weightsV (acc ++ [nd]) : Int)) := by show _ = _; rw [Munch.weightsV_append, Munch.weightsV_one]; omega
        clear hnext hown5 hgrow5 hat5 hlt5 kI kI4 kI5 hrow4 H2 hm24 hr4 HO4 hb3 hb4 hL hr2 hsum5 hcan5
        go_wp2_with fail
        go_roundg K
        case measure => omega
        case rel => exact ⟨by omega, some ⟨g2, 0, none⟩, cap2, ts ++ [r], acc ++ [nd], j, d2, by simp, by rw [HWA.out], H6, HG.out⟩
    | false =>
      rw [hbg] at hsa
      have HF : Hid (Munch.rowF s k0 i0 opn d0 [] = .ok (.row acc, i, d)) := by
        show Munch.rowF s k0 i0 opn d0 [] = _
        rw [HE.out, hbg]; rfl
      clear HE hbg
      go_wp2_with fail
      refine hsa.mono ?_
      clear hsa
      rintro e wq ⟨rfl, hbq⟩
      have H2 := H.move (Moves.of_below hbq) (H.rs.keep hbq) hR1 hBR
      clear H
      go_wp2_with fail
      refine (empty_any wq).mono ?_
      rintro e w3 ⟨rfl, hb3⟩
      go_wp2_with fail
      refine (back_any _ _ _ _).mono ?_
      rintro e w5 ⟨rfl, rfl⟩
      go_wp2_with fail
      have hEnd := H2.ends
      have hsum := H2.sum
      have hlen := H2.len
      have hqs : wq.heap.size ≤ w3.heap.size := hb3.size
      have hgrow := H2.grow
      obtain ⟨W5, hW5⟩ : ∃ W5, (w3.alloc (.cells #[.iface 200 (.agg #[])] 72)).alloc (.cells #[.slice ta ts.length tc] 34) = W5 := ⟨_, rfl⟩
      have hb5 : Below wq.heap.size wq W5 := by
        rw [← hW5]; exact (hb3.alloc hqs _).alloc (by simp; omega) _
      have hsz5 : W5.heap.size = w3.heap.size + 2 := by rw [← hW5]; simp
      have kW : Blk W5 w3.heap.size 72 #[.iface 200 (.agg #[])] := by rw [← hW5]; exact (Blk.new w3 _ _).alloc _
      have cB : W5.cell? ⟨w3.heap.size + 1, 0, none⟩ = some (.slice ta ts.length tc) := by
        rw [← hW5]
        have := (Blk.new (w3.alloc (.cells #[.iface 200 (.agg #[])] 72)) #[.slice ta ts.length tc] 34).cell 0
        rw [size_alloc] at this; exact this
      rw [hW5]
      have hok5 : ∀ x : Nat, TreeOk W5 (fun y => w1.heap.size ≤ y ∧ y < wq.heap.size) (ts[x]?.getD emptyTr) := by
        intro x
        by_cases hx : x < ts.length
        · have h1 := (hEnd.trees ts[x] (List.getElem_mem hx)).mono (ok' := fun y => w1.heap.size ≤ y ∧ y < wq.heap.size) (fun b hb h => ⟨h, hb⟩)
          simp only [hx, getElem?_pos, Option.getD_some]
          exact h1.keep (keeps_below hb5)
        · simp only [hx, not_false_eq_true, getElem?_neg, Option.getD_none]
          exact emptyTr_ok _ _
      refine (wpIn_wide (n := 3)).1 ?_
      refine wpIn_rangeFunc_ownF rfl (by omega) (gf := 135) (lb := #[.pointer (some ⟨w3.heap.size + 1, 0, none⟩)]) rfl trivial (enters_of Tryz.func135 (by kernel_rfl) rfl)
        (back_stops Fence.wide 2 trivial rfl (by omega) (w3.heap.size + 1) wq.heap.size tc ta ts (by omega) W5 (by omega) (by omega) cB (fun j hj => by
          obtain ⟨g, e, hc, hg⟩ := hEnd.held.at_ j hj
          exact ⟨g, e, hg, by rw [hb5.cell (p := ⟨g, j, none⟩) hg, hc]; simp [hj]⟩)) BackK.trans (backK_b (by omega)) (Below.refl _ _) (fun _ => rfl)
        (RowI ts w1.heap.size wq.heap.size w3.heap.size W5) (fun _ _ _ => False) (rowI_own ts _ _ _ W5 (by omega) (by omega)) (fun _ _ _ _ _ hs _ _ => hs)
        ⟨⟨emptyTr, _, _, rfl, kW, emptyTr_ok _ _, rfl, Nat.le_refl _⟩, Below.refl _ _⟩
        (fun x => { tmps := #[.pointer (some ⟨R, 0, none⟩), undef, .pointer (some ⟨w.heap.size, 0, none⟩), u3, .slice ta ts.length tc, .int .i64 (Munch.weightsV acc), u6, u7, .pointer (some ⟨w3.heap.size, 0, none⟩), undef, (ts[x]?.getD emptyTr).v, .pointer (some ⟨R, 0, none⟩), .bool false, u13, u14, u15, u16, u17, u18, u19, u20, u21, u22, u23, u24, u25, u26, u27, u28, u29, .iface 200 (.agg #[]), .slice ta ts.length tc, .func (.func 135) #[] #[.pointer (some ⟨w3.heap.size + 1, 0, none⟩)], .int .i64 (x : Nat), (ts[x]?.getD emptyTr).v, undef, undef, undef, undef, undef, undef], defers := [] }) ?assign ?body ?done ?stop
      case assign =>
        intro l x W K hK
        gi_wp2
        exact hK
      case body =>
        rintro l pre x W HI hlt
        have HI2 := HI
        obtain ⟨⟨r, T, p, hv, hkW, hrok, hrL, hrn⟩, hBW⟩ := HI
        have c0 : W.cell? ⟨w3.heap.size, 0, none⟩ = some (.iface T p) := hkW.cell 0
        have f0 := hkW.frozen 0
        have hxok : TreeOk W (fun y => w1.heap.size ≤ y ∧ y < wq.heap.size) (ts[x]?.getD emptyTr) := (hok5 x).keep ⟨hBW.size, fun b _ hb => hBW.block b hb.2⟩
        have hnn : (ts[x]?.getD emptyTr).n + r.n ≤ 1000000 := by
          have h1 := tree_n ts x
          have h2 := rowN_le ts pre
          have h3 : pre.length * ((ts.map (·.n)).sum + 1) ≤ 160 * 161 := Nat.mul_le_mul (by omega) (by omega)
          omega
        have hth := then_any (ts[x]?.getD emptyTr) r W _ hxok hrok hnn
        rw [hv] at hth
        gi_wp2
        refine ⟨trivial, (CallsIn.inRound l (callsIn_wide.2 hth)).mono ?_⟩
        clear hth
        rintro e w8 ⟨r8, rfl, hrok8, hrL8, hrn8, hb8⟩
        obtain ⟨T8, p8, hv8⟩ := hrok8.shape
        rw [hv8]
        have k8 := hkW.below hb8 hkW.lt
        have c8 : w8.cell? ⟨w3.heap.size, 0, none⟩ = some (.iface T p) := k8.cell 0
        have f8 := k8.frozen 0
        have HS : Hid _ := HI2.step (x := x) (Bs := w3.heap.size + 1) hv8 hrok8 (by rw [hrL8, rowL_snoc, hrL]) (by rw [rowN_snoc]; omega) hb8 (by omega) hqs
        clear HI2 hrok8 hrok hxok k8 hkW
        gi_wp2
        exact HS.out
      case done =>
        rintro D ys W hD rfl HI hK
        obtain ⟨⟨r, T, p, hv, hkW, hrok, hrL, hrn⟩, hBW⟩ := HI
        rw [rowL_all, fold_langs ts acc H2.langs, ← langRow_fold] at hrL
        rw [rowN_all] at hrn
        have hrn2 : r.n ≤ 2 * (i - i0) + 1 := by omega
        have hbW : Below wq.heap.size wq W := hb5.trans hBW
        have kB := H2.res.below hbW H2.res.lt
        have hBq := H2.res.lt
        have hRq := H2.rs.lt
        obtain ⟨hmF, hrF, kF, _⟩ := put_piece (nd := .row acc) (m := 2 * (i - i0) + 1) (base := w.heap.size) (H2.moves.trans (Moves.of_below hbW)) (Nat.le_refl _) hBR (H2.rs.keep hbW) kB hv (hrok.mono (fun y _ hy => by constructor <;> omega)) hrL (by omega) (Munch.weightsV acc : Int) rfl
        have hK1 := ((KeepsOthers.setCell W ⟨w.heap.size, 0, none⟩ (.iface T p)).trans (KeepsOthers.setCell (W.setCell ⟨w.heap.size, 0, none⟩ (.iface T p)) ⟨w.heap.size, 1, none⟩ (.int .i64 (Munch.weightsV acc)))).same D _ hK rfl
        have hg1 := grownBy_putObj' ((W.setCell ⟨w.heap.size, 0, none⟩ (.iface T p)).setCell ⟨w.heap.size, 1, none⟩ (.int .i64 (Munch.weightsV acc))) D (.deferred none)
        have hwq := H2.moves.size
        have hmG := hmF.grown hg1 (fun k e => by cases e; omega)
        have hrG := Blk.grown hrF hg1 (by simp; omega)
        have kG := kF.grown hg1 (by simp; omega)
        have okG : TreeOk (((W.setCell ⟨w.heap.size, 0, none⟩ (.iface T p)).setCell ⟨w.heap.size, 1, none⟩ (.int .i64 (Munch.weightsV acc))).putObj D (.deferred none)) (w.heap.size ≤ ·) r := by
          refine (hrok.keep (((keeps_set W ⟨w.heap.size, 0, none⟩ (.iface T p)).mono ?_).trans (((keeps_set _ ⟨w.heap.size, 1, none⟩ (.int .i64 (Munch.weightsV acc))).mono ?_).trans ((keeps_grown hg1).mono ?_)))).mono ?_
          · intro y _ hy; show y ≠ w.heap.size; omega
          · intro y _ hy; show y ≠ w.heap.size; omega
          · intro y _ hy; show some y ≠ some D; simp; omega
          · intro y _ hy; omega
        have e0 : W.cell? ⟨w.heap.size, 0, none⟩ = some .nilIface := kB.cell 0
        have e1 : W.cell? ⟨w.heap.size, 1, none⟩ = some (.int .i64 0) := kB.cell 1
        have g0 := kB.frozen 0
        have g1 := kB.frozen 1
        have q0 : W.cell? ⟨w3.heap.size, 0, none⟩ = some (.iface T p) := hkW.cell 0
        have HOK : Hid _ := okG
        clear okG hrok kB hkW hok5 hEnd H2
        go_wp2_with fail
        refine ⟨by simp, .inl ⟨_, _, rfl, run_takeDeferred hK1, ?_⟩⟩
        have z0 := kG.cell 0
        have z1 := kG.cell 1
        simp at z0 z1
        refine ⟨.tuple #[.agg #[.iface T p, .int .i64 (Munch.weightsV acc)], .bool true], by simp [results, Tryz.results99, go_sem, z0, z1], ?_⟩
        exact ⟨hmG, Or.inr ⟨(.row acc, i, d), _, HF.out, rfl, hrG, ⟨r, T, p, rfl, hv, HOK.out, hrL, hrn2⟩⟩⟩
      case stop =>
        rintro D c pre W _ _ h _
        exact h.elim

theorem row_said (N : Nat) (hp : ∀ k, k < N → DPiece k) (s : ByteArray) (opn : Nat) (hs : s.size ≤ 80) : OneSaid 99 s (rowR s opn) opn 1 N := by
  refine ⟨enters_of Tryz.func99 (by kernel_rfl) (by kernel_rfl), ?_, ?_⟩
  · intro k i d nd j d2 _ hi h
    obtain ⟨h1, h2⟩ := (Munch.bounds s k).2.1 i opn d [] nd j d2 hi h
    obtain ⟨e, he, hc⟩ := (Munch.heavies s k).2.1 i opn d [] nd j d2 hi h
    refine ⟨h1, h2, ?_⟩
    have e0 : Munch.weightsV [] = 0 := rfl
    rw [he, e0, Nat.zero_add]; exact hc
  · intro k i d R mb w hk hr hg hi ho hl hout
    exact row_call N hp s opn hs k i d R mb w hk hr hg hi ho hl hout
end Go.Proofs.YtkoaeojdlanolaaGreatDoor
/-
  munch.Check: the whole reader.
-/
namespace Go.Proofs.YtkoaeojdlanolaaGreatDoor
open Go.RowKit

theorem dpiece_zero : DPiece 0 := by
  intro R s i mb opn deep w _ _ _ _ _ _ hout
  exact absurd (Munch.pieceF_z s i opn deep) hout
theorem datom_zero : DAtom 0 := by
  intro R s i mb opn deep w _ _ _ _ _ _ hout
  exact absurd (Munch.atomF_z s i opn deep) hout
theorem dforms_of (N : Nat) (hp : ∀ k, k < N → DPiece k) : DForm N := form_any_d N (fun s opn hs => row_said N hp s opn hs)
theorem dpieces : ∀ N k, k < N → DPiece k := by
  intro N
  induction N with
  | zero => intro k hk; omega
  | succ N ih =>
    intro k hk
    rcases Nat.lt_or_ge k N with h | h
    · exact ih k h
    · obtain rfl : k = N := by omega
      rcases k with _ | _ | k
      · exact dpiece_zero
      · exact piece_any 0 datom_zero
      · exact piece_any (k + 1) (atom_any k (dforms_of k (fun j hj => ih j (by omega))))
theorem dforms (N : Nat) : DForm N := dforms_of N (dpieces N)
theorem dpats (N : Nat) : DPat N := pattern_any_d N (fun k _ => dforms k)
theorem dread (s : ByteArray) : DRead s := readR_any s dpats
theorem checkM_any (s : ByteArray) (w : World) (hs : s.size ≤ maxLen) (hl : LaidT w) :
    Calls Tryz.prog 5 #[.string s] w fun e w' => e = .returned (.tuple #[.int .i64 (Munch.checkV s).1, .int .i64 (Munch.checkV s).2]) ∧ Below w.heap.size w w' := checkD_any s (dread s) w hs hl
end Go.Proofs.YtkoaeojdlanolaaGreatDoor
