import Derived.Test.YtkoaeojdlanolaaGreatDoorCd06
/-
  munch.read and munch.Check, over reader.Read.
-/
namespace Go.Proofs.YtkoaeojdlanolaaGreatDoor
open Go.RowKit
open Munch (Words Wempty Wbytes Wcat Wany Wall Wnot KeyF Times numText)

/-- The trees of a list's patterns. -/
def ListOk (w : World) (base : Nat) (sv : Value) (l : List (List Munch.Part)) : Prop := ∃ ts : List Tr, TreesOk w (base ≤ ·) sv ts ∧ ts.map (·.L) = l.map (fun p => Munch.Lang (patN p))

/-- What reader.Read answers. -/
def DRead (s : ByteArray) : Prop := ∀ w : World, s.size ≤ 80 → LaidT w → Calls Tryz.prog 15 #[.string s] w fun e w' => Below w.heap.size w w' ∧
  ((∃ p : Nat, Munch.listF s (Munch.fuel s) 0 none [] = .bad p ∧ e = .returned (.tuple #[.agg #[.slice none 0 0, .int .i64 0, .int .i64 0], .int .i64 p, .bool false])) ∨
   (∃ (l : List (List Munch.Part)) (d : Option Nat) (ao : Option Addr) (n cap : Nat), Munch.listF s (Munch.fuel s) 0 none [] = .ok (l, d) ∧ e = .returned (.tuple #[.agg #[.slice ao n cap, .int .i64 (Munch.weightL l), .int .i64 (deepD d)], .int .i64 0, .bool true]) ∧ ListOk w' w.heap.size (.slice ao n cap) l))

/-- What munch.read answers. -/
def ReadV (s : ByteArray) (w : World) (e : Ending) (w' : World) : Prop := Below w.heap.size w w' ∧
  ((Munch.checkV s ≠ (0, 0) ∧ e = .returned (.tuple #[.slice none 0 0, .int .i64 (Munch.checkV s).1, .int .i64 (Munch.checkV s).2])) ∨
   (Munch.checkV s = (0, 0) ∧ ∃ (l : List (List Munch.Part)) (ao : Option Addr) (n cap : Nat), s.size ≤ 80 ∧ Munch.listF s (Munch.fuel s) 0 none [] = .ok (l, none) ∧ e = .returned (.tuple #[.slice ao n cap, .int .i64 0, .int .i64 0]) ∧ ListOk w' w.heap.size (.slice ao n cap) l))

theorem ListOk.keep {w w' : World} {base : Nat} {sv : Value} {l : List (List Munch.Part)} (h : ListOk w base sv l) (hb : Below w.heap.size w w') : ListOk w' base sv l := by
  obtain ⟨ts, h1, h2⟩ := h
  exact ⟨ts, h1.keep (keeps_below hb), h2⟩

set_option maxHeartbeats 2000000 in
set_option maxRecDepth 100000 in
theorem readM_any (s : ByteArray) (hrd : DRead s) (w : World) (hs : s.size ≤ maxLen) (hl : LaidT w) :
    Calls Tryz.prog 10 #[.string s] w fun e w' => ReadV s w e w' := by
  unfold maxLen at hs
  by_cases h80 : 80 < s.size
  · have h80' : (80 : Int) < (s.size : Int) := by omega
    have HV : Hid (Munch.checkV s = (1, 0)) := by
      show Munch.checkV s = (1, 0)
      unfold Munch.checkV; rw [if_pos h80]
    go_enter Tryz.func10, Tryz.ntmps10
    go_wp2_with fail
    go_ret3
    exact ⟨Below.refl _ _, Or.inl ⟨by rw [HV.out]; decide, by simp [HV.out]⟩⟩
  · have h80' : ¬ (80 : Int) < (s.size : Int) := by omega
    have hca := hrd w (by omega) hl
    go_enter Tryz.func10, Tryz.ntmps10
    go_wp2_with fail
    refine hca.mono ?_
    clear hca
    rintro e w1 ⟨hb1, ⟨p, hres, rfl⟩ | ⟨l, d, ao, n, cap, hres, rfl, hok⟩⟩
    · have HV : Hid (Munch.checkV s = (2, (p : Int))) := by
        show Munch.checkV s = _
        unfold Munch.checkV; rw [if_neg h80, hres]
      have hb2 := hb1.alloc hb1.size (.cells #[.slice none 0 0, .int .i64 0, .int .i64 0] 47)
      clear hres
      go_wp2_with fail
      go_ret3
      exact ⟨hb2, Or.inl ⟨by rw [HV.out]; simp, by simp [HV.out]⟩⟩
    · have hb2 := hb1.alloc hb1.size (.cells #[.slice ao n cap, .int .i64 (Munch.weightL l), .int .i64 (deepD d)] 47)
      have HO : Hid (ListOk (w1.alloc (.cells #[.slice ao n cap, .int .i64 (Munch.weightL l), .int .i64 (deepD d)] 47)) w.heap.size (.slice ao n cap) l) := hok.keep (below_box w1 _)
      clear hok
      cases d with
      | some d =>
        have HV : Hid (Munch.checkV s = (3, (d : Int))) := by
          show Munch.checkV s = _
          unfold Munch.checkV; rw [if_neg h80, hres]
        have hdd : deepD (some d) = (d : Int) := rfl
        rw [hdd] at hb2 ⊢
        have hne : ¬ (d : Int) = -1 := by omega
        clear hres HO hdd
        go_wp2_with fail
        go_quiet (fail)
        go_wp2_with fail
        go_ret3
        exact ⟨below_drewN hb2 _, Or.inl ⟨by rw [HV.out]; simp, by simp [HV.out]⟩⟩
      | none =>
        have hdd : deepD none = -1 := rfl
        rw [hdd] at hb2 HO ⊢
        by_cases h10 : 10 < Munch.weightL l
        · have h10' : (10 : Int) < (Munch.weightL l : Int) := by omega
          have HV : Hid (Munch.checkV s = (4, 0)) := by
            show Munch.checkV s = _
            unfold Munch.checkV; rw [if_neg h80, hres]; simp [h10]
          clear hres HO hdd
          go_wp2_with fail
          go_ret3
          exact ⟨hb2, Or.inl ⟨by rw [HV.out]; decide, by simp [HV.out]⟩⟩
        · have h10' : ¬ (10 : Int) < (Munch.weightL l : Int) := by omega
          have HV : Hid (Munch.checkV s = (0, 0)) := by
            show Munch.checkV s = _
            unfold Munch.checkV; rw [if_neg h80, hres]; simp [h10]
          have HR : Hid _ := hres
          clear hres hdd
          go_wp2_with fail
          go_ret3
          exact ⟨hb2, Or.inr ⟨HV.out, l, ao, n, cap, by omega, HR.out, rfl, HO.out⟩⟩

set_option maxHeartbeats 1000000 in
theorem checkD_any (s : ByteArray) (hrd : DRead s) (w : World) (hs : s.size ≤ maxLen) (hl : LaidT w) :
    Calls Tryz.prog 5 #[.string s] w fun e w' => e = .returned (.tuple #[.int .i64 (Munch.checkV s).1, .int .i64 (Munch.checkV s).2]) ∧ Below w.heap.size w w' := by
  have hca := readM_any s hrd w hs hl
  go_enter Tryz.func5, Tryz.ntmps5
  go_wp2_with fail
  refine hca.mono ?_
  clear hca
  rintro e w1 ⟨hb1, ⟨hne, rfl⟩ | ⟨hz, l, ao, n, cap, _, _, rfl, _⟩⟩
  · go_wp2_with fail
    go_ret2
    exact ⟨rfl, hb1⟩
  · have HZ : Hid _ := hz
    clear hz
    go_wp2_with fail
    go_ret2
    exact ⟨by simp [HZ.out], hb1⟩
end Go.Proofs.YtkoaeojdlanolaaGreatDoor
/-
  reader.Read, over pattern.
-/
namespace Go.Proofs.YtkoaeojdlanolaaGreatDoor
open Go.RowKit
open Munch (Words Wempty Wbytes Wcat Wany Wall Wnot KeyF Times numText)

theorem weightV_pat (ps : List Munch.Part) : Munch.weightV (patN ps) = Munch.weightP ps := rfl
theorem wrap_sum (a b : Nat) (ha : a ≤ 1000000000000000000) (hb : b ≤ 1000000000000000000) : IntKind.i64.wrap ((a : Int) + (b : Int)) = (a : Int) + (b : Int) := by
  rw [IntKind.wrap_i64]; omega

structure RdInv (s : ByteArray) (mb : Nat) (w0 w1 : World) (ta : Option Addr) (tc : Nat) (ts : List Tr) (acc : List (List Munch.Part)) (i : Nat) (d : Option Nat) (wr : World) : Prop where
  row : wr.ownsRow w1.heap.size 72 1 (.slice ta ts.length tc) ts.length (ts.map (·.v))
  trees : ∀ t ∈ ts, TreeOk wr (Apart (fun _ => False) w1.heap.size (.slice ta ts.length tc)) t
  langs : ts.map (·.L) = acc.map (fun p => Munch.Lang (patN p))
  can : Munch.Can (Munch.weightL acc) i
  rs : Rs wr w0.heap.size s i ((0 : Nat) : Int) (deepD d) mb
  lst : Blk wr (w0.heap.size + 1) 47 #[.slice ta ts.length tc, .int .i64 (Munch.weightL acc), .int .i64 0]
  below : Below w0.heap.size w0 wr
  grow : w1.heap.size ≤ wr.heap.size
  len : ts.length = acc.length
  le : i ≤ s.size

theorem below_of_moves {R : Nat} {w w' : World} {B : Nat} (h : Moves R w w') (hB : B ≤ w.heap.size) (hR : B ≤ R) : Below B w w' := ⟨h.os, h.tape, h.output, h.size, fun k hk => h.block k (by omega) (by simp; omega)⟩

theorem RdInv.moves {s : ByteArray} {mb : Nat} {w0 w1 : World} {ta : Option Addr} {tc : Nat} {ts : List Tr} {acc : List (List Munch.Part)} {i j : Nat} {d : Option Nat} {wr w' : World} (h : RdInv s mb w0 w1 ta tc ts acc i d wr) (hR1 : w0.heap.size + 1 < w1.heap.size) (hm : Moves w0.heap.size wr w') (hr : Rs w' w0.heap.size s j ((0 : Nat) : Int) (deepD d) mb) (hij : i ≤ j) (hjs : j ≤ s.size) : RdInv s mb w0 w1 ta tc ts acc j d w' :=
  ⟨ownsRow_keeps h.row hm.keeps (fun k hk => by have := (h.row.lt k hk).1; omega),
   fun t ht => (h.trees t ht).keep (hm.keeps.mono (fun x _ hx => by rcases hx.1 with hx | hx; exact hx.elim; omega)),
   h.langs, h.can.le hij, hr, h.lst.grown hm (by simp), h.below.trans (below_of_moves hm h.below.size (Nat.le_refl _)), Nat.le_trans h.grow hm.size, h.len, hjs⟩

theorem RdInv.snoc {s : ByteArray} {mb : Nat} {w0 w1 : World} {ta : Option Addr} {tc : Nat} {ts : List Tr} {acc : List (List Munch.Part)} {i j : Nat} {d d2 : Option Nat} {wr w4 w5 : World} (h : RdInv s mb w0 w1 ta tc ts acc i d wr) (hR1 : w0.heap.size + 1 < w1.heap.size) {ps : List Munch.Part} {r : Tr} {g cap : Nat} (hm : Moves w0.heap.size wr w4) (hr4 : Rs w4 w0.heap.size s j ((0 : Nat) : Int) (deepD d2) mb)
    (hrok : TreeOk w4 (fun x => wr.heap.size ≤ x) r) (hL : r.L = Munch.Lang (patN ps)) (hcan : Munch.Can (Munch.weightP ps) (j - i)) (hij : i ≤ j) (hjs : j ≤ s.size)
    (hown : w5.ownsRow w1.heap.size 72 1 (.slice (some ⟨g, 0, none⟩) (ts.length + 1) cap) (ts.length + 1) (ts.map (·.v) ++ [r.v])) (hg : w4.grownBy w5 (Value.slice ta ts.length tc).ownBlock) (hat : (Value.slice ta ts.length tc).ownBlock = some g ∨ g = w4.heap.size) :
    RdInv s mb w0 w1 (some ⟨g, 0, none⟩) cap (ts ++ [r]) (acc ++ [ps]) j d2 ((w5.setCell ⟨w0.heap.size + 1, 0, none⟩ (.slice (some ⟨g, 0, none⟩) (ts.length + 1) cap)).setCell ⟨w0.heap.size + 1, 1, none⟩ (.int .i64 ((Munch.weightL acc : Int) + (Munch.weightV (patN ps) : Int)))) := by
  have hgr := h.grow
  have hat' : (Value.slice (some ⟨g, 0, none⟩) (ts ++ [r]).length cap).ownBlock = (Value.slice ta ts.length tc).ownBlock ∨ (Value.slice (some ⟨g, 0, none⟩) (ts ++ [r]).length cap).ownBlock = some w4.heap.size := by
    rcases hat with e | e
    · left; rw [e]; rfl
    · right; rw [e]; rfl
  have hne : ∀ k, k < w1.heap.size → some k ≠ (Value.slice ta ts.length tc).ownBlock := fun k hk e => by have := (h.row.lt k e.symm).1; omega
  have hr5 : Rs w5 w0.heap.size s j ((0 : Nat) : Int) (deepD d2) mb := Blk.grown hr4 hg (hne _ (by omega))
  have hL5 := (h.lst.grown hm (by simp)).grown hg (hne _ hR1)
  have hkk : Keeps (· ≠ w0.heap.size + 1) w5 ((w5.setCell ⟨w0.heap.size + 1, 0, none⟩ (.slice (some ⟨g, 0, none⟩) (ts.length + 1) cap)).setCell ⟨w0.heap.size + 1, 1, none⟩ (.int .i64 ((Munch.weightL acc : Int) + (Munch.weightV (patN ps) : Int)))) := (keeps_both (keeps_set w5 ⟨w0.heap.size + 1, 0, none⟩ _) (keeps_set _ ⟨w0.heap.size + 1, 1, none⟩ _)).mono (fun x _ hx => ⟨hx, hx⟩)
  have hrow5 : w5.ownsRow w1.heap.size 72 1 (.slice (some ⟨g, 0, none⟩) (ts ++ [r]).length cap) (ts ++ [r]).length ((ts ++ [r]).map (·.v)) := by simpa using hown
  have htrees : ∀ t ∈ ts ++ [r], TreeOk w5 (Apart (fun _ => False) w1.heap.size (.slice (some ⟨g, 0, none⟩) (ts ++ [r]).length cap)) t := by
    intro t ht
    rcases List.mem_append.1 ht with ht | ht
    · refine trees_snoc ((h.trees t ht).keep (hm.keeps.mono (fun x _ hx => ?_))) hg hat'
      rcases hx.1 with hx | hx
      · exact hx.elim
      · omega
    · simp at ht; subst ht
      refine trees_snoc (hrok.mono (fun x _ hx => ⟨Or.inr (by omega), fun e => ?_⟩)) hg hat'
      have := (h.row.lt x e).2
      omega
  have hb5 : Below w0.heap.size w0 w5 := (h.below.trans (below_of_moves hm h.below.size (Nat.le_refl _))).trans ⟨hg.os, hg.tape, hg.output, hg.size, fun k hk => hg.block k (by have := h.below.size; have := hm.size; omega) (hne k (by omega))⟩
  have hwt : Munch.weightL (acc ++ [ps]) = Munch.weightL acc + Munch.weightP ps := by rw [Munch.weightL_append, Munch.weightL_one]
  refine ⟨ownsRow_keeps hrow5 hkk (fun k hk => by have := (hrow5.lt k hk).1; omega), fun t ht => (htrees t ht).keep (hkk.mono (fun x _ hx => by rcases hx.1 with hx | hx; exact hx.elim; omega)), by simp [h.langs, hL], ?_, (Blk.setOther (Blk.setOther hr5 (by simp) _) (by simp) _), ?_, (hb5.setCell (by simp) _).setCell (by simp) _, ?_, by simp [h.len], hjs⟩
  · rw [hwt]
    exact (h.can.add hcan).le (by omega)
  · have := (hL5.set 0 (.slice (some ⟨g, 0, none⟩) (ts.length + 1) cap)).set 1 (.int .i64 ((Munch.weightL acc : Int) + (Munch.weightV (patN ps) : Int)))
    have hw2 : (Munch.weightL acc : Int) + (Munch.weightV (patN ps) : Int) = (Munch.weightL (acc ++ [ps]) : Int) := by rw [hwt]; show _ + (Munch.weightP ps : Int) = _; omega
    simp at this ⊢
    rw [hw2] at this ⊢
    exact this
  · rw [size_setCell, size_setCell]
    have h1 := hm.size
    have h2 := hg.size
    omega

theorem ListOk.kept {w w' : World} {base base' : Nat} {sv : Value} {l : List (List Munch.Part)} (h : ListOk w base sv l) (hb : Keeps (base ≤ ·) w w') (hbb : base' ≤ base) : ListOk w' base' sv l := by
  obtain ⟨ts, h1, h2⟩ := h
  exact ⟨ts, (h1.keep hb).mono (fun x _ hx => Nat.le_trans hbb hx), h2⟩
theorem RdInv.listed {s : ByteArray} {mb : Nat} {w0 w1 : World} {ta : Option Addr} {tc : Nat} {ts : List Tr} {acc : List (List Munch.Part)} {i : Nat} {d : Option Nat} {wr : World} (h : RdInv s mb w0 w1 ta tc ts acc i d wr) : ListOk wr w1.heap.size (.slice ta ts.length tc) acc :=
  ⟨ts, ⟨⟨w1.heap.size, h.row, fun g hg => (h.row.lt g hg).1⟩, fun t ht => (h.trees t ht).mono (fun x _ hx => by rcases hx.1 with hx | hx; exact hx.elim; exact hx)⟩, h.langs⟩

set_option maxHeartbeats 8000000 in
set_option maxRecDepth 100000 in
theorem readR_any (s : ByteArray) (hp : ∀ k, DPat k) : DRead s := by
  intro w hs hl
  obtain ⟨i1, hi1, hi10, hi11, hi12⟩ := info_parts infoTree
  have hb0 := below_box w (.cells #[.slice none 0 0, .int .i64 0, .int .i64 0] 47)
  have kB0 : Blk (w.alloc (.cells #[.slice none 0 0, .int .i64 0, .int .i64 0] 47)) w.heap.size 47 #[.slice none 0 0, .int .i64 0, .int .i64 0] := Blk.new _ _ _
  have hbe := behindAtom_any (w.alloc (.cells #[.slice none 0 0, .int .i64 0, .int .i64 0] 47))
  have HNO : Hid _ := Munch.fuel_enough s
  go_enter Tryz.func15, Tryz.ntmps15
  go_wp2_with fail
  refine hbe.mono ?_
  clear hbe
  rintro e w0 ⟨mb, rfl, hsg, hmb, hbm⟩
  obtain ⟨w1, hw1e⟩ : ∃ w1, w1 = (w0.alloc (.cells #[.string s, .int .i64 0, .int .i64 0, .int .i64 (-1), .map (some mb)] 80)).alloc (.cells #[.slice none 0 0, .int .i64 0, .int .i64 0] 47) := ⟨_, rfl⟩
  have hb01 : Below w0.heap.size w0 w1 := by rw [hw1e]; exact (below_box w0 _).alloc (by simp) _
  have hr1 : Rs w1 w0.heap.size s 0 ((0 : Nat) : Int) (deepD none) mb := by rw [hw1e]; exact (Blk.new w0 _ _).alloc _
  have kL : Blk w1 (w0.heap.size + 1) 47 #[.slice none 0 0, .int .i64 0, .int .i64 0] := by
    rw [hw1e]
    have := Blk.new (w0.alloc (.cells #[.string s, .int .i64 0, .int .i64 0, .int .i64 (-1), .map (some mb)] 80)) #[.slice none 0 0, .int .i64 0, .int .i64 0] 47
    rwa [size_alloc] at this
  have hbw0 : Below w.heap.size w w0 := hb0.trans (hbm.mono (by simp))
  have hsz0 : w.heap.size + 1 ≤ w0.heap.size := by have := hbm.size; simp at this; omega
  have H0 : RdInv s mb w0 w1 none 0 [] [] 0 none w1 := ⟨World.ownsRow_nil _ _ _ _, (fun t h => by cases h), rfl, Munch.Can.zero _, hr1, kL, hb01, Nat.le_refl _, rfl, by omega⟩
  have hmbR : mb < w0.heap.size := (Array.getElem?_eq_some_iff.1 hsg).1
  have kB0' : Blk w0 w.heap.size 47 #[.slice none 0 0, .int .i64 0, .int .i64 0] := kB0.below hbm kB0.lt
  have hl0 := hl.keep hbw0
  have hR1 := hr1.lt
  have hL1 := kL.lt
  clear hr1 kL kB0 hb0 hbm hb01
  go_wp2_with fail
  rw [← hw1e]
  clear hw1e
  go_loopg [] (Munch.fuel s) (fun k wr => k ≤ Munch.fuel s ∧ ∃ (ta : Option Addr) (tc : Nat) (ts : List Tr) (acc : List (List Munch.Part)) (i : Nat) (d : Option Nat), acc.length ≤ 4 ∧ RdInv s mb w0 w1 ta tc ts acc i d wr ∧ Hid (Munch.listF s k i d acc = Munch.listF s (Munch.fuel s) 0 none []))
  case atStart => exact ⟨Nat.le_refl _, none, 0, [], [], 0, none, by simp, H0, rfl⟩
  case round =>
    obtain ⟨hgN, ta, tc, ts, acc, i, d, h4, H, HV⟩ := hrel
    clear H0
    obtain ⟨K, rfl⟩ : ∃ K, gk = K + 1 := by
      cases gk with
      | zero => exact absurd (by rw [← HV.out]; rfl) HNO.out
      | succ K => exact ⟨K, rfl⟩
    have HE : Hid (Munch.listF s (Munch.fuel s) 0 none [] = (Munch.patternF s K i d []).bind fun x => if Munch.hasAt s x.2.1 10 && decide (acc.length + 1 < 5) then Munch.listF s K (x.2.1 + 1) x.2.2 (acc ++ [x.1]) else if x.2.1 < s.size then .bad x.2.1 else .ok (acc ++ [x.1], x.2.2)) := by
      show Munch.listF s (Munch.fuel s) 0 none [] = _
      rw [← HV.out]; rfl
    have hno : Munch.patternF s K i d [] ≠ .out := fun h => HNO.out (by rw [HE.out, h]; rfl)
    have hca := hp K w0.heap.size s i mb d wr H.rs ((H.below.block mb hmbR).trans hsg) H.le hs (hl0.keep H.below) hno
    clear HV hno
    go_wp2_with fail
    refine hca.mono ?_
    clear hca
    rintro e w2 ⟨hm2, ⟨pl, n', d', hres, rfl, hr2⟩ | ⟨⟨ps, j, d2⟩, v, hres, rfl, hr2, r, T, p, rfl, hv, hok, hL, hn⟩⟩
    · have HF : Hid (Munch.listF s (Munch.fuel s) 0 none [] = .bad pl) := by
        show _ = _
        rw [HE.out, hres]; rfl
      obtain ⟨w3, hw3e⟩ : ∃ w3, w3 = w2.alloc (.cells #[.nilIface, .int .i64 0] 82) := ⟨_, rfl⟩
      have hb3 : Below w2.heap.size w2 w3 := by rw [hw3e]; exact below_box w2 _
      have hb03 : Below w0.heap.size w0 w3 := (H.below.trans (below_of_moves hm2 H.below.size (Nat.le_refl _))).trans (hb3.mono (by have := H.below.size; have := hm2.size; omega))
      have kB3 : Blk w3 w.heap.size 47 #[.slice none 0 0, .int .i64 0, .int .i64 0] := kB0'.below hb03 (by omega)
      have hr3 := hr2.keep hb3
      have hbe3 : Below w.heap.size w w3 := hbw0.trans (hb03.mono (by omega))
      have c1 := hr3.c1
      have e0 : w3.cell? ⟨w.heap.size, 0, none⟩ = some (.slice none 0 0) := kB3.cell 0
      have e1 : w3.cell? ⟨w.heap.size, 1, none⟩ = some (.int .i64 0) := kB3.cell 1
      have e2 : w3.cell? ⟨w.heap.size, 2, none⟩ = some (.int .i64 0) := kB3.cell 2
      have g0 := kB3.frozen 0
      have g1 := kB3.frozen 1
      have g2 := kB3.frozen 2
      have hne : w0.heap.size ≠ w.heap.size := by omega
      clear hres H hr2 hm2 HE
      go_wp2_with fail
      rw [← hw3e]
      clear hw3e
      have kF : Blk (((w3.setCell ⟨w.heap.size, 0, none⟩ (.slice none 0 0)).setCell ⟨w.heap.size, 1, none⟩ (.int .i64 0)).setCell ⟨w.heap.size, 2, none⟩ (.int .i64 0)) w.heap.size 47 #[.slice none 0 0, .int .i64 0, .int .i64 0] := by
        have := ((kB3.set 0 (.slice none 0 0)).set 1 (.int .i64 0)).set 2 (.int .i64 0); simpa using this
      have hbF : Below w.heap.size w (((w3.setCell ⟨w.heap.size, 0, none⟩ (.slice none 0 0)).setCell ⟨w.heap.size, 1, none⟩ (.int .i64 0)).setCell ⟨w.heap.size, 2, none⟩ (.int .i64 0)) := ((hbe3.setCell (by simp) _).setCell (by simp) _).setCell (by simp) _
      clear kB3
      go_region
      go_wp2_with fail
      have z0 := kF.drew.cell 0
      have z1 := kF.drew.cell 1
      have z2 := kF.drew.cell 2
      simp at z0 z1 z2
      refine bodyPost_ret (v := .tuple #[.agg #[.slice none 0 0, .int .i64 0, .int .i64 0], .int .i64 pl, .bool false]) (by simp [results, Tryz.results15, go_sem, z0, z1, z2]) rfl ?_
      exact ⟨hbF.drew, Or.inl ⟨pl, HF.out, rfl⟩⟩
    · have hij := Munch.pattern_ok s K i d [] ps j d2 H.le hres
      obtain ⟨⟨we, hwe, hcan⟩, _⟩ := Munch.pattern_can s K i d [] ps j d2 H.le (by intro x hx; cases hx) hres
      have hwp : Munch.Can (Munch.weightP ps) (j - i) := by rw [hwe]; simpa [Munch.weightP, Munch.weightsV] using hcan
      have HF : Hid (Munch.listF s (Munch.fuel s) 0 none [] = if Munch.hasAt s j 10 && decide (acc.length + 1 < 5) then Munch.listF s K (j + 1) d2 (acc ++ [ps]) else if j < s.size then .bad j else .ok (acc ++ [ps], d2)) := by
        show _ = _
        rw [HE.out, hres]; rfl
      simp only at hr2 hn hL
      clear hres HE hwe hcan
      have hb3 := below_box w2 (.cells #[.iface T p, .int .i64 (Munch.weightV (patN ps))] 82)
      have kI : Blk (w2.alloc (.cells #[.iface T p, .int .i64 (Munch.weightV (patN ps))] 82)) w2.heap.size 82 #[.iface T p, .int .i64 (Munch.weightV (patN ps))] := Blk.new _ _ _
      have hb4 := hb3.alloc (by simp) (.cells #[.iface T p] 72)
      have kI4 := kI.alloc (.cells #[.iface T p] 72)
      have hm24 : Moves w0.heap.size wr ((w2.alloc (.cells #[.iface T p, .int .i64 (Munch.weightV (patN ps))] 82)).alloc (.cells #[.iface T p] 72)) := hm2.trans (Moves.of_below hb4)
      have hgr := H.grow
      have hwr2 := hm2.size
      have hrow4 := ownsRow_keeps H.row hm24.keeps (fun k hk => by have := (H.row.lt k hk).1; omega)
      have hbase : w1.heap.size ≤ ((w2.alloc (.cells #[.iface T p, .int .i64 (Munch.weightV (patN ps))] 82)).alloc (.cells #[.iface T p] 72)).heap.size := Nat.le_trans hgr hm24.size
      have kL4 := H.lst.grown hm24 (by simp)
      have kL3 := (H.lst.grown hm2 (by simp)).alloc (.cells #[.iface T p, .int .i64 (Munch.weightV (patN ps))] 82)
      have l0 : (w2.alloc (.cells #[.iface T p, .int .i64 (Munch.weightV (patN ps))] 82)).cell? ⟨w0.heap.size + 1, 0, none⟩ = some (.slice ta ts.length tc) := kL3.cell 0
      have hlen := H.len
      have hI2 : ∀ x, (Value.slice ta ts.length tc).ownBlock = some x → w1.heap.size ≤ x ∧ x < wr.heap.size := fun x hx => H.row.lt x hx
      have hlc : ts.length ≤ 4 := by omega
      have HLEN : Hid _ := hlen
      clear hlen
      go_wp2_with (at_builtin; go_must (refine wpList_append_lies _ rfl (.tmp 27) (.tmp 30) 34 rfl w1.heap.size 72 i1 .nilIface 1 16 Tryz.underlying34 hi1 hi10 hi11 hi12 rfl (by decide) _ _ _ rfl hrow4 ⟨w2.heap.size + 1, 0, none⟩ 1 1 [.iface T p] (by simp [Act.eval]) rfl (World.news_of_block (by have := Blk.new (w2.alloc (.cells #[.iface T p, .int .i64 (Munch.weightV (patN ps))] 82)) #[.iface T p] 72; rwa [size_alloc] at this)) (by intro u hu; simp at hu; subst hu; rfl) (by decide) (by unfold maxLen; omega) (by omega) hbase _ rfl ?_))
      intro g2 cap2 w5 hown5 hgrow5 hat5 hlt5
      have kI5 := kI4.grown hgrow5 (fun e => by have := (hI2 _ e.symm).2; omega)
      have q1 : w5.cell? ⟨w2.heap.size, 1, none⟩ = some (.int .i64 (Munch.weightV (patN ps))) := kI5.cell 1
      have kL5 := kL4.grown hgrow5 (fun e => by have := (hI2 _ e.symm).1; omega)
      have l05 : w5.cell? ⟨w0.heap.size + 1, 0, none⟩ = some (.slice ta ts.length tc) := kL5.cell 0
      have l15 : w5.cell? ⟨w0.heap.size + 1, 1, none⟩ = some (.int .i64 (Munch.weightL acc)) := kL5.cell 1
      have f05 := kL5.frozen 0
      have f15 := kL5.frozen 1
      have hwb1 := H.can.bound (by omega)
      have hwb2 := hwp.bound (by omega)
      rw [← weightV_pat] at hwb2
      have hadd := wrap_sum _ _ hwb1 hwb2
      rw [← hv] at hown5
      have HS : Hid (RdInv s mb w0 w1 (some ⟨g2, 0, none⟩) cap2 (ts ++ [r]) (acc ++ [ps]) j d2 ((w5.setCell ⟨w0.heap.size + 1, 0, none⟩ (.slice (some ⟨g2, 0, none⟩) (ts.length + 1) cap2)).setCell ⟨w0.heap.size + 1, 1, none⟩ (.int .i64 ((Munch.weightL acc : Int) + (Munch.weightV (patN ps) : Int))))) := H.snoc hL1 hm24 (hr2.keep hb4) (hok.keep (keeps_below hb4)) hL hwp hij.1 hij.2 hown5 hgrow5 (by simpa using hat5)
      go_wp2_with fail
      obtain ⟨w6, hw6e⟩ : ∃ w6, w6 = ((w5.setCell ⟨w0.heap.size + 1, 0, none⟩ (.slice (some ⟨g2, 0, none⟩) (ts.length + 1) cap2)).setCell ⟨w0.heap.size + 1, 1, none⟩ (.int .i64 ((Munch.weightL acc : Int) + (Munch.weightV (patN ps) : Int)))) := ⟨_, rfl⟩
      rw [← hw6e] at HS ⊢
      clear hw6e hown5 hgrow5 hat5 hlt5 kI kI4 kI5 hrow4 H hm24 hb3 hb4 hL hr2 kL5 kL3 kL4 l05 l15 f05 f15 q1 hok l0
      have HI : Hid (RdInv s mb w0 w1 (some ⟨g2, 0, none⟩) cap2 (ts ++ [r]) (acc ++ [ps]) j d2 w6) := HS.out
      clear HS
      obtain ⟨hj1, hj2⟩ := hij
      by_cases hend : j = s.size
      · have hen := ended_any w0.heap.size s j mb ((0 : Nat) : Int) (deepD d2) w6 HI.out.rs
        have HG : Hid (Munch.listF s (Munch.fuel s) 0 none [] = .ok (acc ++ [ps], d2)) := by
          show _ = _
          rw [HF.out, Munch.hasAt_ge _ _ _ (by omega), if_neg (by simp), if_neg (by omega)]
        rw [show decide (j = s.size) = true from by simpa using hend] at hen
        clear HF
        go_wp2_with fail
        refine hen.mono ?_
        clear hen
        rintro e w7 ⟨rfl, n7, rfl⟩
        have hr7 := HI.out.rs.drewN n7
        have c3 := hr7.c3
        have kL7 := HI.out.lst.drewN n7
        have kB7 := (kB0'.below HI.out.below (by omega)).drewN n7
        have l0 : (w6.drewN n7).cell? ⟨w0.heap.size + 1, 0, none⟩ = some (.slice (some ⟨g2, 0, none⟩) (ts ++ [r]).length cap2) := kL7.cell 0
        have l1 : (w6.drewN n7).cell? ⟨w0.heap.size + 1, 1, none⟩ = some (.int .i64 (Munch.weightL (acc ++ [ps]))) := kL7.cell 1
        have l2 : (w6.drewN n7).cell? ⟨w0.heap.size + 1, 2, none⟩ = some (.int .i64 0) := kL7.cell 2
        have f2 := kL7.frozen 2
        have e0 : (w6.drewN n7).cell? ⟨w.heap.size, 0, none⟩ = some (.slice none 0 0) := kB7.cell 0
        have e1 : (w6.drewN n7).cell? ⟨w.heap.size, 1, none⟩ = some (.int .i64 0) := kB7.cell 1
        have e2 : (w6.drewN n7).cell? ⟨w.heap.size, 2, none⟩ = some (.int .i64 0) := kB7.cell 2
        have fz0 := kB7.frozen 0
        have fz1 := kB7.frozen 1
        have fz2 := kB7.frozen 2
        have hne : w0.heap.size + 1 ≠ w.heap.size := by omega
        have kF : Blk ((((((w6.drewN n7).setCell ⟨w0.heap.size + 1, 2, none⟩ (.int .i64 (deepD d2))).setCell ⟨w.heap.size, 0, none⟩ (.slice (some ⟨g2, 0, none⟩) (ts.length + 1) cap2)).setCell ⟨w.heap.size, 1, none⟩ (.int .i64 (Munch.weightL (acc ++ [ps])))).setCell ⟨w.heap.size, 2, none⟩ (.int .i64 (deepD d2)))) w.heap.size 47 #[.slice (some ⟨g2, 0, none⟩) (ts.length + 1) cap2, .int .i64 (Munch.weightL (acc ++ [ps])), .int .i64 (deepD d2)] := by
          have := (((Blk.setOther kB7 (a := ⟨w0.heap.size + 1, 2, none⟩) (fun e => hne e.symm) (.int .i64 (deepD d2))).set 0 (.slice (some ⟨g2, 0, none⟩) (ts.length + 1) cap2)).set 1 (.int .i64 (Munch.weightL (acc ++ [ps])))).set 2 (.int .i64 (deepD d2)); simpa using this
        have HOK : Hid (Below w.heap.size w ((((((w6.drewN n7).setCell ⟨w0.heap.size + 1, 2, none⟩ (.int .i64 (deepD d2))).setCell ⟨w.heap.size, 0, none⟩ (.slice (some ⟨g2, 0, none⟩) (ts.length + 1) cap2)).setCell ⟨w.heap.size, 1, none⟩ (.int .i64 (Munch.weightL (acc ++ [ps])))).setCell ⟨w.heap.size, 2, none⟩ (.int .i64 (deepD d2)))) ∧ ListOk ((((((w6.drewN n7).setCell ⟨w0.heap.size + 1, 2, none⟩ (.int .i64 (deepD d2))).setCell ⟨w.heap.size, 0, none⟩ (.slice (some ⟨g2, 0, none⟩) (ts.length + 1) cap2)).setCell ⟨w.heap.size, 1, none⟩ (.int .i64 (Munch.weightL (acc ++ [ps])))).setCell ⟨w.heap.size, 2, none⟩ (.int .i64 (deepD d2)))) w.heap.size (.slice (some ⟨g2, 0, none⟩) (ts.length + 1) cap2) (acc ++ [ps])) := by
          have hL7 := (HI.out.moves hL1 (Moves.of_below (below_drewN' _ n7)) (HI.out.rs.drewN n7) (Nat.le_refl _) hj2).listed
          have h1 := keeps_both (keeps_both (keeps_both (keeps_set (w6.drewN n7) ⟨w0.heap.size + 1, 2, none⟩ (.int .i64 (deepD d2))) (keeps_set _ ⟨w.heap.size, 0, none⟩ (.slice (some ⟨g2, 0, none⟩) (ts.length + 1) cap2))) (keeps_set _ ⟨w.heap.size, 1, none⟩ (.int .i64 (Munch.weightL (acc ++ [ps]))))) (keeps_set _ ⟨w.heap.size, 2, none⟩ (.int .i64 (deepD d2)))
          have h2 := hL7.kept (h1.mono (fun x _ hx => ⟨⟨⟨by simp at hx ⊢; omega, by simp at hx ⊢; omega⟩, by simp at hx ⊢; omega⟩, by simp at hx ⊢; omega⟩)) (base' := w.heap.size) (by omega)
          refine ⟨?_, by simpa using h2⟩
          exact ((((below_drewN (hbw0.trans (HI.out.below.mono (by omega))) n7).setCell (p := ⟨w0.heap.size + 1, 2, none⟩) (by simp; omega) _).setCell (p := ⟨w.heap.size, 0, none⟩) (by simp) _).setCell (p := ⟨w.heap.size, 1, none⟩) (by simp) _).setCell (p := ⟨w.heap.size, 2, none⟩) (by simp) _
        go_wp2_with fail
        have z0 := kF.cell 0
        have z1 := kF.cell 1
        have z2 := kF.cell 2
        simp at z0 z1 z2
        refine bodyPost_ret (v := .tuple #[.agg #[.slice (some ⟨g2, 0, none⟩) (ts.length + 1) cap2, .int .i64 (Munch.weightL (acc ++ [ps])), .int .i64 (deepD d2)], .int .i64 0, .bool true]) (by simp [results, Tryz.results15, go_sem, z0, z1, z2]) rfl ?_
        exact ⟨HOK.out.1, Or.inr ⟨acc ++ [ps], d2, some ⟨g2, 0, none⟩, ts.length + 1, cap2, HG.out, rfl, HOK.out.2⟩⟩
      · have hen := ended_any w0.heap.size s j mb ((0 : Nat) : Int) (deepD d2) w6 HI.out.rs
        rw [show decide (j = s.size) = false from by simpa using hend] at hen
        have hjl : j < s.size := by omega
        go_wp2_with fail
        refine hen.mono ?_
        clear hen
        rintro e w7 ⟨rfl, n7, rfl⟩
        have H7 : RdInv s mb w0 w1 (some ⟨g2, 0, none⟩) cap2 (ts ++ [r]) (acc ++ [ps]) j d2 (w6.drewN n7) := HI.out.moves hL1 (Moves.of_below (below_drewN' _ _)) (HI.out.rs.drewN n7) (Nat.le_refl _) hj2
        clear HI
        have l0 : (w6.drewN n7).cell? ⟨w0.heap.size + 1, 0, none⟩ = some (.slice (some ⟨g2, 0, none⟩) (ts ++ [r]).length cap2) := H7.lst.cell 0
        rw [show (ts ++ [r]).length = ts.length + 1 from by simp] at l0
        have hr7 := H7.rs
        have HH7 : Hid _ := H7
        clear H7
        generalize w6.drewN n7 = w7 at *
        by_cases h5 : ts.length = 4
        · have HG : Hid (Munch.listF s (Munch.fuel s) 0 none [] = .bad j) := by
            show _ = _
            rw [HF.out, if_neg (by have := HLEN.out; simp; omega), if_pos hjl]
          have h5' : (ts.length : Int) + 1 = 5 := by omega
          clear HF
          go_wp2_with fail
          have H8 := HH7.out
          have kB3 : Blk w7 w.heap.size 47 #[.slice none 0 0, .int .i64 0, .int .i64 0] := kB0'.below H8.below (by omega)
          have hr3 := H8.rs
          have hbe3 : Below w.heap.size w w7 := hbw0.trans (H8.below.mono (by omega))
          have c1 := hr3.c1
          have e0 : w7.cell? ⟨w.heap.size, 0, none⟩ = some (.slice none 0 0) := kB3.cell 0
          have e1 : w7.cell? ⟨w.heap.size, 1, none⟩ = some (.int .i64 0) := kB3.cell 1
          have e2 : w7.cell? ⟨w.heap.size, 2, none⟩ = some (.int .i64 0) := kB3.cell 2
          have fz0 := kB3.frozen 0
          have fz1 := kB3.frozen 1
          have fz2 := kB3.frozen 2
          have hne : w0.heap.size ≠ w.heap.size := by omega
          clear H8
          have kF : Blk (((w7.setCell ⟨w.heap.size, 0, none⟩ (.slice none 0 0)).setCell ⟨w.heap.size, 1, none⟩ (.int .i64 0)).setCell ⟨w.heap.size, 2, none⟩ (.int .i64 0)) w.heap.size 47 #[.slice none 0 0, .int .i64 0, .int .i64 0] := by
            have := ((kB3.set 0 (.slice none 0 0)).set 1 (.int .i64 0)).set 2 (.int .i64 0); simpa using this
          have hbF : Below w.heap.size w (((w7.setCell ⟨w.heap.size, 0, none⟩ (.slice none 0 0)).setCell ⟨w.heap.size, 1, none⟩ (.int .i64 0)).setCell ⟨w.heap.size, 2, none⟩ (.int .i64 0)) := ((hbe3.setCell (by simp) _).setCell (by simp) _).setCell (by simp) _
          clear kB3
          go_region
          go_wp2_with fail
          have z0 := kF.drew.cell 0
          have z1 := kF.drew.cell 1
          have z2 := kF.drew.cell 2
          simp at z0 z1 z2
          refine bodyPost_ret (v := .tuple #[.agg #[.slice none 0 0, .int .i64 0, .int .i64 0], .int .i64 j, .bool false]) (by simp [results, Tryz.results15, go_sem, z0, z1, z2]) rfl ?_
          exact ⟨hbF.drew, Or.inl ⟨j, HG.out, rfl⟩⟩
        · have h5' : ¬ (ts.length : Int) + 1 = 5 := by omega
          have ht := take_any w0.heap.size s j mb ((0 : Nat) : Int) (deepD d2) 10 w7 hr7 hj2 hs
          cases hh : Munch.hasAt s j 10 with
          | true =>
            rw [hh] at ht
            have HG : Hid (Munch.listF s K (j + 1) d2 (acc ++ [ps]) = Munch.listF s (Munch.fuel s) 0 none []) := by
              show _ = _
              rw [HF.out, hh, if_pos (by have := HLEN.out; simp; omega)]
            clear HF hh
            go_wp2_with fail
            refine ht.mono ?_
            clear ht
            rintro e w8 ⟨rfl, hr8, hm8⟩
            replace hr8 : Rs w8 w0.heap.size s (j + 1) ((0 : Nat) : Int) (deepD d2) mb := by simpa using hr8
            have HH8 : Hid _ := HH7.out.moves hL1 hm8 hr8 (by omega) (by omega)
            clear HH7 hr7 l0
            go_wp2_with fail
            go_roundg K
            case measure => omega
            case rel => exact ⟨by omega, some ⟨g2, 0, none⟩, cap2, ts ++ [r], acc ++ [ps], j + 1, d2, by have := HLEN.out; simp; omega, HH8.out, HG.out⟩
          | false =>
            rw [hh] at ht
            have HG : Hid (Munch.listF s (Munch.fuel s) 0 none [] = .bad j) := by
              show _ = _
              rw [HF.out, hh, if_neg (by simp), if_pos hjl]
            clear HF hh
            go_wp2_with fail
            refine ht.mono ?_
            clear ht
            rintro e w8 ⟨rfl, hr8, hm8⟩
            replace hr8 : Rs w8 w0.heap.size s j ((0 : Nat) : Int) (deepD d2) mb := by simpa using hr8
            have H8 := HH7.out.moves hL1 hm8 hr8 (by omega) (by omega)
            clear HH7 hr7 l0
            go_wp2_with fail
            have kB3 : Blk w8 w.heap.size 47 #[.slice none 0 0, .int .i64 0, .int .i64 0] := kB0'.below H8.below (by omega)
            have hr3 := H8.rs
            have hbe3 : Below w.heap.size w w8 := hbw0.trans (H8.below.mono (by omega))
            have c1 := hr3.c1
            have e0 : w8.cell? ⟨w.heap.size, 0, none⟩ = some (.slice none 0 0) := kB3.cell 0
            have e1 : w8.cell? ⟨w.heap.size, 1, none⟩ = some (.int .i64 0) := kB3.cell 1
            have e2 : w8.cell? ⟨w.heap.size, 2, none⟩ = some (.int .i64 0) := kB3.cell 2
            have fz0 := kB3.frozen 0
            have fz1 := kB3.frozen 1
            have fz2 := kB3.frozen 2
            have hne : w0.heap.size ≠ w.heap.size := by omega
            clear H8
            have kF : Blk (((w8.setCell ⟨w.heap.size, 0, none⟩ (.slice none 0 0)).setCell ⟨w.heap.size, 1, none⟩ (.int .i64 0)).setCell ⟨w.heap.size, 2, none⟩ (.int .i64 0)) w.heap.size 47 #[.slice none 0 0, .int .i64 0, .int .i64 0] := by
              have := ((kB3.set 0 (.slice none 0 0)).set 1 (.int .i64 0)).set 2 (.int .i64 0); simpa using this
            have hbF : Below w.heap.size w (((w8.setCell ⟨w.heap.size, 0, none⟩ (.slice none 0 0)).setCell ⟨w.heap.size, 1, none⟩ (.int .i64 0)).setCell ⟨w.heap.size, 2, none⟩ (.int .i64 0)) := ((hbe3.setCell (by simp) _).setCell (by simp) _).setCell (by simp) _
            clear kB3
            go_region
            go_wp2_with fail
            have z0 := kF.drew.cell 0
            have z1 := kF.drew.cell 1
            have z2 := kF.drew.cell 2
            simp at z0 z1 z2
            refine bodyPost_ret (v := .tuple #[.agg #[.slice none 0 0, .int .i64 0, .int .i64 0], .int .i64 j, .bool false]) (by simp [results, Tryz.results15, go_sem, z0, z1, z2]) rfl ?_
            exact ⟨hbF.drew, Or.inl ⟨j, HG.out, rfl⟩⟩
end Go.Proofs.YtkoaeojdlanolaaGreatDoor
