import Derived.Test.YtkoaeojdlanolaaGreatDoorCd05
import Derived.Test.YtkoaeojdlanolaaGreatDoorCc12
/-
  THE DEVELOPERS' READER: parted.
-/
namespace Go.Proofs.YtkoaeojdlanolaaGreatDoor
open Go.RowKit
open Munch (Words Wempty Wbytes Wcat Wany Wall Wnot KeyF Times numText)

abbrev OneR := Nat → Nat → Option Nat → Munch.Res (Munch.Node × Nat × Option Nat)
/-- One thing or more, with a sign between them. -/
def partF (s : ByteArray) (sign : Nat) (one : OneR) : Nat → Nat → Option Nat → List Munch.Node → Munch.Res (List Munch.Node × Nat × Option Nat)
  | 0, _, _, _ => .out
  | k + 1, i, d, acc => (one k i d).bind fun x => if Munch.hasAt s x.2.1 sign then partF s sign one k (x.2.1 + 1) x.2.2 (acc ++ [x.1]) else .ok (acc ++ [x.1], x.2)

/-- What a function that reads one thing answers. -/
structure OneSaid (f : FuncId) (s : ByteArray) (one : OneR) (opn c N : Nat) : Prop where
  ent : Enters f
  bound : ∀ k i d nd j d2, k < N → i ≤ s.size → one k i d = .ok (nd, j, d2) → i ≤ j ∧ j ≤ s.size ∧ Munch.Can (Munch.weightV nd) (j - i)
  call : ∀ (k i : Nat) (d : Option Nat) (R mb : Nat) (w : World), k < N → Rs w R s i opn (deepD d) mb → Signs w mb → i ≤ s.size → opn ≤ i → LaidT w → one k i d ≠ .out →
    Calls Tryz.prog f #[.pointer (some ⟨R, 0, none⟩)] w fun e w' => Parsed R s mb opn (one k i d) (fun x => (x.1, x.2.1, deepD x.2.2)) (fun j => 2 * (j - i) + c) w e w'
/-- What a function that joins trees answers. -/
structure JoinSaid (f : FuncId) (J : List Words → Words) : Prop where
  ent : Enters f
  call : ∀ (sv : Value) (ts : List Tr) (w : World) (ok : Nat → Prop), TreesOk w ok sv ts → (ts.map (·.n)).sum ≤ 1000000 → Laid w →
    Calls Tryz.prog f #[sv] w fun e w' => Gives w (okN ok w.heap.size) (J (ts.map (·.L))) (max 1 (ts.map (·.n)).sum) e w'

structure PtInv (R : Nat) (s : ByteArray) (mb opn i0 : Nat) (w w1 : World) (ta : Option Addr) (tc : Nat) (ts : List Tr) (acc : List Munch.Node) (i : Nat) (d : Option Nat) (wr : World) : Prop where
  row : wr.ownsRow w1.heap.size 72 1 (.slice ta ts.length tc) ts.length (ts.map (·.v))
  trees : ∀ t ∈ ts, TreeOk wr (Apart (fun _ => False) w1.heap.size (.slice ta ts.length tc)) t
  langs : ts.map (·.L) = acc.map Munch.Lang
  sum : (ts.map (·.n)).sum ≤ 2 * (i - i0)
  can : Munch.Can (Munch.weightsV acc) (i - i0)
  rs : Rs wr R s i opn (deepD d) mb
  res : Blk wr w.heap.size 82 #[.nilIface, .int .i64 0]
  moves : Moves R w wr
  grow : w1.heap.size ≤ wr.heap.size
  le : i ≤ s.size
  ge : i0 ≤ i

theorem PtInv.len {R : Nat} {s : ByteArray} {mb opn i0 : Nat} {w w1 : World} {ta : Option Addr} {tc : Nat} {ts : List Tr} {acc : List Munch.Node} {i : Nat} {d : Option Nat} {wr : World} (h : PtInv R s mb opn i0 w w1 ta tc ts acc i d wr) : ts.length ≤ 2 * (i - i0) := by
  have h1 := sum_len ts (fun x hx => (h.trees x hx).pos)
  have h2 := h.sum
  omega

/-- One more, behind an append. -/
theorem PtInv.snoc {R : Nat} {s : ByteArray} {mb opn i0 : Nat} {w w1 : World} {ta : Option Addr} {tc : Nat} {ts : List Tr} {acc : List Munch.Node} {i : Nat} {d : Option Nat} {wr : World} (h : PtInv R s mb opn i0 w w1 ta tc ts acc i d wr) {w4 w5 : World} {j c : Nat} {d2 : Option Nat} {r : Tr} {nd : Munch.Node} {g cap : Nat} (hm : Moves R wr w4) (hr4 : Rs w4 R s j opn (deepD d2) mb) (hR1 : R < w1.heap.size) (hB1 : w.heap.size < w1.heap.size) (hBR : w.heap.size ≠ R)
    (hrok : TreeOk w4 (fun x => wr.heap.size ≤ x) r) (hL : r.L = Munch.Lang nd) (hn : r.n ≤ 2 * (j - i) + c) (hc : c ≤ 2) (hcan : Munch.Can (Munch.weightV nd) (j - i)) (hij : i ≤ j) (_hjs : j ≤ s.size)
    (hown : w5.ownsRow w1.heap.size 72 1 (.slice (some ⟨g, 0, none⟩) (ts.length + 1) cap) (ts.length + 1) (ts.map (·.v) ++ [r.v])) (hg : w4.grownBy w5 (Value.slice ta ts.length tc).ownBlock) (hat : (Value.slice ta ts.length tc).ownBlock = some g ∨ g = w4.heap.size) :
    Rs w5 R s j opn (deepD d2) mb ∧ Moves R w w5 ∧ ((ts ++ [r]).map (·.n)).sum ≤ 2 * (i - i0) + (2 * (j - i) + c) ∧ Munch.Can (Munch.weightsV (acc ++ [nd])) (j - i0) ∧
      (∀ (j' : Nat) (w6 : World), Moves R w5 w6 → Rs w6 R s j' opn (deepD d2) mb → 2 * j + c ≤ 2 * j' → j' ≤ s.size → PtInv R s mb opn i0 w w1 (some ⟨g, 0, none⟩) cap (ts ++ [r]) (acc ++ [nd]) j' d2 w6) ∧
      ∀ w6 : World, Moves R w5 w6 → TreesOk w6 (fun x => w1.heap.size ≤ x) (.slice (some ⟨g, 0, none⟩) (ts ++ [r]).length cap) (ts ++ [r]) ∧ (ts ++ [r]).map (·.L) = (acc ++ [nd]).map Munch.Lang ∧ Blk w6 w.heap.size 82 #[.nilIface, .int .i64 0] := by
  have hge := h.ge
  have hgr := h.grow
  have hat' : (Value.slice (some ⟨g, 0, none⟩) (ts ++ [r]).length cap).ownBlock = (Value.slice ta ts.length tc).ownBlock ∨ (Value.slice (some ⟨g, 0, none⟩) (ts ++ [r]).length cap).ownBlock = some w4.heap.size := by
    rcases hat with e | e
    · left; rw [e]; rfl
    · right; rw [e]; rfl
  have hr5 : Rs w5 R s j opn (deepD d2) mb := Blk.grown hr4 hg (fun e => by have := (h.row.lt R e.symm).1; omega)
  have hm5 : Moves R w w5 := (h.moves.trans hm).grown hg (fun k hk => by have := (h.row.lt k hk).1; omega)
  have hsum : ((ts ++ [r]).map (·.n)).sum ≤ 2 * (i - i0) + (2 * (j - i) + c) := by
    have := h.sum
    simp only [List.map_append, List.sum_append, List.map_cons, List.map_nil, List.sum_cons, List.sum_nil]
    omega
  have hcan' : Munch.Can (Munch.weightsV (acc ++ [nd])) (j - i0) := by
    rw [Munch.weightsV_append, Munch.weightsV_one]
    have := h.can.add hcan
    exact this.le (by omega)
  have htrees : ∀ t ∈ ts ++ [r], TreeOk w5 (Apart (fun _ => False) w1.heap.size (.slice (some ⟨g, 0, none⟩) (ts ++ [r]).length cap)) t := by
    intro t ht
    rcases List.mem_append.1 ht with ht | ht
    · refine trees_snoc ((h.trees t ht).keep (hm.keeps.mono (fun x _ hx => ?_))) hg hat'
      rcases hx.1 with hx | hx
      · exact hx.elim
      · omega
    · simp at ht; subst ht
      refine trees_snoc (hrok.mono (fun x _ hx => ⟨Or.inr (by omega), fun e => ?_⟩)) hg hat'
      have := (h.row.lt x e).2
      omega
  have hrow5 : w5.ownsRow w1.heap.size 72 1 (.slice (some ⟨g, 0, none⟩) (ts ++ [r]).length cap) (ts ++ [r]).length ((ts ++ [r]).map (·.v)) := by simpa using hown
  have hlg : (ts ++ [r]).map (·.L) = (acc ++ [nd]).map Munch.Lang := by simp [h.langs, hL]
  have hres5 : ∀ w6, Moves R w5 w6 → Blk w6 w.heap.size 82 #[.nilIface, .int .i64 0] := by
    intro w6 hm6
    refine ((h.res.grown hm (by simpa using hBR)).grown hg (fun e => ?_)).grown hm6 (by simpa using hBR)
    have := (h.row.lt _ e.symm).1
    omega
  have hk6 : ∀ w6, Moves R w5 w6 → ∀ t ∈ ts ++ [r], TreeOk w6 (Apart (fun _ => False) w1.heap.size (.slice (some ⟨g, 0, none⟩) (ts ++ [r]).length cap)) t := by
    intro w6 hm6 t ht
    refine (htrees t ht).keep (hm6.keeps.mono (fun x _ hx => ?_))
    rcases hx.1 with hx | hx
    · exact hx.elim
    · omega
  refine ⟨hr5, hm5, hsum, hcan', fun j' w6 hm6 hr6 hj hj's => ?_, fun w6 hm6 => ⟨⟨⟨w1.heap.size, ownsRow_keeps hrow5 hm6.keeps (fun k hk => by have := (hrow5.lt k hk).1; omega), fun k hk => (hrow5.lt k hk).1⟩, fun t ht => (hk6 w6 hm6 t ht).mono (fun x _ hx => by rcases hx.1 with hx | hx; exact hx.elim; exact hx)⟩, hlg, hres5 w6 hm6⟩⟩
  refine ⟨ownsRow_keeps hrow5 hm6.keeps (fun k hk => by have := (hrow5.lt k hk).1; omega), hk6 w6 hm6, hlg, by omega, hcan'.le (by omega), hr6, hres5 w6 hm6, hm5.trans hm6, ?_, hj's, by omega⟩
  · have h1 := hm.size
    have h2 := hg.size
    have h3 := hm6.size
    omega

set_option maxHeartbeats 8000000 in
set_option maxRecDepth 100000 in
theorem parted_any (f1 f2 : FuncId) (s : ByteArray) (sign : Nat) (one : OneR) (J : List Words → Words) (opn c N : Nat) (hone : OneSaid f1 s one opn c N) (hjoin : JoinSaid f2 J) (hc1 : 1 ≤ c) (hc : c ≤ 2) (R i0 mb : Nat) (d0 : Option Nat) (w : World) (hr : Rs w R s i0 opn (deepD d0) mb) (hg : Signs w mb) (hi : i0 ≤ s.size) (hs : s.size ≤ 80) (ho : opn ≤ i0) (hl : LaidT w) (hout : partF s sign one N i0 d0 [] ≠ .out) :
    Calls Tryz.prog 57 #[.pointer (some ⟨R, 0, none⟩), .int .u8 sign, .func (.func f1) #[] #[], .func (.func f2) #[] #[]] w fun e w' => Moves R w w' ∧
      ((∃ p nest' deep', partF s sign one N i0 d0 [] = .bad p ∧ e = .returned (.tuple #[.agg #[.nilIface, .int .i64 0], .bool false]) ∧ Rs w' R s p nest' deep' mb) ∨
       (∃ (l : List Munch.Node) (j : Nat) (d : Option Nat) (r : Tr) (T : TypeId) (p : Value), partF s sign one N i0 d0 [] = .ok (l, j, d) ∧ i0 ≤ j ∧ j ≤ s.size ∧ e = .returned (.tuple #[.agg #[.iface T p, .int .i64 (Munch.weightsV l)], .bool true]) ∧ Rs w' R s j opn (deepD d) mb ∧ r.v = .iface T p ∧ TreeOk w' (w.heap.size ≤ ·) r ∧ r.L = J (l.map Munch.Lang) ∧ r.n ≤ 2 * (j - i0) + c)) := by
  obtain ⟨i1, hi1, hi10, hi11, hi12⟩ := info_parts infoTree
  have hRl := hr.lt
  obtain ⟨w1, hw1e⟩ : ∃ w1, w1 = w.alloc (.cells #[.nilIface, .int .i64 0] 82) := ⟨_, rfl⟩
  have hb0 : Below w.heap.size w w1 := by rw [hw1e]; exact below_box w _
  have kB : Blk w1 w.heap.size 82 #[.nilIface, .int .i64 0] := by rw [hw1e]; exact Blk.new _ _ _
  have hBR : w.heap.size ≠ R := by omega
  have hB1 := kB.lt
  have hR1 : R < w1.heap.size := by omega
  have H0 : PtInv R s mb opn i0 w w1 none 0 [] [] i0 d0 w1 := ⟨World.ownsRow_nil _ _ _ _, (fun t h => by cases h), rfl, by simp, Munch.Can.zero _, hr.keep hb0, kB, Moves.of_below hb0, Nat.le_refl _, hi, Nat.le_refl _⟩
  have HNO : Hid _ := hout
  have HONE : Hid _ := hone
  have HJ : Hid _ := hjoin
  have hent1 := hone.ent
  have hent2 := hjoin.ent
  clear hout hone hjoin kB hb0
  go_enter Tryz.func57, Tryz.ntmps57
  go_wp2_with fail
  rw [← hw1e]
  clear hw1e
  go_loopg [10, 11] N (fun k tv wt wr => k ≤ N ∧ ∃ (ta : Option Addr) (tc : Nat) (ts : List Tr) (acc : List Munch.Node) (i : Nat) (d : Option Nat), tv = .slice ta ts.length tc ∧ wt = .int .i64 (Munch.weightsV acc) ∧ PtInv R s mb opn i0 w w1 ta tc ts acc i d wr ∧ Hid (partF s sign one k i d acc = partF s sign one N i0 d0 []))
  case atStart => exact ⟨Nat.le_refl _, none, 0, [], [], i0, d0, rfl, rfl, H0, rfl⟩
  case round =>
    obtain ⟨hgN, ta, tc, ts, acc, i, d, rfl, rfl, H, HV⟩ := hrel
    clear H0
    obtain ⟨K, rfl⟩ : ∃ K, gk = K + 1 := by
      cases gk with
      | zero => exact absurd (by rw [← HV.out]; rfl) HNO.out
      | succ K => exact ⟨K, rfl⟩
    have HE : Hid (partF s sign one N i0 d0 [] = (one K i d).bind fun x => if Munch.hasAt s x.2.1 sign then partF s sign one K (x.2.1 + 1) x.2.2 (acc ++ [x.1]) else .ok (acc ++ [x.1], x.2)) := by
      show partF s sign one N i0 d0 [] = _
      rw [← HV.out]; rfl
    have hno : one K i d ≠ .out := fun h => HNO.out (by rw [HE.out, h]; rfl)
    have hge := H.ge
    have hle := H.le
    have hca := HONE.out.call K i d R mb wr (by omega) H.rs (signs_moves hg hr H.moves) hle (by omega) (laidT_moves hl hr H.moves) hno
    clear HV hno
    go_wp2_with fail
    rw [hent1, Oper.upon_enter]
    refine hca.mono ?_
    clear hca
    rintro e w2 ⟨hm2, ⟨pl, n', d', hres, rfl, hr2⟩ | ⟨⟨nd, j, d2⟩, v, hres, rfl, hr2, r, T, p, rfl, hv, hok, hL, hn⟩⟩
    · have HF : Hid (partF s sign one N i0 d0 [] = .bad pl) := by
        show partF s sign one N i0 d0 [] = _
        rw [HE.out, hres]; rfl
      have hb3 := below_box w2 (.cells #[.nilIface, .int .i64 0] 82)
      have kB3 := (H.res.grown hm2 (by simpa using hBR)).alloc (.cells #[.nilIface, .int .i64 0] 82)
      obtain ⟨hmF, hrF, kF⟩ := put_none ((H.moves.trans hm2).trans (Moves.of_below hb3)) (Nat.le_refl _) hBR (hr2.keep hb3) kB3
      have e0 := kB3.cell 0
      have e1 := kB3.cell 1
      have g0 := kB3.frozen 0
      have g1 := kB3.frozen 1
      simp at e0 e1
      clear kB3 hres H
      go_wp2_with fail
      have z0 := kF.cell 0
      have z1 := kF.cell 1
      simp at z0 z1
      refine bodyPost_ret (v := .tuple #[.agg #[.nilIface, .int .i64 0], .bool false]) (by simp [results, Tryz.results57, go_sem, z0, z1]) rfl ?_
      exact ⟨hmF, Or.inl ⟨pl, n', d', HF.out, rfl, hrF⟩⟩
    · obtain ⟨hij, hjs, hcan⟩ := HONE.out.bound K i d nd j d2 (by omega) hle hres
      simp only at hr2 hn hL
      have HF : Hid (partF s sign one N i0 d0 [] = if Munch.hasAt s j sign then partF s sign one K (j + 1) d2 (acc ++ [nd]) else .ok (acc ++ [nd], j, d2)) := by
        show partF s sign one N i0 d0 [] = _
        rw [HE.out, hres]; rfl
      clear hres HE
      have hb3 := below_box w2 (.cells #[.iface T p, .int .i64 (Munch.weightV nd)] 82)
      have kI : Blk (w2.alloc (.cells #[.iface T p, .int .i64 (Munch.weightV nd)] 82)) w2.heap.size 82 #[.iface T p, .int .i64 (Munch.weightV nd)] := Blk.new _ _ _
      have hb4 := hb3.alloc (by simp) (.cells #[.iface T p] 72)
      have kI4 := kI.alloc (.cells #[.iface T p] 72)
      have hm24 : Moves R wr ((w2.alloc (.cells #[.iface T p, .int .i64 (Munch.weightV nd)] 82)).alloc (.cells #[.iface T p] 72)) := hm2.trans (Moves.of_below hb4)
      have hgr := H.grow
      have hrow4 := ownsRow_keeps H.row hm24.keeps (fun k hk => by have := (H.row.lt k hk).1; omega)
      have hbase : w1.heap.size ≤ ((w2.alloc (.cells #[.iface T p, .int .i64 (Munch.weightV nd)] 82)).alloc (.cells #[.iface T p] 72)).heap.size := Nat.le_trans hgr hm24.size
      have hlen := H.len
      have hr4 := hr2.keep hb4
      have hok4 : TreeOk ((w2.alloc (.cells #[.iface T p, .int .i64 (Munch.weightV nd)] 82)).alloc (.cells #[.iface T p] 72)) (fun x => wr.heap.size ≤ x) r := hok.keep (keeps_below hb4)
      have HO4 : Hid (TreeOk ((w2.alloc (.cells #[.iface T p, .int .i64 (Munch.weightV nd)] 82)).alloc (.cells #[.iface T p] 72)) (fun x => wr.heap.size ≤ x) r) := hok4
      have hwb1 := H.can.bound (by omega)
      have hwb2 := hcan.bound (by omega)
      have hadd : IntKind.i64.wrap ((Munch.weightsV acc : Int) + (Munch.weightV nd : Int)) = (Munch.weightsV acc : Int) + (Munch.weightV nd : Int) := by rw [IntKind.wrap_i64]; omega
      have hI2 : ∀ x, (Value.slice ta ts.length tc).ownBlock = some x → x < wr.heap.size := fun x hx => (H.row.lt x hx).2
      have hwr2 := hm2.size
      clear hok hok4
      go_wp2_with (at_builtin; go_must (refine wpList_append_lies _ rfl (.tmp 23) (.tmp 26) 34 rfl w1.heap.size 72 i1 .nilIface 1 16 Tryz.underlying34 hi1 hi10 hi11 hi12 rfl (by decide) _ _ _ rfl hrow4 ⟨w2.heap.size + 1, 0, none⟩ 1 1 [.iface T p] (by simp [Act.eval]) rfl (World.news_of_block (by have := Blk.new (w2.alloc (.cells #[.iface T p, .int .i64 (Munch.weightV nd)] 82)) #[.iface T p] 72; rwa [size_alloc] at this)) (by intro u hu; simp at hu; subst hu; rfl) (by decide) (by unfold maxLen; omega) (by omega) hbase _ rfl ?_))
      intro g2 cap2 w5 hown5 hgrow5 hat5 hlt5
      have kI5 := kI4.grown hgrow5 (fun e => by have := hI2 _ e.symm; omega)
      have q1 : w5.cell? ⟨w2.heap.size, 1, none⟩ = some (.int .i64 (Munch.weightV nd)) := kI5.cell 1
      rw [← hv] at hown5
      obtain ⟨hr5, hm5, hsum5, hcan5, hnext, hend⟩ := H.snoc hm24 hr4 hR1 hB1 hBR HO4.out hL hn hc hcan hij hjs hown5 hgrow5 (by simpa using hat5)
      have HN : Hid _ := hnext
      have HND : Hid _ := hend
      have hwa : (Munch.weightsV acc : Int) + (Munch.weightV nd : Int) = (Munch.weightsV (acc ++ [nd]) : Int) := by rw [Munch.weightsV_append, Munch.weightsV_one]; omega
      have HWA : Hid _ := hwa
      have hg5 := hgrow5.size
      have ht := take_any R s j mb opn (deepD d2) sign w5 hr5 hjs hs
      clear hnext hend hwa hown5 hgrow5 hat5 hlt5 kI kI4 kI5 hrow4 H hm24 hr4 HO4 hb3 hb4 hL hr2
      cases hh : Munch.hasAt s j sign with
      | true =>
        rw [hh] at ht
        have hjl := Munch.hasAt_true _ _ _ hh
        have HG : Hid (partF s sign one K (j + 1) d2 (acc ++ [nd]) = partF s sign one N i0 d0 []) := by
          show _ = _
          rw [HF.out, hh]; rfl
        clear HF hh
        go_wp2_with fail
        refine ht.mono ?_
        clear ht
        rintro e w6 ⟨rfl, hr6, hm6⟩
        replace hr6 : Rs w6 R s (j + 1) opn (deepD d2) mb := by simpa using hr6
        have H6 := HN.out (j + 1) w6 hm6 hr6 (by omega) (by omega)
        go_wp2_with fail
        go_roundg K
        case measure => omega
        case rel => exact ⟨by omega, some ⟨g2, 0, none⟩, cap2, ts ++ [r], acc ++ [nd], j + 1, d2, by simp, by rw [HWA.out], H6, HG.out⟩
      | false =>
        rw [hh] at ht
        have HG : Hid (partF s sign one N i0 d0 [] = .ok (acc ++ [nd], j, d2)) := by
          show _ = _
          rw [HF.out, hh]; rfl
        clear HF hh
        go_wp2_with fail
        refine ht.mono ?_
        clear ht
        rintro e w6 ⟨rfl, hr6, hm6⟩
        replace hr6 : Rs w6 R s j opn (deepD d2) mb := by simpa using hr6
        obtain ⟨hT6, hlg6, kB6⟩ := HND.out w6 hm6
        have hm06 := hm5.trans hm6
        have hj6 := HJ.out.call _ (ts ++ [r]) w6 _ hT6 (by omega) (laidT_moves hl hr hm06).laid
        rw [show (ts ++ [r]).length = ts.length + 1 from by simp] at hj6
        have hsz6 := hm6.size
        have HLG : Hid _ := hlg6
        clear hT6 hlg6
        go_wp2_with fail
        rw [hent2, Oper.upon_enter]
        refine hj6.mono ?_
        clear hj6
        rintro e w7 ⟨q, rfl, hqok, hqL, hqn, hb7⟩
        obtain ⟨T7, p7, hqv⟩ := hqok.shape
        rw [hqv]
        have kB7 := kB6.below hb7 kB6.lt
        have hB6 := kB6.lt
        have ho7 : TreeOk w7 (fun x => w.heap.size ≤ x ∧ x ≠ w.heap.size) q := hqok.mono (fun x _ hx => by
          rcases hx with hx | hx
          · constructor <;> omega
          · constructor <;> omega)
        obtain ⟨hmF, hrF, kF, HP⟩ := put_piece (nd := ⟨J ((acc ++ [nd]).map Munch.Lang), Munch.weightsV (acc ++ [nd]), True⟩) (m := 2 * (j - i0) + c) (base := w.heap.size) (hm06.trans (Moves.of_below hb7)) (Nat.le_refl _) hBR (hr6.keep hb7) kB7 hqv ho7 (by rw [hqL, HLG.out]; rfl) (by omega) ((Munch.weightsV acc : Int) + (Munch.weightV nd : Int)) HWA.out
        have HPH : Hid _ := HP
        have e0 : w7.cell? ⟨w.heap.size, 0, none⟩ = some .nilIface := kB7.cell 0
        have e1 : w7.cell? ⟨w.heap.size, 1, none⟩ = some (.int .i64 0) := kB7.cell 1
        have g0 := kB7.frozen 0
        have g1 := kB7.frozen 1
        clear HP kB7 ho7 hqok kB6
        go_wp2_with fail
        have z0 := kF.cell 0
        have z1 := kF.cell 1
        simp at z0 z1
        refine bodyPost_ret (v := .tuple #[.agg #[.iface T7 p7, .int .i64 ((Munch.weightsV acc : Int) + (Munch.weightV nd : Int))], .bool true]) (by simp [results, Tryz.results57, go_sem, z0, z1]) rfl ?_
        obtain ⟨r9, T9, p9, heq, hv9, hok9, hL9, hn9⟩ := HPH.out
        have heq2 : (Value.iface T7 p7) = .iface T9 p9 := by
          have := heq
          simp at this
          simp [this.1]
        refine ⟨hmF, Or.inr ⟨acc ++ [nd], j, d2, r9, T7, p7, HG.out, by omega, hjs, by rw [HWA.out], hrF, by rw [hv9, heq2], hok9, hL9, hn9⟩⟩
end Go.Proofs.YtkoaeojdlanolaaGreatDoor
/-
  THE DEVELOPERS' READER: form.
-/
namespace Go.Proofs.YtkoaeojdlanolaaGreatDoor
open Go.RowKit
open Munch (Words Wempty Wbytes Wcat Wany Wall Wnot KeyF Times numText)

theorem join_one : JoinSaid 84 Wany := ⟨enters_of Tryz.func84 (by kernel_rfl) (by kernel_rfl), fun sv ts w ok hT hn hl => oneOf_any sv ts w ok hT hn hl⟩
theorem join_all : JoinSaid 59 Wall := ⟨enters_of Tryz.func59 (by kernel_rfl) (by kernel_rfl), fun sv ts w ok hT hn hl => allOfT_any sv ts w ok hT hn hl⟩

def rowR (s : ByteArray) (opn : Nat) : OneR := fun k i d => Munch.rowF s k i opn d []
theorem form_part (s : ByteArray) (opn : Nat) : ∀ (k i : Nat) (d : Option Nat) (acc : List Munch.Node), Munch.formF s k i opn d acc = (partF s 124 (rowR s opn) k i d acc).bind fun x => .ok (.form x.1, x.2) := by
  intro k
  induction k with
  | zero => intro i d acc; rfl
  | succ k ih =>
    intro i d acc
    rw [Munch.formF_s]
    show _ = ((rowR s opn k i d).bind _).bind _
    unfold rowR
    rcases Munch.Res.split (Munch.rowF s k i opn d []) with h | ⟨p, h⟩ | ⟨x, h⟩ <;> rw [h]
    · rfl
    · rfl
    · simp only [Munch.Res.bind_ok]
      split
      · exact ih _ _ _
      · rfl
theorem lang_any : ∀ (l : List Munch.Node), Munch.Lang (.form l) = Wany (l.map Munch.Lang) := by
  intro l
  funext u; apply propext
  rw [Munch.lang_form]
  induction l with
  | nil =>
    constructor
    · intro h; exact h.elim
    · rintro ⟨A, hA, _⟩; cases hA
  | cons n r ih =>
    constructor
    · rintro (h | h)
      · exact ⟨_, by simp, h⟩
      · obtain ⟨A, hA, hu⟩ := ih.1 h
        exact ⟨A, by simp at hA ⊢; exact Or.inr hA, hu⟩
    · rintro ⟨A, hA, hu⟩
      simp only [List.map_cons, List.mem_cons] at hA
      rcases hA with rfl | hA
      · exact Or.inl hu
      · exact Or.inr (ih.2 ⟨A, hA, hu⟩)

set_option maxHeartbeats 2000000 in
set_option maxRecDepth 100000 in
theorem form_any_d (N : Nat) (hrow : ∀ (s : ByteArray) (opn : Nat), s.size ≤ 80 → OneSaid 99 s (rowR s opn) opn 1 N) : DForm N := by
  intro R s i mb opn deep w hr hg hi hs ho hl hout
  have hRl := hr.lt
  obtain ⟨w1, hw1e⟩ : ∃ w1, w1 = w.alloc (.cells #[.nilIface, .int .i64 0] 82) := ⟨_, rfl⟩
  have hb0 : Below w.heap.size w w1 := by rw [hw1e]; exact below_box w _
  have kB : Blk w1 w.heap.size 82 #[.nilIface, .int .i64 0] := by rw [hw1e]; exact Blk.new _ _ _
  have hBR : w.heap.size ≠ R := by omega
  have hB1 := kB.lt
  have hm1 : Moves R w w1 := Moves.of_below hb0
  have HP : Hid (Munch.formF s N i opn deep [] = (partF s 124 (rowR s opn) N i deep []).bind fun x => .ok (.form x.1, x.2)) := form_part s opn N i deep []
  have hno : partF s 124 (rowR s opn) N i deep [] ≠ .out := fun h => hout (by rw [HP.out, h]; rfl)
  have hpa := parted_any 99 84 s 124 (rowR s opn) Wany opn 1 N (hrow s opn hs) join_one (by omega) (by omega) R i mb deep w1 (hr.keep hb0) (signs_moves hg hr hm1) hi hs ho (laidT_moves hl hr hm1) hno
  clear hout hno
  go_enter Tryz.func78, Tryz.ntmps78
  go_wp2_with fail
  rw [← hw1e]
  clear hw1e
  refine hpa.mono ?_
  clear hpa
  rintro e w5 ⟨hm5, ⟨pl, n', d', hres, rfl, hr5⟩ | ⟨l, j, d, r, T, p, hres, hij, hjs, rfl, hr5, hv, hok, hL, hn⟩⟩
  · have HF : Hid (Munch.formF s N i opn deep [] = .bad pl) := by
      show _ = _
      rw [HP.out, hres]; rfl
    have kB5 := kB.grown hm5 (by simpa using hBR)
    obtain ⟨hmF, hrF, kF⟩ := put_none (hm1.trans hm5) (Nat.le_refl _) hBR hr5 kB5
    have e0 : w5.cell? ⟨w.heap.size, 0, none⟩ = some .nilIface := kB5.cell 0
    have e1 : w5.cell? ⟨w.heap.size, 1, none⟩ = some (.int .i64 0) := kB5.cell 1
    have g0 := kB5.frozen 0
    have g1 := kB5.frozen 1
    clear kB5 hres
    go_wp2_with fail
    have z0 := kF.cell 0
    have z1 := kF.cell 1
    simp at z0 z1
    refine bodyPost_ret (v := .tuple #[.agg #[.nilIface, .int .i64 0], .bool false]) (by simp [results, Tryz.results78, go_sem, z0, z1]) rfl ?_
    exact ⟨hmF, Or.inl ⟨pl, n', d', HF.out, rfl, hrF⟩⟩
  · have HF : Hid (Munch.formF s N i opn deep [] = .ok (.form l, j, d)) := by
      show _ = _
      rw [HP.out, hres]; rfl
    have kB5 := kB.grown hm5 (by simpa using hBR)
    have ho5 : TreeOk w5 (fun x => w.heap.size ≤ x ∧ x ≠ w.heap.size) r := hok.mono (fun x _ hx => by constructor <;> omega)
    obtain ⟨hmF, hrF, kF, HQ⟩ := put_piece (nd := .form l) (m := 2 * (j - i) + 1) (base := w.heap.size) (hm1.trans hm5) (Nat.le_refl _) hBR hr5 kB5 hv ho5 (by rw [hL]; exact (lang_any l).symm) hn (Munch.weightsV l : Int) rfl
    have HQH : Hid _ := HQ
    have e0 : w5.cell? ⟨w.heap.size, 0, none⟩ = some .nilIface := kB5.cell 0
    have e1 : w5.cell? ⟨w.heap.size, 1, none⟩ = some (.int .i64 0) := kB5.cell 1
    have g0 := kB5.frozen 0
    have g1 := kB5.frozen 1
    clear HQ kB5 ho5 hok hres
    go_wp2_with fail
    have z0 := kF.cell 0
    have z1 := kF.cell 1
    simp at z0 z1
    refine bodyPost_ret (v := .tuple #[.agg #[.iface T p, .int .i64 (Munch.weightsV l)], .bool true]) (by simp [results, Tryz.results78, go_sem, z0, z1]) rfl ?_
    exact ⟨hmF, Or.inr ⟨(.form l, j, d), _, HF.out, rfl, hrF, HQH.out⟩⟩
end Go.Proofs.YtkoaeojdlanolaaGreatDoor
/-
  THE DEVELOPERS' READER: part.
-/
namespace Go.Proofs.YtkoaeojdlanolaaGreatDoor
open Go.RowKit
open Munch (Words Wempty Wbytes Wcat Wany Wall Wnot KeyF Times numText)

/-- A part's node: '!' denies it. -/
def partN (b : Bool) (nd : Munch.Node) : Munch.Node := if b then ⟨Wnot (Munch.Lang nd), Munch.weightV nd, True⟩ else nd
theorem partN_weight (b : Bool) (nd : Munch.Node) : Munch.weightV (partN b nd) = Munch.weightV nd := by unfold partN; cases b <;> rfl
def partR (s : ByteArray) : OneR := fun k i d => (Munch.formF s k (if Munch.hasAt s i 33 then i + 1 else i) 0 d []).bind fun x => .ok (partN (Munch.hasAt s i 33) x.1, x.2)

theorem partR_bound (s : ByteArray) (_hs : s.size ≤ 80) (k i : Nat) (d : Option Nat) (nd : Munch.Node) (j : Nat) (d2 : Option Nat) (hi : i ≤ s.size) (h : partR s k i d = .ok (nd, j, d2)) : i ≤ j ∧ j ≤ s.size ∧ Munch.Can (Munch.weightV nd) (j - i) := by
  unfold partR at h
  have hi' : (if Munch.hasAt s i 33 then i + 1 else i) ≤ s.size ∧ i ≤ (if Munch.hasAt s i 33 then i + 1 else i) := by
    cases hh : Munch.hasAt s i 33 with
    | true => have := Munch.hasAt_true _ _ _ hh; simp; omega
    | false => simp; omega
  rcases Munch.Res.split (Munch.formF s k (if Munch.hasAt s i 33 then i + 1 else i) 0 d []) with h1 | ⟨p, h1⟩ | ⟨x, h1⟩ <;> rw [h1] at h
  · cases h
  · cases h
  · obtain ⟨n1, j1, d1⟩ := x
    simp only [Munch.Res.bind_ok] at h
    cases h
    have hb := (Munch.bounds s k).1 _ _ _ _ _ _ _ hi'.1 h1
    obtain ⟨e, he, hc⟩ := (Munch.heavies s k).1 _ _ _ _ _ _ _ hi'.1 h1
    refine ⟨by omega, hb.2, ?_⟩
    rw [partN_weight, he]
    simp only [Munch.weightsV, Nat.zero_add]
    exact hc.le (by omega)

set_option maxHeartbeats 4000000 in
set_option maxRecDepth 100000 in
theorem part_call (k : Nat) (hf : DForm k) (s : ByteArray) (hs : s.size ≤ 80) (i : Nat) (d : Option Nat) (R mb : Nat) (w : World) (hr : Rs w R s i ((0 : Nat) : Int) (deepD d) mb) (hg : Signs w mb) (hi : i ≤ s.size) (hl : LaidT w) (hout : partR s k i d ≠ .out) :
    Calls Tryz.prog 58 #[.pointer (some ⟨R, 0, none⟩)] w fun e w' => Parsed R s mb ((0 : Nat) : Int) (partR s k i d) (fun x => (x.1, x.2.1, deepD x.2.2)) (fun j => 2 * (j - i) + 2) w e w' := by
  have hRl := hr.lt
  obtain ⟨w1, hw1e⟩ : ∃ w1, w1 = w.alloc (.cells #[.nilIface, .int .i64 0] 82) := ⟨_, rfl⟩
  have hb0 : Below w.heap.size w w1 := by rw [hw1e]; exact below_box w _
  have kB : Blk w1 w.heap.size 82 #[.nilIface, .int .i64 0] := by rw [hw1e]; exact Blk.new _ _ _
  have hBR : w.heap.size ≠ R := by omega
  have hB1 := kB.lt
  have hm1 : Moves R w w1 := Moves.of_below hb0
  have ht := take_any R s i mb ((0 : Nat) : Int) (deepD d) 33 w1 (hr.keep hb0) hi hs
  have HPB : Hid _ := partR_bound s hs k i d
  cases hh : Munch.hasAt s i 33 with
  | false =>
    rw [hh] at ht
    have HP : Hid (partR s k i d = (Munch.formF s k i 0 d []).bind fun x => .ok (x.1, x.2)) := by
      show partR s k i d = _
      unfold partR; rw [hh]; rfl
    have hno : Munch.formF s k i 0 d [] ≠ .out := fun h => hout (by rw [HP.out, h]; rfl)
    clear hh hout
    go_enter Tryz.func58, Tryz.ntmps58
    go_wp2_with fail
    rw [← hw1e]
    clear hw1e
    refine ht.mono ?_
    clear ht
    rintro e w2 ⟨rfl, hr2, hm2⟩
    replace hr2 : Rs w2 R s i ((0 : Nat) : Int) (deepD d) mb := by simpa using hr2
    have hm12 := hm1.trans hm2
    have hfo := hf R s i mb 0 d w2 hr2 (signs_moves hg hr hm12) hi hs (by omega) (laidT_moves hl hr hm12) hno
    have kB2 := kB.grown hm2 (by simpa using hBR)
    have hsz2 := hm2.size
    clear hno kB
    go_wp2_with fail
    refine hfo.mono ?_
    clear hfo
    rintro e w5 ⟨hm5, ⟨pl, n', d', hres, rfl, hr5⟩ | ⟨⟨nd, j, d2⟩, v, hres, rfl, hr5, r, T, p, rfl, hv, hok, hL, hn⟩⟩
    · have HF : Hid (partR s k i d = .bad pl) := by
        show _ = _
        rw [HP.out, hres]; rfl
      have kB5 := kB2.grown hm5 (by simpa using hBR)
      obtain ⟨hmF, hrF, kF⟩ := put_none (hm12.trans hm5) (Nat.le_refl _) hBR hr5 kB5
      have e0 : w5.cell? ⟨w.heap.size, 0, none⟩ = some .nilIface := kB5.cell 0
      have e1 : w5.cell? ⟨w.heap.size, 1, none⟩ = some (.int .i64 0) := kB5.cell 1
      have g0 := kB5.frozen 0
      have g1 := kB5.frozen 1
      clear kB5 hres HPB
      go_wp2_with fail
      have z0 := kF.cell 0
      have z1 := kF.cell 1
      simp at z0 z1
      refine bodyPost_ret (v := .tuple #[.agg #[.nilIface, .int .i64 0], .bool false]) (by simp [results, Tryz.results58, go_sem, z0, z1]) rfl ?_
      exact ⟨hmF, Or.inl ⟨pl, n', d', HF.out, rfl, hrF⟩⟩
    · have HF : Hid (partR s k i d = .ok (nd, j, d2)) := by
        show _ = _
        rw [HP.out, hres]; rfl
      simp only at hr5 hn hL
      have kB5 := kB2.grown hm5 (by simpa using hBR)
      have ho5 : TreeOk w5 (fun x => w.heap.size ≤ x ∧ x ≠ w.heap.size) r := hok.mono (fun x _ hx => by constructor <;> omega)
      obtain ⟨hmF, hrF, kF, HQ⟩ := put_piece (nd := nd) (m := 2 * (j - i) + 2) (base := w.heap.size) (hm12.trans hm5) (Nat.le_refl _) hBR hr5 kB5 hv ho5 hL (by omega) (Munch.weightV nd : Int) rfl
      have HQH : Hid _ := HQ
      have e0 : w5.cell? ⟨w.heap.size, 0, none⟩ = some .nilIface := kB5.cell 0
      have e1 : w5.cell? ⟨w.heap.size, 1, none⟩ = some (.int .i64 0) := kB5.cell 1
      have g0 := kB5.frozen 0
      have g1 := kB5.frozen 1
      clear HQ kB5 ho5 hok hres HPB
      go_wp2_with fail
      have z0 := kF.cell 0
      have z1 := kF.cell 1
      simp at z0 z1
      refine bodyPost_ret (v := .tuple #[.agg #[.iface T p, .int .i64 (Munch.weightV nd)], .bool true]) (by simp [results, Tryz.results58, go_sem, z0, z1]) rfl ?_
      exact ⟨hmF, Or.inr ⟨(nd, j, d2), _, HF.out, rfl, hrF, HQH.out⟩⟩
  | true =>
    rw [hh] at ht
    have hil := Munch.hasAt_true _ _ _ hh
    have HP : Hid (partR s k i d = (Munch.formF s k (i + 1) 0 d []).bind fun x => .ok (partN true x.1, x.2)) := by
      show partR s k i d = _
      unfold partR; rw [hh]; rfl
    have hno : Munch.formF s k (i + 1) 0 d [] ≠ .out := fun h => hout (by rw [HP.out, h]; rfl)
    clear hh hout
    go_enter Tryz.func58, Tryz.ntmps58
    go_wp2_with fail
    rw [← hw1e]
    clear hw1e
    refine ht.mono ?_
    clear ht
    rintro e w2 ⟨rfl, hr2, hm2⟩
    replace hr2 : Rs w2 R s (i + 1) ((0 : Nat) : Int) (deepD d) mb := by simpa using hr2
    have hm12 := hm1.trans hm2
    have hfo := hf R s (i + 1) mb 0 d w2 hr2 (signs_moves hg hr hm12) (by omega) hs (by omega) (laidT_moves hl hr hm12) hno
    have kB2 := kB.grown hm2 (by simpa using hBR)
    have hsz2 := hm2.size
    clear hno kB
    go_wp2_with fail
    refine hfo.mono ?_
    clear hfo
    rintro e w5 ⟨hm5, ⟨pl, n', d', hres, rfl, hr5⟩ | ⟨⟨nd, j, d2⟩, v, hres, rfl, hr5, r, T, p, rfl, hv, hok, hL, hn⟩⟩
    · have HF : Hid (partR s k i d = .bad pl) := by
        show _ = _
        rw [HP.out, hres]; rfl
      have hb6 := below_box w5 (.cells #[.nilIface, .int .i64 0] 82)
      have kB6 := (kB2.grown hm5 (by simpa using hBR)).alloc (.cells #[.nilIface, .int .i64 0] 82)
      obtain ⟨hmF, hrF, kF⟩ := put_none ((hm12.trans hm5).trans (Moves.of_below hb6)) (Nat.le_refl _) hBR (hr5.keep hb6) kB6
      have e0 := kB6.cell 0
      have e1 := kB6.cell 1
      have g0 := kB6.frozen 0
      have g1 := kB6.frozen 1
      simp at e0 e1
      clear kB6 hres HPB
      go_wp2_with fail
      have z0 := kF.cell 0
      have z1 := kF.cell 1
      simp at z0 z1
      refine bodyPost_ret (v := .tuple #[.agg #[.nilIface, .int .i64 0], .bool false]) (by simp [results, Tryz.results58, go_sem, z0, z1]) rfl ?_
      exact ⟨hmF, Or.inl ⟨pl, n', d', HF.out, rfl, hrF⟩⟩
    · have HF : Hid (partR s k i d = .ok (partN true nd, j, d2)) := by
        show _ = _
        rw [HP.out, hres]; rfl
      have hb9 := HPB.out _ _ _ hi HF.out
      simp only at hr5 hn hL
      obtain ⟨W, hWe⟩ : ∃ W, W = w5.alloc (.cells #[.iface T p, .int .i64 (Munch.weightV nd)] 82) := ⟨_, rfl⟩
      have hb6 : Below w5.heap.size w5 W := by rw [hWe]; exact below_box w5 _
      have kA : Blk W w5.heap.size 82 #[.iface T p, .int .i64 (Munch.weightV nd)] := by rw [hWe]; exact Blk.new _ _ _
      have kBW : Blk W w.heap.size 82 #[.nilIface, .int .i64 0] := by rw [hWe]; exact (kB2.grown hm5 (by simpa using hBR)).alloc _
      have hokW : TreeOk W (fun x => w.heap.size ≤ x ∧ x ≠ w.heap.size) r := (hok.mono (ok' := fun x => w.heap.size ≤ x ∧ x ≠ w.heap.size) (fun x _ hx => by constructor <;> omega)).keep (keeps_below hb6)
      have HQ : Hid (∀ w', Below W.heap.size W w' → Calls Tryz.prog 79 #[.iface T p] w' fun e w'' => ∃ (q : Tr) (T5 : TypeId) (p5 : Value), e = .returned (.iface T5 p5) ∧ q.v = .iface T5 p5 ∧ TreeOk w'' (fun x => w.heap.size ≤ x ∧ x ≠ w.heap.size) q ∧ q.L = Wnot r.L ∧ q.n ≤ r.n + 1 ∧ Below w'.heap.size w' w'') := by
        intro w' hw'
        have h := not_any r w' _ (hokW.keep (keeps_below hw')) (by omega)
        rw [hv] at h
        refine h.mono ?_
        rintro e w'' ⟨q, rfl, hqok, hqL, hqn, hb⟩
        obtain ⟨T5, p5, hqv⟩ := hqok.shape
        exact ⟨q, T5, p5, congrArg Ending.returned hqv, hqv, hqok, hqL, hqn, hb⟩
      have hrW := hr5.keep hb6
      have hltA := kA.lt
      have hltB := kBW.lt
      have hmW := (hm12.trans hm5).trans (Moves.of_below (R := R) hb6)
      clear hok hokW hres HPB
      go_wp2_with fail
      rw [← hWe]
      clear hWe
      have a0 : W.cell? ⟨w5.heap.size, 0, none⟩ = some (.iface T p) := kA.cell 0
      have a1 : W.cell? ⟨w5.heap.size, 1, none⟩ = some (.int .i64 (Munch.weightV nd)) := kA.cell 1
      have hbW : Below W.heap.size W W := Below.refl _ _
      go_region_with (go_at_call 79; refine (HQ.out _ (by exact ⟨hbW.os, hbW.tape, hbW.output, hbW.size, hbW.block⟩)).mono ?_; rintro e w7 ⟨q, T5, p5, rfl, hqv, hqok, hqL, hqn, hb7'⟩; have hb7 : Below W.heap.size W w7 := ⟨hb7'.os, hb7'.tape, hb7'.output, hb7'.size, fun k hk => hb7'.block k hk⟩; have a15 : w7.cell? ⟨w5.heap.size, 1, none⟩ = some (.int .i64 (Munch.weightV nd)) := (kA.below hb7 hltA).cell 1; have kB7 := kBW.below hb7 hltB; have b0 : w7.cell? ⟨w.heap.size, 0, none⟩ = some .nilIface := kB7.cell 0; have b1 : w7.cell? ⟨w.heap.size, 1, none⟩ = some (.int .i64 0) := kB7.cell 1; have g0 := kB7.frozen 0; have g1 := kB7.frozen 1)
      all_goals
        obtain ⟨hmF, hrF, kF, HPP⟩ := put_piece (nd := partN true nd) (m := 2 * (j - i) + 2) (base := w.heap.size) (hmW.trans (Moves.of_below hb7)) (Nat.le_refl _) hBR (hrW.keep hb7) kB7 hqv hqok (by rw [hqL, hL]; rfl) (by omega) (Munch.weightV nd : Int) (by rw [partN_weight])
        have HPH : Hid _ := HPP
        clear HPP hqok
        go_wp2_with fail
        have z0 := kF.cell 0
        have z1 := kF.cell 1
        simp at z0 z1
        refine bodyPost_ret (v := .tuple #[.agg #[.iface T5 p5, .int .i64 (Munch.weightV nd)], .bool true]) (by simp [results, Tryz.results58, go_sem, z0, z1]) rfl ?_
        exact ⟨hmF, Or.inr ⟨(partN true nd, j, d2), _, HF.out, rfl, hrF, HPH.out⟩⟩

theorem part_said (s : ByteArray) (hs : s.size ≤ 80) (N : Nat) (hf : ∀ k, k < N → DForm k) : OneSaid 58 s (partR s) 0 2 N :=
  ⟨enters_of Tryz.func58 (by kernel_rfl) (by kernel_rfl), fun k i d nd j d2 _ hi h => partR_bound s hs k i d nd j d2 hi h, fun k i d R mb w hk hr hg hi _ hl hno => part_call k (hf k hk) s hs i d R mb w hr hg hi hl hno⟩
end Go.Proofs.YtkoaeojdlanolaaGreatDoor
/-
  THE DEVELOPERS' READER: pattern.
-/
namespace Go.Proofs.YtkoaeojdlanolaaGreatDoor
open Go.RowKit
open Munch (Words Wempty Wbytes Wcat Wany Wall Wnot KeyF Times numText)

def partO (x : Munch.Part) : Munch.Node := partN x.1 x.2
/-- A pattern's node. -/
def patN (l : List Munch.Part) : Munch.Node := ⟨Wall ((l.map partO).map Munch.Lang), Munch.weightP l, True⟩
theorem patN_weight (l : List Munch.Part) : Munch.weightsV (l.map partO) = Munch.weightP l := by
  unfold Munch.weightP
  induction l with
  | nil => rfl
  | cons x r ih => simp only [List.map_cons, Munch.weightsV, ih, partO, partN_weight]
theorem pattern_part (s : ByteArray) : ∀ (k i : Nat) (d : Option Nat) (acc : List Munch.Part), partF s 38 (partR s) k i d (acc.map partO) = (Munch.patternF s k i d acc).bind fun x => .ok (x.1.map partO, x.2) := by
  intro k
  induction k with
  | zero => intro i d acc; rfl
  | succ k ih =>
    intro i d acc
    show ((partR s k i d).bind _) = ((Munch.formF s k (if Munch.hasAt s i 33 then i + 1 else i) 0 d []).bind _).bind _
    unfold partR
    rcases Munch.Res.split (Munch.formF s k (if Munch.hasAt s i 33 then i + 1 else i) 0 d []) with h | ⟨p, h⟩ | ⟨x, h⟩ <;> rw [h]
    · rfl
    · rfl
    · simp only [Munch.Res.bind_ok]
      split
      · have := ih (x.2.1 + 1) x.2.2 (acc ++ [(Munch.hasAt s i 33, x.1)])
        rw [List.map_append] at this
        exact this
      · simp [partO]

/-- What pattern answers, with so much fuel. -/
def DPat (N : Nat) : Prop := ∀ (R : Nat) (s : ByteArray) (i mb : Nat) (deep : Option Nat) (w : World), Rs w R s i ((0 : Nat) : Int) (deepD deep) mb → Signs w mb → i ≤ s.size → s.size ≤ 80 → LaidT w → Munch.patternF s N i deep [] ≠ .out →
  Calls Tryz.prog 27 #[.pointer (some ⟨R, 0, none⟩)] w fun e w' => Parsed R s mb ((0 : Nat) : Int) (Munch.patternF s N i deep []) (fun x => (patN x.1, x.2.1, deepD x.2.2)) (fun j => 2 * (j - i) + 2) w e w'

set_option maxHeartbeats 2000000 in
set_option maxRecDepth 100000 in
theorem pattern_any_d (N : Nat) (hf : ∀ k, k < N → DForm k) : DPat N := by
  intro R s i mb deep w hr hg hi hs hl hout
  have hRl := hr.lt
  obtain ⟨w1, hw1e⟩ : ∃ w1, w1 = w.alloc (.cells #[.nilIface, .int .i64 0] 82) := ⟨_, rfl⟩
  have hb0 : Below w.heap.size w w1 := by rw [hw1e]; exact below_box w _
  have kB : Blk w1 w.heap.size 82 #[.nilIface, .int .i64 0] := by rw [hw1e]; exact Blk.new _ _ _
  have hBR : w.heap.size ≠ R := by omega
  have hB1 := kB.lt
  have hm1 : Moves R w w1 := Moves.of_below hb0
  have HP : Hid (partF s 38 (partR s) N i deep [] = (Munch.patternF s N i deep []).bind fun x => .ok (x.1.map partO, x.2)) := pattern_part s N i deep []
  have hno : partF s 38 (partR s) N i deep [] ≠ .out := by
    intro h
    rw [HP.out] at h
    rcases Munch.Res.split (Munch.patternF s N i deep []) with h1 | ⟨p, h1⟩ | ⟨x, h1⟩
    · exact hout h1
    · rw [h1] at h; cases h
    · rw [h1] at h; cases h
  have hpa := parted_any 58 59 s 38 (partR s) Wall 0 2 N (part_said s hs N hf) join_all (by omega) (by omega) R i mb deep w1 (hr.keep hb0) (signs_moves hg hr hm1) hi hs (by omega) (laidT_moves hl hr hm1) hno
  clear hout hno
  go_enter Tryz.func27, Tryz.ntmps27
  go_wp2_with fail
  rw [← hw1e]
  clear hw1e
  refine hpa.mono ?_
  clear hpa
  rintro e w5 ⟨hm5, ⟨pl, n', d', hres, rfl, hr5⟩ | ⟨l, j, d, r, T, p, hres, hij, hjs, rfl, hr5, hv, hok, hL, hn⟩⟩
  · have HF : Hid (Munch.patternF s N i deep [] = .bad pl) := by
      show _ = _
      have h0 := HP.out
      rw [hres] at h0
      rcases Munch.Res.split (Munch.patternF s N i deep []) with h1 | ⟨p, h1⟩ | ⟨x, h1⟩
      · rw [h1] at h0; cases h0
      · rw [h1] at h0 ⊢; cases h0; rfl
      · rw [h1] at h0; cases h0
    have kB5 := kB.grown hm5 (by simpa using hBR)
    obtain ⟨hmF, hrF, kF⟩ := put_none (hm1.trans hm5) (Nat.le_refl _) hBR hr5 kB5
    have e0 : w5.cell? ⟨w.heap.size, 0, none⟩ = some .nilIface := kB5.cell 0
    have e1 : w5.cell? ⟨w.heap.size, 1, none⟩ = some (.int .i64 0) := kB5.cell 1
    have g0 := kB5.frozen 0
    have g1 := kB5.frozen 1
    clear kB5 hres
    go_wp2_with fail
    have z0 := kF.cell 0
    have z1 := kF.cell 1
    simp at z0 z1
    refine bodyPost_ret (v := .tuple #[.agg #[.nilIface, .int .i64 0], .bool false]) (by simp [results, Tryz.results27, go_sem, z0, z1]) rfl ?_
    exact ⟨hmF, Or.inl ⟨pl, n', d', HF.out, rfl, hrF⟩⟩
  · obtain ⟨ps, hps, hpl⟩ : ∃ ps, Munch.patternF s N i deep [] = .ok (ps, j, d) ∧ l = ps.map partO := by
      have h0 := HP.out
      rw [hres] at h0
      rcases Munch.Res.split (Munch.patternF s N i deep []) with h1 | ⟨p, h1⟩ | ⟨x, h1⟩
      · rw [h1] at h0; cases h0
      · rw [h1] at h0; cases h0
      · rw [h1] at h0
        simp only [Munch.Res.bind_ok] at h0
        obtain ⟨ps, pj⟩ := x
        cases h0
        exact ⟨ps, h1, rfl⟩
    have HF : Hid _ := hps
    have hwl : Munch.weightsV l = Munch.weightP ps := by rw [hpl]; exact patN_weight ps
    rw [hpl] at hL
    rw [hwl]
    clear hps hpl
    have kB5 := kB.grown hm5 (by simpa using hBR)
    have ho5 : TreeOk w5 (fun x => w.heap.size ≤ x ∧ x ≠ w.heap.size) r := hok.mono (fun x _ hx => by constructor <;> omega)
    obtain ⟨hmF, hrF, kF, HQ⟩ := put_piece (nd := patN ps) (m := 2 * (j - i) + 2) (base := w.heap.size) (hm1.trans hm5) (Nat.le_refl _) hBR hr5 kB5 hv ho5 (by rw [hL]; rfl) hn (Munch.weightP ps : Int) rfl
    have HQH : Hid _ := HQ
    have e0 : w5.cell? ⟨w.heap.size, 0, none⟩ = some .nilIface := kB5.cell 0
    have e1 : w5.cell? ⟨w.heap.size, 1, none⟩ = some (.int .i64 0) := kB5.cell 1
    have g0 := kB5.frozen 0
    have g1 := kB5.frozen 1
    clear HQ kB5 ho5 hok hres hwl
    go_wp2_with fail
    have z0 := kF.cell 0
    have z1 := kF.cell 1
    simp at z0 z1
    refine bodyPost_ret (v := .tuple #[.agg #[.iface T p, .int .i64 (Munch.weightP ps)], .bool true]) (by simp [results, Tryz.results27, go_sem, z0, z1]) rfl ?_
    exact ⟨hmF, Or.inr ⟨(ps, j, d), _, HF.out, rfl, hrF, HQH.out⟩⟩
end Go.Proofs.YtkoaeojdlanolaaGreatDoor
