import Derived.Test.YtkoaeojdlanolaaGreatDoorCd03
import Derived.Test.YtkoaeojdlanolaaGreatDoorCd01
/-
  THE DEVELOPERS' READER: brackets.
-/
namespace Go.Proofs.YtkoaeojdlanolaaGreatDoor
open Go.RowKit
open Munch (Words Wempty Wbytes Wcat Wany Wall Wnot KeyF Times numText)

def deepD : Option Nat → Int
  | none => -1
  | some d => (d : Int)
theorem deepD_none (d : Option Nat) : deepD d = -1 ↔ d = none := by
  cases d with
  | none => simp [deepD]
  | some d => simp [deepD]

/-- What form answers, with so much fuel. -/
def DForm (N : Nat) : Prop := ∀ (R : Nat) (s : ByteArray) (i mb opn : Nat) (deep : Option Nat) (w : World), Rs w R s i opn (deepD deep) mb → Signs w mb → i ≤ s.size → s.size ≤ 80 → opn ≤ i → LaidT w → Munch.formF s N i opn deep [] ≠ .out →
  Calls Tryz.prog 78 #[.pointer (some ⟨R, 0, none⟩)] w fun e w' => Parsed R s mb opn (Munch.formF s N i opn deep []) (fun x => (x.1, x.2.1, deepD x.2.2)) (fun j => 2 * (j - i) + 1) w e w'

theorem signs_moves {w w' : World} {R i mb : Nat} {s : ByteArray} {nest deep : Int} (h : Signs w mb) (hr : Rs w R s i nest deep mb) (hm : Moves R w w') : Signs w' mb := by
  have hlt : mb < w.heap.size := (Array.getElem?_eq_some_iff.1 h).1
  have hne : mb ≠ R := by
    intro e; subst e
    unfold Signs at h; unfold Rs Blk at hr
    rw [h] at hr; simp at hr
  exact (hm.block mb hlt (by simpa using hne)).trans h

def brR (s : ByteArray) (N i opn : Nat) (deep : Option Nat) : Munch.Res (Munch.Node × Nat × Option Nat) := (Munch.formF s N (i + 1) (opn + 1) (Munch.deeper i opn deep) []).bind fun x => if Munch.hasAt s x.2.1 41 then .ok (x.1, x.2.1 + 1, x.2.2) else .bad x.2.1

set_option maxHeartbeats 4000000 in
set_option maxRecDepth 100000 in
theorem br_in (N : Nat) (hf : DForm N) (R : Nat) (s : ByteArray) (i mb opn : Nat) (deep dp : Option Nat) (w W : World) (hr : Rs w R s i opn (deepD deep) mb) (hi : i < s.size) (hs : s.size ≤ 80) (ho : opn ≤ i) (hg : Signs w mb) (hl : LaidT w) (hdp : dp = Munch.deeper i opn deep)
    (hrW : Rs W R s (i + 1) ((opn + 1 : Nat) : Int) (deepD dp) mb) (hm : Moves R w W) (hout : brR s N i opn deep ≠ .out) :
    Calls Tryz.prog 78 #[.pointer (some ⟨R, 0, none⟩)] W fun e w' => Moves R W w' ∧
      ((∃ p nest' deep', brR s N i opn deep = .bad p ∧ e = .returned (.tuple #[.agg #[.nilIface, .int .i64 0], .bool false]) ∧ Rs w' R s p nest' deep' mb) ∨
       (∃ (nd : Munch.Node) (j : Nat) (d : Option Nat) (r : Tr) (T : TypeId) (p : Value), i + 1 ≤ j ∧ j ≤ s.size ∧ brR s N i opn deep = (if Munch.hasAt s j 41 then .ok (nd, j + 1, d) else .bad j) ∧ e = .returned (.tuple #[.agg #[.iface T p, .int .i64 (Munch.weightV nd)], .bool true]) ∧ Rs w' R s j ((opn + 1 : Nat) : Int) (deepD d) mb ∧
          r.v = .iface T p ∧ TreeOk w' (W.heap.size ≤ ·) r ∧ r.L = Munch.Lang nd ∧ r.n ≤ 2 * (j - (i + 1)) + 1)) := by
  have hno : Munch.formF s N (i + 1) (opn + 1) dp [] ≠ .out := by
    intro h; apply hout; unfold brR; rw [← hdp, h]; rfl
  refine (hf R s (i + 1) mb (opn + 1) dp W hrW (signs_moves hg hr hm) (by omega) hs (by omega) (laidT_moves hl hr hm) hno).mono ?_
  rintro e w' ⟨hm', ⟨p, n', d', hres, rfl, hr'⟩ | ⟨⟨nd, j, d⟩, v, hres, rfl, hr', r, T, p, rfl, hv, hok, hL, hn⟩⟩
  · exact ⟨hm', Or.inl ⟨p, n', d', by unfold brR; rw [← hdp, hres]; rfl, rfl, hr'⟩⟩
  · have hb := (Munch.bounds s N).1 (i + 1) (opn + 1) dp [] nd j d (by omega) hres
    exact ⟨hm', Or.inr ⟨nd, j, d, r, T, p, hb.1, hb.2, by unfold brR; rw [← hdp, hres]; rfl, rfl, hr', hv, hok, hL, hn⟩⟩

set_option maxHeartbeats 4000000 in
set_option maxRecDepth 100000 in
theorem brackets_any (N : Nat) (hf : DForm N) (R : Nat) (s : ByteArray) (i mb opn : Nat) (deep : Option Nat) (w : World) (hr : Rs w R s i opn (deepD deep) mb) (hi : i < s.size) (hs : s.size ≤ 80) (ho : opn ≤ i) (hg : Signs w mb) (hl : LaidT w) (hout : brR s N i opn deep ≠ .out) :
    Calls Tryz.prog 159 #[.pointer (some ⟨R, 0, none⟩)] w fun e w' => Parsed R s mb opn (brR s N i opn deep) (fun x => (x.1, x.2.1, deepD x.2.2)) (fun j => 2 * (j - i) - 1) w e w' := by
  have hRl := hr.lt
  have c1 := hr.c1
  have c2 := hr.c2
  have c3 := hr.c3
  have f1 := hr.fr 1
  have f2 := hr.fr 2
  have f3 := hr.fr 3
  have hw1 : IntKind.i64.wrap ((i : Int) + 1) = (i : Int) + 1 := by rw [IntKind.wrap_i64]; omega
  have hw2 : IntKind.i64.wrap ((opn : Int) + 1) = (opn : Int) + 1 := by rw [IntKind.wrap_i64]; omega
  have hw3 : IntKind.i64.wrap ((opn : Int) + 1 - 1) = (opn : Int) := by rw [IntKind.wrap_i64]; omega
  by_cases hdeep : 8 ≤ opn ∧ deep = none
  · have h8 : (8 : Int) ≤ (opn : Int) := by omega
    have hdp : some i = Munch.deeper i opn deep := by unfold Munch.deeper; rw [if_pos hdeep]
    have hdd : deepD deep = -1 := (deepD_none deep).2 hdeep.2
    obtain ⟨V, hV⟩ : ∃ V, V = ((w.setCell ⟨R, 3, none⟩ (.int .i64 (i : Int))).setCell ⟨R, 1, none⟩ (.int .i64 ((i : Int) + 1))).setCell ⟨R, 2, none⟩ (.int .i64 ((opn : Int) + 1)) := ⟨_, rfl⟩
    have hrV : Rs V R s (i + 1) ((opn + 1 : Nat) : Int) (deepD (some i)) mb := by
      rw [hV]
      have := ((hr.set3 (i : Int)).set1 (i + 1)).set2 ((opn : Int) + 1)
      rwa [show ((i + 1 : Nat) : Int) = (i : Int) + 1 from by omega] at this
    have hmV : Moves R w V := by rw [hV]; exact (((Moves.refl R w).set 3 _).set 1 _).set 2 _
    have hszV : V.heap.size = w.heap.size := by rw [hV]; simp
    have hb0 := below_box V (.cells #[.nilIface, .int .i64 0] 82)
    have kB : Blk (V.alloc (.cells #[.nilIface, .int .i64 0] 82)) w.heap.size 82 #[.nilIface, .int .i64 0] := by
      have := Blk.new V #[.nilIface, .int .i64 0] 82
      rwa [hszV] at this
    have hBR : w.heap.size ≠ R := by omega
    have hmW : Moves R w (V.alloc (.cells #[.nilIface, .int .i64 0] 82)) := hmV.trans (Moves.of_below hb0)
    have hfo := br_in N hf R s i mb opn deep (some i) w _ hr hi hs ho hg hl hdp (hrV.keep hb0) hmW hout
    clear hdeep hdp
    go_enter Tryz.func159, Tryz.ntmps159
    go_wp2_with fail
    rw [← hV]
    clear hV
    generalize V.alloc (.cells #[.nilIface, .int .i64 0] 82) = W at *
    refine hfo.mono ?_
    clear hfo
    rintro e w5 ⟨hm5, ⟨pl, n', d', hres, rfl, hr5⟩ | ⟨nd, j, d, r, T, p, hj1, hj2, hres, rfl, hr5, hv, hok, hL, hn⟩⟩
    · have HE : Hid _ := hres
      have hb6 := below_box w5 (.cells #[.nilIface, .int .i64 0] 82)
      have kB6 := (kB.grown hm5 (by simpa using hBR)).alloc (.cells #[.nilIface, .int .i64 0] 82)
      obtain ⟨hmF, hrF, kF⟩ := put_none ((hmW.trans hm5).trans (Moves.of_below hb6)) (Nat.le_refl _) hBR (hr5.keep hb6) kB6
      have d0 := kB6.cell 0
      have d1 := kB6.cell 1
      have g0 := kB6.frozen 0
      have g1 := kB6.frozen 1
      simp at d0 d1
      clear kB6 hres
      go_wp2_with fail
      have z0 := kF.cell 0
      have z1 := kF.cell 1
      simp at z0 z1
      refine bodyPost_ret (v := .tuple #[.agg #[.nilIface, .int .i64 0], .bool false]) (by simp [results, Tryz.results159, go_sem, z0, z1]) rfl ?_
      exact ⟨hmF, Or.inl ⟨pl, n', d', HE.out, rfl, hrF⟩⟩
    · have hWB := kB.lt
      have hWR := hm5.size
      have HE : Hid _ := hres
      have hb6 := below_box w5 (.cells #[.iface T p, .int .i64 (Munch.weightV nd)] 82)
      have kI : Blk (w5.alloc (.cells #[.iface T p, .int .i64 (Munch.weightV nd)] 82)) w5.heap.size 82 #[.iface T p, .int .i64 (Munch.weightV nd)] := Blk.new _ _ _
      have kB6 := (kB.grown hm5 (by simpa using hBR)).alloc (.cells #[.iface T p, .int .i64 (Munch.weightV nd)] 82)
      have hr6 := hr5.keep hb6
      have ht := take_any R s j mb _ _ 41 _ hr6 hj2 hs
      have HO : Hid (TreeOk (w5.alloc (.cells #[.iface T p, .int .i64 (Munch.weightV nd)] 82)) (fun x => W.heap.size ≤ x) r) := hok.keep (keeps_below hb6)
      have hR5 := hr5.lt
      have hRW : R < W.heap.size := by omega
      clear hok hres
      cases hh : Munch.hasAt s j 41 with
      | false =>
        rw [hh] at ht
        have HF : Hid (brR s N i opn deep = .bad j) := by
          show brR s N i opn deep = .bad j
          rw [HE.out, hh]; rfl
        clear hh
        go_wp2_with fail
        refine ht.mono ?_
        clear ht
        rintro e w7 ⟨rfl, hr7, hm7⟩
        replace hr7 : Rs w7 R s j ((opn + 1 : Nat) : Int) (deepD d) mb := by simpa using hr7
        have kB7 := kB6.grown hm7 (by simpa using hBR)
        obtain ⟨hmF, hrF, kF⟩ := put_none (((hmW.trans hm5).trans (Moves.of_below hb6)).trans hm7) (Nat.le_refl _) hBR hr7 kB7
        have d0 := kB7.cell 0
        have d1 := kB7.cell 1
        have g0 := kB7.frozen 0
        have g1 := kB7.frozen 1
        simp at d0 d1
        clear kB7
        go_wp2_with fail
        have z0 := kF.cell 0
        have z1 := kF.cell 1
        simp at z0 z1
        refine bodyPost_ret (v := .tuple #[.agg #[.nilIface, .int .i64 0], .bool false]) (by simp [results, Tryz.results159, go_sem, z0, z1]) rfl ?_
        exact ⟨hmF, Or.inl ⟨j, _, _, HF.out, rfl, hrF⟩⟩
      | true =>
        rw [hh] at ht
        have HF : Hid (brR s N i opn deep = .ok (nd, j + 1, d)) := by
          show brR s N i opn deep = _
          rw [HE.out, hh]; rfl
        clear hh
        go_wp2_with fail
        refine ht.mono ?_
        clear ht
        rintro e w7 ⟨rfl, hr7, hm7⟩
        replace hr7 : Rs w7 R s (j + 1) ((opn + 1 : Nat) : Int) (deepD d) mb := by simpa using hr7
        have e2 : w7.cell? ⟨R, 2, none⟩ = some (.int .i64 ((opn : Int) + 1)) := by
          have := hr7.c2
          rwa [show ((opn + 1 : Nat) : Int) = (opn : Int) + 1 from by omega] at this
        have q2 := hr7.fr 2
        have hr8 := hr7.set2 (opn : Int)
        have hIR : w5.heap.size ≠ R := by omega
        have kI8 := (kI.grown hm7 (by simpa using hIR)).setOther (a := ⟨R, 2, none⟩) hIR (.int .i64 (opn : Int))
        have kB8 := (kB6.grown hm7 (by simpa using hBR)).setOther (a := ⟨R, 2, none⟩) hBR (.int .i64 (opn : Int))
        have hm8 := ((((hmW.trans hm5).trans (Moves.of_below hb6)).trans hm7).set 2 (.int .i64 (opn : Int)))
        have ho8 : TreeOk (w7.setCell ⟨R, 2, none⟩ (.int .i64 (opn : Int))) (fun x => w.heap.size ≤ x ∧ x ≠ w.heap.size) r := by
          have h1 : TreeOk _ (fun x => W.heap.size ≤ x) r := HO.out
          have h2 : TreeOk w7 (fun x => W.heap.size ≤ x) r := h1.keep (hm7.keeps.mono (fun x _ hx => by omega))
          have h3 : TreeOk (w7.setCell ⟨R, 2, none⟩ (.int .i64 (opn : Int))) (fun x => W.heap.size ≤ x) r := h2.keep ((keeps_set w7 ⟨R, 2, none⟩ (.int .i64 (opn : Int))).mono (fun x _ hx => by show x ≠ R; omega))
          exact h3.mono (fun x _ hx => by constructor <;> omega)
        obtain ⟨hmF, hrF, kF, HP⟩ := put_piece (nd := nd) (m := 2 * (j + 1 - i) - 1) (base := w.heap.size) hm8 (Nat.le_refl _) hBR hr8 kB8 hv ho8 hL (by omega) (Munch.weightV nd : Int) rfl
        have HPH : Hid _ := HP
        have i0 : (w7.setCell ⟨R, 2, none⟩ (.int .i64 (opn : Int))).cell? ⟨w5.heap.size, 0, none⟩ = some (.iface T p) := kI8.cell 0
        have i1 : (w7.setCell ⟨R, 2, none⟩ (.int .i64 (opn : Int))).cell? ⟨w5.heap.size, 1, none⟩ = some (.int .i64 (Munch.weightV nd)) := kI8.cell 1
        have d0 : (w7.setCell ⟨R, 2, none⟩ (.int .i64 (opn : Int))).cell? ⟨w.heap.size, 0, none⟩ = some .nilIface := kB8.cell 0
        have d1 : (w7.setCell ⟨R, 2, none⟩ (.int .i64 (opn : Int))).cell? ⟨w.heap.size, 1, none⟩ = some (.int .i64 0) := kB8.cell 1
        have g0 := kB8.frozen 0
        have g1 := kB8.frozen 1
        clear HP ho8 kI8 kB8
        go_wp2_with fail
        have z0 := kF.cell 0
        have z1 := kF.cell 1
        simp at z0 z1
        refine bodyPost_ret (v := .tuple #[.agg #[.iface T p, .int .i64 (Munch.weightV nd)], .bool true]) (by simp [results, Tryz.results159, go_sem, z0, z1]) rfl ?_
        exact ⟨hmF, Or.inr ⟨(nd, j + 1, d), _, HF.out, rfl, hrF, HPH.out⟩⟩
  · have hdp : deep = Munch.deeper i opn deep := by unfold Munch.deeper; rw [if_neg hdeep]
    obtain ⟨V, hV⟩ : ∃ V, V = (w.setCell ⟨R, 1, none⟩ (.int .i64 ((i : Int) + 1))).setCell ⟨R, 2, none⟩ (.int .i64 ((opn : Int) + 1)) := ⟨_, rfl⟩
    have hrV : Rs V R s (i + 1) ((opn + 1 : Nat) : Int) (deepD deep) mb := by
      rw [hV]
      have := ((hr.set1 (i + 1)).set2 ((opn : Int) + 1))
      rwa [show ((i + 1 : Nat) : Int) = (i : Int) + 1 from by omega] at this
    have hmV : Moves R w V := by rw [hV]; exact ((Moves.refl R w).set 1 _).set 2 _
    have hszV : V.heap.size = w.heap.size := by rw [hV]; simp
    by_cases h8' : 8 ≤ opn
    · have h8 : (8 : Int) ≤ (opn : Int) := by omega
      have hdd : ¬ deepD deep = -1 := fun h => hdeep ⟨h8', (deepD_none deep).1 h⟩
      have hb0 := below_box V (.cells #[.nilIface, .int .i64 0] 82)
      have kB : Blk (V.alloc (.cells #[.nilIface, .int .i64 0] 82)) w.heap.size 82 #[.nilIface, .int .i64 0] := by
        have := Blk.new V #[.nilIface, .int .i64 0] 82
        rwa [hszV] at this
      have hBR : w.heap.size ≠ R := by omega
      have hmW : Moves R w (V.alloc (.cells #[.nilIface, .int .i64 0] 82)) := hmV.trans (Moves.of_below hb0)
      have hfo := br_in N hf R s i mb opn deep deep w _ hr hi hs ho hg hl hdp (hrV.keep hb0) hmW hout
      clear hdeep hdp
      go_enter Tryz.func159, Tryz.ntmps159
      go_wp2_with fail
      rw [← hV]
      clear hV
      generalize V.alloc (.cells #[.nilIface, .int .i64 0] 82) = W at *
      refine hfo.mono ?_
      clear hfo
      rintro e w5 ⟨hm5, ⟨pl, n', d', hres, rfl, hr5⟩ | ⟨nd, j, d, r, T, p, hj1, hj2, hres, rfl, hr5, hv, hok, hL, hn⟩⟩
      · have HE : Hid _ := hres
        have hb6 := below_box w5 (.cells #[.nilIface, .int .i64 0] 82)
        have kB6 := (kB.grown hm5 (by simpa using hBR)).alloc (.cells #[.nilIface, .int .i64 0] 82)
        obtain ⟨hmF, hrF, kF⟩ := put_none ((hmW.trans hm5).trans (Moves.of_below hb6)) (Nat.le_refl _) hBR (hr5.keep hb6) kB6
        have d0 := kB6.cell 0
        have d1 := kB6.cell 1
        have g0 := kB6.frozen 0
        have g1 := kB6.frozen 1
        simp at d0 d1
        clear kB6 hres
        go_wp2_with fail
        have z0 := kF.cell 0
        have z1 := kF.cell 1
        simp at z0 z1
        refine bodyPost_ret (v := .tuple #[.agg #[.nilIface, .int .i64 0], .bool false]) (by simp [results, Tryz.results159, go_sem, z0, z1]) rfl ?_
        exact ⟨hmF, Or.inl ⟨pl, n', d', HE.out, rfl, hrF⟩⟩
      · have hWB := kB.lt
        have hWR := hm5.size
        have HE : Hid _ := hres
        have hb6 := below_box w5 (.cells #[.iface T p, .int .i64 (Munch.weightV nd)] 82)
        have kI : Blk (w5.alloc (.cells #[.iface T p, .int .i64 (Munch.weightV nd)] 82)) w5.heap.size 82 #[.iface T p, .int .i64 (Munch.weightV nd)] := Blk.new _ _ _
        have kB6 := (kB.grown hm5 (by simpa using hBR)).alloc (.cells #[.iface T p, .int .i64 (Munch.weightV nd)] 82)
        have hr6 := hr5.keep hb6
        have ht := take_any R s j mb _ _ 41 _ hr6 hj2 hs
        have HO : Hid (TreeOk (w5.alloc (.cells #[.iface T p, .int .i64 (Munch.weightV nd)] 82)) (fun x => W.heap.size ≤ x) r) := hok.keep (keeps_below hb6)
        have hR5 := hr5.lt
        have hRW : R < W.heap.size := by omega
        clear hok hres
        cases hh : Munch.hasAt s j 41 with
        | false =>
          rw [hh] at ht
          have HF : Hid (brR s N i opn deep = .bad j) := by
            show brR s N i opn deep = .bad j
            rw [HE.out, hh]; rfl
          clear hh
          go_wp2_with fail
          refine ht.mono ?_
          clear ht
          rintro e w7 ⟨rfl, hr7, hm7⟩
          replace hr7 : Rs w7 R s j ((opn + 1 : Nat) : Int) (deepD d) mb := by simpa using hr7
          have kB7 := kB6.grown hm7 (by simpa using hBR)
          obtain ⟨hmF, hrF, kF⟩ := put_none (((hmW.trans hm5).trans (Moves.of_below hb6)).trans hm7) (Nat.le_refl _) hBR hr7 kB7
          have d0 := kB7.cell 0
          have d1 := kB7.cell 1
          have g0 := kB7.frozen 0
          have g1 := kB7.frozen 1
          simp at d0 d1
          clear kB7
          go_wp2_with fail
          have z0 := kF.cell 0
          have z1 := kF.cell 1
          simp at z0 z1
          refine bodyPost_ret (v := .tuple #[.agg #[.nilIface, .int .i64 0], .bool false]) (by simp [results, Tryz.results159, go_sem, z0, z1]) rfl ?_
          exact ⟨hmF, Or.inl ⟨j, _, _, HF.out, rfl, hrF⟩⟩
        | true =>
          rw [hh] at ht
          have HF : Hid (brR s N i opn deep = .ok (nd, j + 1, d)) := by
            show brR s N i opn deep = _
            rw [HE.out, hh]; rfl
          clear hh
          go_wp2_with fail
          refine ht.mono ?_
          clear ht
          rintro e w7 ⟨rfl, hr7, hm7⟩
          replace hr7 : Rs w7 R s (j + 1) ((opn + 1 : Nat) : Int) (deepD d) mb := by simpa using hr7
          have e2 : w7.cell? ⟨R, 2, none⟩ = some (.int .i64 ((opn : Int) + 1)) := by
            have := hr7.c2
            rwa [show ((opn + 1 : Nat) : Int) = (opn : Int) + 1 from by omega] at this
          have q2 := hr7.fr 2
          have hr8 := hr7.set2 (opn : Int)
          have hIR : w5.heap.size ≠ R := by omega
          have kI8 := (kI.grown hm7 (by simpa using hIR)).setOther (a := ⟨R, 2, none⟩) hIR (.int .i64 (opn : Int))
          have kB8 := (kB6.grown hm7 (by simpa using hBR)).setOther (a := ⟨R, 2, none⟩) hBR (.int .i64 (opn : Int))
          have hm8 := ((((hmW.trans hm5).trans (Moves.of_below hb6)).trans hm7).set 2 (.int .i64 (opn : Int)))
          have ho8 : TreeOk (w7.setCell ⟨R, 2, none⟩ (.int .i64 (opn : Int))) (fun x => w.heap.size ≤ x ∧ x ≠ w.heap.size) r := by
            have h1 : TreeOk _ (fun x => W.heap.size ≤ x) r := HO.out
            have h2 : TreeOk w7 (fun x => W.heap.size ≤ x) r := h1.keep (hm7.keeps.mono (fun x _ hx => by omega))
            have h3 : TreeOk (w7.setCell ⟨R, 2, none⟩ (.int .i64 (opn : Int))) (fun x => W.heap.size ≤ x) r := h2.keep ((keeps_set w7 ⟨R, 2, none⟩ (.int .i64 (opn : Int))).mono (fun x _ hx => by show x ≠ R; omega))
            exact h3.mono (fun x _ hx => by constructor <;> omega)
          obtain ⟨hmF, hrF, kF, HP⟩ := put_piece (nd := nd) (m := 2 * (j + 1 - i) - 1) (base := w.heap.size) hm8 (Nat.le_refl _) hBR hr8 kB8 hv ho8 hL (by omega) (Munch.weightV nd : Int) rfl
          have HPH : Hid _ := HP
          have i0 : (w7.setCell ⟨R, 2, none⟩ (.int .i64 (opn : Int))).cell? ⟨w5.heap.size, 0, none⟩ = some (.iface T p) := kI8.cell 0
          have i1 : (w7.setCell ⟨R, 2, none⟩ (.int .i64 (opn : Int))).cell? ⟨w5.heap.size, 1, none⟩ = some (.int .i64 (Munch.weightV nd)) := kI8.cell 1
          have d0 : (w7.setCell ⟨R, 2, none⟩ (.int .i64 (opn : Int))).cell? ⟨w.heap.size, 0, none⟩ = some .nilIface := kB8.cell 0
          have d1 : (w7.setCell ⟨R, 2, none⟩ (.int .i64 (opn : Int))).cell? ⟨w.heap.size, 1, none⟩ = some (.int .i64 0) := kB8.cell 1
          have g0 := kB8.frozen 0
          have g1 := kB8.frozen 1
          clear HP ho8 kI8 kB8
          go_wp2_with fail
          have z0 := kF.cell 0
          have z1 := kF.cell 1
          simp at z0 z1
          refine bodyPost_ret (v := .tuple #[.agg #[.iface T p, .int .i64 (Munch.weightV nd)], .bool true]) (by simp [results, Tryz.results159, go_sem, z0, z1]) rfl ?_
          exact ⟨hmF, Or.inr ⟨(nd, j + 1, d), _, HF.out, rfl, hrF, HPH.out⟩⟩
    · have h8 : ¬ (8 : Int) ≤ (opn : Int) := by omega
      have hb0 := below_box V (.cells #[.nilIface, .int .i64 0] 82)
      have kB : Blk (V.alloc (.cells #[.nilIface, .int .i64 0] 82)) w.heap.size 82 #[.nilIface, .int .i64 0] := by
        have := Blk.new V #[.nilIface, .int .i64 0] 82
        rwa [hszV] at this
      have hBR : w.heap.size ≠ R := by omega
      have hmW : Moves R w (V.alloc (.cells #[.nilIface, .int .i64 0] 82)) := hmV.trans (Moves.of_below hb0)
      have hfo := br_in N hf R s i mb opn deep deep w _ hr hi hs ho hg hl hdp (hrV.keep hb0) hmW hout
      clear hdeep hdp
      go_enter Tryz.func159, Tryz.ntmps159
      go_wp2_with fail
      rw [← hV]
      clear hV
      generalize V.alloc (.cells #[.nilIface, .int .i64 0] 82) = W at *
      refine hfo.mono ?_
      clear hfo
      rintro e w5 ⟨hm5, ⟨pl, n', d', hres, rfl, hr5⟩ | ⟨nd, j, d, r, T, p, hj1, hj2, hres, rfl, hr5, hv, hok, hL, hn⟩⟩
      · have HE : Hid _ := hres
        have hb6 := below_box w5 (.cells #[.nilIface, .int .i64 0] 82)
        have kB6 := (kB.grown hm5 (by simpa using hBR)).alloc (.cells #[.nilIface, .int .i64 0] 82)
        obtain ⟨hmF, hrF, kF⟩ := put_none ((hmW.trans hm5).trans (Moves.of_below hb6)) (Nat.le_refl _) hBR (hr5.keep hb6) kB6
        have d0 := kB6.cell 0
        have d1 := kB6.cell 1
        have g0 := kB6.frozen 0
        have g1 := kB6.frozen 1
        simp at d0 d1
        clear kB6 hres
        go_wp2_with fail
        have z0 := kF.cell 0
        have z1 := kF.cell 1
        simp at z0 z1
        refine bodyPost_ret (v := .tuple #[.agg #[.nilIface, .int .i64 0], .bool false]) (by simp [results, Tryz.results159, go_sem, z0, z1]) rfl ?_
        exact ⟨hmF, Or.inl ⟨pl, n', d', HE.out, rfl, hrF⟩⟩
      · have hWB := kB.lt
        have hWR := hm5.size
        have HE : Hid _ := hres
        have hb6 := below_box w5 (.cells #[.iface T p, .int .i64 (Munch.weightV nd)] 82)
        have kI : Blk (w5.alloc (.cells #[.iface T p, .int .i64 (Munch.weightV nd)] 82)) w5.heap.size 82 #[.iface T p, .int .i64 (Munch.weightV nd)] := Blk.new _ _ _
        have kB6 := (kB.grown hm5 (by simpa using hBR)).alloc (.cells #[.iface T p, .int .i64 (Munch.weightV nd)] 82)
        have hr6 := hr5.keep hb6
        have ht := take_any R s j mb _ _ 41 _ hr6 hj2 hs
        have HO : Hid (TreeOk (w5.alloc (.cells #[.iface T p, .int .i64 (Munch.weightV nd)] 82)) (fun x => W.heap.size ≤ x) r) := hok.keep (keeps_below hb6)
        have hR5 := hr5.lt
        have hRW : R < W.heap.size := by omega
        clear hok hres
        cases hh : Munch.hasAt s j 41 with
        | false =>
          rw [hh] at ht
          have HF : Hid (brR s N i opn deep = .bad j) := by
            show brR s N i opn deep = .bad j
            rw [HE.out, hh]; rfl
          clear hh
          go_wp2_with fail
          refine ht.mono ?_
          clear ht
          rintro e w7 ⟨rfl, hr7, hm7⟩
          replace hr7 : Rs w7 R s j ((opn + 1 : Nat) : Int) (deepD d) mb := by simpa using hr7
          have kB7 := kB6.grown hm7 (by simpa using hBR)
          obtain ⟨hmF, hrF, kF⟩ := put_none (((hmW.trans hm5).trans (Moves.of_below hb6)).trans hm7) (Nat.le_refl _) hBR hr7 kB7
          have d0 := kB7.cell 0
          have d1 := kB7.cell 1
          have g0 := kB7.frozen 0
          have g1 := kB7.frozen 1
          simp at d0 d1
          clear kB7
          go_wp2_with fail
          have z0 := kF.cell 0
          have z1 := kF.cell 1
          simp at z0 z1
          refine bodyPost_ret (v := .tuple #[.agg #[.nilIface, .int .i64 0], .bool false]) (by simp [results, Tryz.results159, go_sem, z0, z1]) rfl ?_
          exact ⟨hmF, Or.inl ⟨j, _, _, HF.out, rfl, hrF⟩⟩
        | true =>
          rw [hh] at ht
          have HF : Hid (brR s N i opn deep = .ok (nd, j + 1, d)) := by
            show brR s N i opn deep = _
            rw [HE.out, hh]; rfl
          clear hh
          go_wp2_with fail
          refine ht.mono ?_
          clear ht
          rintro e w7 ⟨rfl, hr7, hm7⟩
          replace hr7 : Rs w7 R s (j + 1) ((opn + 1 : Nat) : Int) (deepD d) mb := by simpa using hr7
          have e2 : w7.cell? ⟨R, 2, none⟩ = some (.int .i64 ((opn : Int) + 1)) := by
            have := hr7.c2
            rwa [show ((opn + 1 : Nat) : Int) = (opn : Int) + 1 from by omega] at this
          have q2 := hr7.fr 2
          have hr8 := hr7.set2 (opn : Int)
          have hIR : w5.heap.size ≠ R := by omega
          have kI8 := (kI.grown hm7 (by simpa using hIR)).setOther (a := ⟨R, 2, none⟩) hIR (.int .i64 (opn : Int))
          have kB8 := (kB6.grown hm7 (by simpa using hBR)).setOther (a := ⟨R, 2, none⟩) hBR (.int .i64 (opn : Int))
          have hm8 := ((((hmW.trans hm5).trans (Moves.of_below hb6)).trans hm7).set 2 (.int .i64 (opn : Int)))
          have ho8 : TreeOk (w7.setCell ⟨R, 2, none⟩ (.int .i64 (opn : Int))) (fun x => w.heap.size ≤ x ∧ x ≠ w.heap.size) r := by
            have h1 : TreeOk _ (fun x => W.heap.size ≤ x) r := HO.out
            have h2 : TreeOk w7 (fun x => W.heap.size ≤ x) r := h1.keep (hm7.keeps.mono (fun x _ hx => by omega))
            have h3 : TreeOk (w7.setCell ⟨R, 2, none⟩ (.int .i64 (opn : Int))) (fun x => W.heap.size ≤ x) r := h2.keep ((keeps_set w7 ⟨R, 2, none⟩ (.int .i64 (opn : Int))).mono (fun x _ hx => by show x ≠ R; omega))
            exact h3.mono (fun x _ hx => by constructor <;> omega)
          obtain ⟨hmF, hrF, kF, HP⟩ := put_piece (nd := nd) (m := 2 * (j + 1 - i) - 1) (base := w.heap.size) hm8 (Nat.le_refl _) hBR hr8 kB8 hv ho8 hL (by omega) (Munch.weightV nd : Int) rfl
          have HPH : Hid _ := HP
          have i0 : (w7.setCell ⟨R, 2, none⟩ (.int .i64 (opn : Int))).cell? ⟨w5.heap.size, 0, none⟩ = some (.iface T p) := kI8.cell 0
          have i1 : (w7.setCell ⟨R, 2, none⟩ (.int .i64 (opn : Int))).cell? ⟨w5.heap.size, 1, none⟩ = some (.int .i64 (Munch.weightV nd)) := kI8.cell 1
          have d0 : (w7.setCell ⟨R, 2, none⟩ (.int .i64 (opn : Int))).cell? ⟨w.heap.size, 0, none⟩ = some .nilIface := kB8.cell 0
          have d1 : (w7.setCell ⟨R, 2, none⟩ (.int .i64 (opn : Int))).cell? ⟨w.heap.size, 1, none⟩ = some (.int .i64 0) := kB8.cell 1
          have g0 := kB8.frozen 0
          have g1 := kB8.frozen 1
          clear HP ho8 kI8 kB8
          go_wp2_with fail
          have z0 := kF.cell 0
          have z1 := kF.cell 1
          simp at z0 z1
          refine bodyPost_ret (v := .tuple #[.agg #[.iface T p, .int .i64 (Munch.weightV nd)], .bool true]) (by simp [results, Tryz.results159, go_sem, z0, z1]) rfl ?_
          exact ⟨hmF, Or.inr ⟨(nd, j + 1, d), _, HF.out, rfl, hrF, HPH.out⟩⟩
end Go.Proofs.YtkoaeojdlanolaaGreatDoor
