import Derived.Test.YtkoaeojdlanolaaGreatDoorCd04
import Derived.Test.YtkoaeojdlanolaaGreatDoorCa02
/-
  THE DEVELOPERS' READER: atom.
-/
namespace Go.Proofs.YtkoaeojdlanolaaGreatDoor
open Go.RowKit
open Munch (Words Wempty Wbytes Wcat Wany Wall Wnot KeyF Times numText)

/-- What atom answers, with so much fuel. -/
def DAtom (N : Nat) : Prop := ∀ (R : Nat) (s : ByteArray) (i mb opn : Nat) (deep : Option Nat) (w : World), Rs w R s i opn (deepD deep) mb → Signs w mb → i < s.size → s.size ≤ 80 → opn ≤ i → LaidT w → Munch.atomF s N i opn deep ≠ .out →
  Calls Tryz.prog 134 #[.pointer (some ⟨R, 0, none⟩)] w fun e w' => Parsed R s mb opn (Munch.atomF s N i opn deep) (fun x => (x.1, x.2.1, deepD x.2.2)) (fun j => 2 * (j - i) - 1) w e w'

set_option maxHeartbeats 8000000 in
set_option maxRecDepth 100000 in
theorem atom_any (N : Nat) (hf : DForm N) : DAtom (N + 1) := by
  intro R s i mb opn deep w hr hg hi hs ho hl hout
  have hRl := hr.lt
  have hb0 := below_box w (.cells #[.nilIface, .int .i64 0] 82)
  have kB : Blk (w.alloc (.cells #[.nilIface, .int .i64 0] 82)) w.heap.size 82 #[.nilIface, .int .i64 0] := Blk.new _ _ _
  have hr0 := hr.keep hb0
  have hBR : w.heap.size ≠ R := by omega
  have c0 := hr0.c0
  have c1 := hr0.c1
  have hi' : (i : Int) < (s.size : Int) := by omega
  have HA : Hid (Munch.atomF s (N + 1) i opn deep = if s[i].toNat = 46 then .ok (Munch.everyN, i + 1, deep) else if s[i].toNat = 91 then (Munch.setR s N (i + 1)).bind fun x => .ok (x.1, x.2, deep) else if s[i].toNat = 40 then brR s N i opn deep else if s[i].toNat = 92 then (escR s (i + 1)).bind fun x => .ok (x.1, x.2, deep) else .ok (Munch.one s[i], i + 1, deep)) := by
    show Munch.atomF s (N + 1) i opn deep = _
    rw [Munch.atomF_s, dif_pos hi]
    split
    · rfl
    · split
      · rfl
      · split
        · rfl
        · split
          · unfold escR
            split
            · split <;> rfl
            · rfl
          · rfl
  have HOUT : Hid _ := hout
  have hu := UInt8.toNat_lt s[i]
  clear hout
  go_enter Tryz.func134, Tryz.ntmps134
  go_wp2_with fail
  go_quiet (fail)
  have hr1 : Rs ((w.alloc (.cells #[.nilIface, .int .i64 0] 82)).drewN nq) R s i opn (deepD deep) mb := hr0.drewN nq
  have kB1 : Blk ((w.alloc (.cells #[.nilIface, .int .i64 0] 82)).drewN nq) w.heap.size 82 #[.nilIface, .int .i64 0] := kB.drewN nq
  have hm1 : Moves R w ((w.alloc (.cells #[.nilIface, .int .i64 0] 82)).drewN nq) := Moves.of_below (below_drewN hb0 nq)
  have hszB : w.heap.size < ((w.alloc (.cells #[.nilIface, .int .i64 0] 82)).drewN nq).heap.size := kB1.lt
  clear c0 c1 kB hr0 hb0
  by_cases h40 : s[i].toNat = 40
  · have h40' : (s[i].toNat : Int) = 40 := by omega
    have hno : brR s N i opn deep ≠ .out := fun h => HOUT.out (by rw [HA.out, h40]; simpa using h)
    have hca := brackets_any N hf R s i mb opn deep _ hr1 hi hs ho (signs_moves hg hr hm1) (laidT_moves hl hr hm1) hno
    go_wp2_with fail
    refine hca.mono ?_
    clear hca
    rintro e w5 ⟨hm5, ⟨pl, n', d', hres, rfl, hr5⟩ | ⟨⟨nd, j, d⟩, v, hres, rfl, hr5, r, T, p, rfl, hv, hok, hL, hn⟩⟩
    · have HF : Hid (Munch.atomF s (N + 1) i opn deep = .bad pl) := by
        show Munch.atomF s (N + 1) i opn deep = _
        rw [HA.out]; rw [h40]; simpa using hres
      have kB5 := kB1.grown hm5 (by simpa using hBR)
      clear hres
      obtain ⟨hmF, hrF, kF⟩ := put_none (hm1.trans hm5) (Nat.le_refl _) hBR hr5 kB5
      have d0 : w5.cell? ⟨w.heap.size, 0, none⟩ = some .nilIface := kB5.cell 0
      have d1 : w5.cell? ⟨w.heap.size, 1, none⟩ = some (.int .i64 0) := kB5.cell 1
      have g0 := kB5.frozen 0
      have g1 := kB5.frozen 1
      clear kB5
      go_wp2_with fail
      have z0 := kF.cell 0
      have z1 := kF.cell 1
      simp at z0 z1
      refine bodyPost_ret (v := .tuple #[.agg #[.nilIface, .int .i64 0], .bool false]) (by simp [results, Tryz.results134, go_sem, z0, z1]) rfl ?_
      exact ⟨hmF, Or.inl ⟨pl, n', d', HF.out, rfl, hrF⟩⟩
    · have HF : Hid (Munch.atomF s (N + 1) i opn deep = .ok (nd, j, d)) := by
        show Munch.atomF s (N + 1) i opn deep = _
        rw [HA.out]; rw [h40]; simpa using hres
      have kB5 := kB1.grown hm5 (by simpa using hBR)
      have ho5 : TreeOk w5 (fun x => w.heap.size ≤ x ∧ x ≠ w.heap.size) r := hok.mono (fun x _ hx => by constructor <;> omega)
      have hjb := (Munch.bounds s (N + 1)).2.2.2 i opn deep nd j d HF.out
      have hn' : r.n ≤ 2 * (j - i) - 1 := by
        have h9 := hn
        simp only at h9
        omega
      clear hres hok hn
      obtain ⟨hmF, hrF, kF, HP⟩ := put_piece (nd := nd) (m := 2 * (j - i) - 1) (base := w.heap.size) (hm1.trans hm5) (Nat.le_refl _) hBR hr5 kB5 hv ho5 hL hn' (Munch.weightV nd : Int) rfl
      have HPH : Hid _ := HP
      have d0 : w5.cell? ⟨w.heap.size, 0, none⟩ = some .nilIface := kB5.cell 0
      have d1 : w5.cell? ⟨w.heap.size, 1, none⟩ = some (.int .i64 0) := kB5.cell 1
      have g0 := kB5.frozen 0
      have g1 := kB5.frozen 1
      clear HP kB5
      go_wp2_with fail
      have z0 := kF.cell 0
      have z1 := kF.cell 1
      simp at z0 z1
      refine bodyPost_ret (v := .tuple #[.agg #[.iface T p, .int .i64 (Munch.weightV nd : Int)], .bool true]) (by simp [results, Tryz.results134, go_sem, z0, z1]) rfl ?_
      exact ⟨hmF, Or.inr ⟨(nd, j, d), _, HF.out, rfl, hrF, HPH.out⟩⟩
  · have h40' : ¬ (s[i].toNat : Int) = 40 := by omega
    by_cases h91 : s[i].toNat = 91
    · have h91' : (s[i].toNat : Int) = 91 := by omega
      have hno : Munch.setR s N (i + 1) ≠ .out := fun h => HOUT.out (by rw [HA.out, h91, h]; rfl)
      have hca := spansM_any R s i mb N opn (deepD deep) _ hr1 hi hs (laidT_moves hl hr hm1).laid hno
      go_wp2_with fail
      refine hca.mono ?_
      clear hca
      rintro e w5 ⟨hm5, ⟨pl, n', d', hres, rfl, hr5⟩ | ⟨⟨nd, j⟩, v, hres, rfl, hr5, r, T, p, rfl, hv, hok, hL, hn⟩⟩
      · have HF : Hid (Munch.atomF s (N + 1) i opn deep = .bad pl) := by
          show Munch.atomF s (N + 1) i opn deep = _
          rw [HA.out]; rw [h91, hres]; rfl
        have kB5 := kB1.grown hm5 (by simpa using hBR)
        clear hres
        obtain ⟨hmF, hrF, kF⟩ := put_none (hm1.trans hm5) (Nat.le_refl _) hBR hr5 kB5
        have d0 : w5.cell? ⟨w.heap.size, 0, none⟩ = some .nilIface := kB5.cell 0
        have d1 : w5.cell? ⟨w.heap.size, 1, none⟩ = some (.int .i64 0) := kB5.cell 1
        have g0 := kB5.frozen 0
        have g1 := kB5.frozen 1
        clear kB5
        go_wp2_with fail
        have z0 := kF.cell 0
        have z1 := kF.cell 1
        simp at z0 z1
        refine bodyPost_ret (v := .tuple #[.agg #[.nilIface, .int .i64 0], .bool false]) (by simp [results, Tryz.results134, go_sem, z0, z1]) rfl ?_
        exact ⟨hmF, Or.inl ⟨pl, n', d', HF.out, rfl, hrF⟩⟩
      · have HF : Hid (Munch.atomF s (N + 1) i opn deep = .ok (nd, j, deep)) := by
          show Munch.atomF s (N + 1) i opn deep = _
          rw [HA.out]; rw [h91, hres]; rfl
        have kB5 := kB1.grown hm5 (by simpa using hBR)
        have ho5 : TreeOk w5 (fun x => w.heap.size ≤ x ∧ x ≠ w.heap.size) r := hok.mono (fun x _ hx => by constructor <;> omega)
        have hjb := (Munch.bounds s (N + 1)).2.2.2 i opn deep nd j deep HF.out
        have hn' : r.n ≤ 2 * (j - i) - 1 := by
          have h9 := hn
          simp only at h9
          omega
        clear hres hok hn
        obtain ⟨hmF, hrF, kF, HP⟩ := put_piece (nd := nd) (m := 2 * (j - i) - 1) (base := w.heap.size) (hm1.trans hm5) (Nat.le_refl _) hBR hr5 kB5 hv ho5 hL hn' (Munch.weightV nd : Int) rfl
        have HPH : Hid _ := HP
        have d0 : w5.cell? ⟨w.heap.size, 0, none⟩ = some .nilIface := kB5.cell 0
        have d1 : w5.cell? ⟨w.heap.size, 1, none⟩ = some (.int .i64 0) := kB5.cell 1
        have g0 := kB5.frozen 0
        have g1 := kB5.frozen 1
        clear HP kB5
        go_wp2_with fail
        have z0 := kF.cell 0
        have z1 := kF.cell 1
        simp at z0 z1
        refine bodyPost_ret (v := .tuple #[.agg #[.iface T p, .int .i64 (Munch.weightV nd : Int)], .bool true]) (by simp [results, Tryz.results134, go_sem, z0, z1]) rfl ?_
        exact ⟨hmF, Or.inr ⟨(nd, j, deep), _, HF.out, rfl, hrF, HPH.out⟩⟩
    · have h91' : ¬ (s[i].toNat : Int) = 91 := by omega
      have c1' := hr1.c1
      have f1' := hr1.fr 1
      have hw : IntKind.i64.wrap ((i : Int) + 1) = (i : Int) + 1 := by rw [IntKind.wrap_i64]; omega
      have hr4 : Rs (((w.alloc (.cells #[.nilIface, .int .i64 0] 82)).drewN nq).setCell ⟨R, 1, none⟩ (.int .i64 ((i : Int) + 1))) R s (i + 1) opn (deepD deep) mb := by
        have := hr1.set1 (i + 1)
        rwa [show ((i + 1 : Nat) : Int) = (i : Int) + 1 from by omega] at this
      have hm4 := hm1.set 1 (.int .i64 ((i : Int) + 1))
      have kB4 := kB1.setOther (a := ⟨R, 1, none⟩) hBR (.int .i64 ((i : Int) + 1))
      have hl4 := (laidT_moves hl hr hm4).laid
      generalize hW : ((w.alloc (.cells #[.nilIface, .int .i64 0] 82)).drewN nq).setCell ⟨R, 1, none⟩ (.int .i64 ((i : Int) + 1)) = w4 at *
      by_cases h46 : s[i].toNat = 46
      · have h46' : (s[i].toNat : Int) = 46 := by omega
        have HF : Hid (Munch.atomF s (N + 1) i opn deep = .ok (Munch.everyN, i + 1, deep)) := by
          show Munch.atomF s (N + 1) i opn deep = _
          rw [HA.out]; rw [h46]; rfl
        have hsp := span_any 0 255 w4
        go_wp2_with fail
        refine hsp.mono ?_
        clear hsp
        rintro e w5 ⟨f, rfl, hset, hb5⟩
        have hof := ofBytes_any f _ w5 _ hset (hl4.keep hb5)
        obtain ⟨fn, caps, rfl⟩ := hset.notAgg
        clear hset
        go_wp2_with fail
        refine hof.mono ?_
        clear hof
        rintro e w6 ⟨r, T, p, rfl, hv, hrok, hrL, hrn, hb6⟩
        have hb46 := hb5.trans (hb6.mono hb5.size)
        have kB6 := kB4.below hb46 kB4.lt
        have hlt4 := kB4.lt
        have hsz5 := hb5.size
        have ho6 : TreeOk w6 (fun x => w.heap.size ≤ x ∧ x ≠ w.heap.size) r := hrok.mono (fun x _ hx => by constructor <;> omega)
        clear hrok
        obtain ⟨hmF, hrF, kF, HP⟩ := put_piece (nd := Munch.everyN) (m := 2 * (i + 1 - i) - 1) (base := w.heap.size) (hm4.trans (Moves.of_below hb46)) (Nat.le_refl _) hBR (hr4.keep hb46) kB6 hv ho6 (by rw [hrL]; exact lang_span 0 255) (by omega) (1) rfl
        have HPH : Hid _ := HP
        have d0 : w6.cell? ⟨w.heap.size, 0, none⟩ = some .nilIface := kB6.cell 0
        have d1 : w6.cell? ⟨w.heap.size, 1, none⟩ = some (.int .i64 0) := kB6.cell 1
        have g0 := kB6.frozen 0
        have g1 := kB6.frozen 1
        clear HP kB6
        go_wp2_with fail
        have z0 := kF.cell 0
        have z1 := kF.cell 1
        simp at z0 z1
        refine bodyPost_ret (v := .tuple #[.agg #[.iface T p, .int .i64 (1)], .bool true]) (by simp [results, Tryz.results134, go_sem, z0, z1]) rfl ?_
        exact ⟨hmF, Or.inr ⟨(Munch.everyN, i + 1, deep), _, HF.out, rfl, hrF, HPH.out⟩⟩
      · have h46' : ¬ (s[i].toNat : Int) = 46 := by omega
        by_cases h92 : s[i].toNat = 92
        · have h92' : (s[i].toNat : Int) = 92 := by omega
          have hca := escaped_any R s (i + 1) mb opn (deepD deep) w4 hr4 (by omega) hs hl4
          have hm1 := hm4
          have kB1 := kB4
          have hszB := kB4.lt
          skip
          go_wp2_with fail
          refine hca.mono ?_
          clear hca
          rintro e w5 ⟨hm5, ⟨pl, n', d', hres, rfl, hr5⟩ | ⟨⟨nd, j⟩, v, hres, rfl, hr5, r, T, p, rfl, hv, hok, hL, hn⟩⟩
          · have HF : Hid (Munch.atomF s (N + 1) i opn deep = .bad pl) := by
              show Munch.atomF s (N + 1) i opn deep = _
              rw [HA.out]; rw [h92, hres]; rfl
            have kB5 := kB1.grown hm5 (by simpa using hBR)
            clear hres
            obtain ⟨hmF, hrF, kF⟩ := put_none (hm1.trans hm5) (Nat.le_refl _) hBR hr5 kB5
            have d0 : w5.cell? ⟨w.heap.size, 0, none⟩ = some .nilIface := kB5.cell 0
            have d1 : w5.cell? ⟨w.heap.size, 1, none⟩ = some (.int .i64 0) := kB5.cell 1
            have g0 := kB5.frozen 0
            have g1 := kB5.frozen 1
            clear kB5
            go_wp2_with fail
            have z0 := kF.cell 0
            have z1 := kF.cell 1
            simp at z0 z1
            refine bodyPost_ret (v := .tuple #[.agg #[.nilIface, .int .i64 0], .bool false]) (by simp [results, Tryz.results134, go_sem, z0, z1]) rfl ?_
            exact ⟨hmF, Or.inl ⟨pl, n', d', HF.out, rfl, hrF⟩⟩
          · have HF : Hid (Munch.atomF s (N + 1) i opn deep = .ok (nd, j, deep)) := by
              show Munch.atomF s (N + 1) i opn deep = _
              rw [HA.out]; rw [h92, hres]; rfl
            have kB5 := kB1.grown hm5 (by simpa using hBR)
            have ho5 : TreeOk w5 (fun x => w.heap.size ≤ x ∧ x ≠ w.heap.size) r := hok.mono (fun x _ hx => by constructor <;> omega)
            have hjb := (Munch.bounds s (N + 1)).2.2.2 i opn deep nd j deep HF.out
            have hn' : r.n ≤ 2 * (j - i) - 1 := by
              have h9 := hn
              simp only at h9
              omega
            clear hres hok hn
            obtain ⟨hmF, hrF, kF, HP⟩ := put_piece (nd := nd) (m := 2 * (j - i) - 1) (base := w.heap.size) (hm1.trans hm5) (Nat.le_refl _) hBR hr5 kB5 hv ho5 hL hn' (Munch.weightV nd : Int) rfl
            have HPH : Hid _ := HP
            have d0 : w5.cell? ⟨w.heap.size, 0, none⟩ = some .nilIface := kB5.cell 0
            have d1 : w5.cell? ⟨w.heap.size, 1, none⟩ = some (.int .i64 0) := kB5.cell 1
            have g0 := kB5.frozen 0
            have g1 := kB5.frozen 1
            clear HP kB5
            go_wp2_with fail
            have z0 := kF.cell 0
            have z1 := kF.cell 1
            simp at z0 z1
            refine bodyPost_ret (v := .tuple #[.agg #[.iface T p, .int .i64 (Munch.weightV nd : Int)], .bool true]) (by simp [results, Tryz.results134, go_sem, z0, z1]) rfl ?_
            exact ⟨hmF, Or.inr ⟨(nd, j, deep), _, HF.out, rfl, hrF, HPH.out⟩⟩
        · have h92' : ¬ (s[i].toNat : Int) = 92 := by omega
          have HF : Hid (Munch.atomF s (N + 1) i opn deep = .ok (Munch.one s[i], i + 1, deep)) := by
            show Munch.atomF s (N + 1) i opn deep = _
            rw [HA.out]; rw [if_neg h46, if_neg h91, if_neg h40, if_neg h92]
          have hsp := span_any s[i].toNat s[i].toNat w4
          go_wp2_with fail
          refine hsp.mono ?_
          clear hsp
          rintro e w5 ⟨f, rfl, hset, hb5⟩
          have hof := ofBytes_any f _ w5 _ hset (hl4.keep hb5)
          obtain ⟨fn, caps, rfl⟩ := hset.notAgg
          clear hset
          go_wp2_with fail
          refine hof.mono ?_
          clear hof
          rintro e w6 ⟨r, T, p, rfl, hv, hrok, hrL, hrn, hb6⟩
          have hb46 := hb5.trans (hb6.mono hb5.size)
          have kB6 := kB4.below hb46 kB4.lt
          have hlt4 := kB4.lt
          have hsz5 := hb5.size
          have ho6 : TreeOk w6 (fun x => w.heap.size ≤ x ∧ x ≠ w.heap.size) r := hrok.mono (fun x _ hx => by constructor <;> omega)
          clear hrok
          obtain ⟨hmF, hrF, kF, HP⟩ := put_piece (nd := Munch.one s[i]) (m := 2 * (i + 1 - i) - 1) (base := w.heap.size) (hm4.trans (Moves.of_below hb46)) (Nat.le_refl _) hBR (hr4.keep hb46) kB6 hv ho6 (by rw [hrL]; exact lang_span _ _) (by omega) (1) rfl
          have HPH : Hid _ := HP
          have d0 : w6.cell? ⟨w.heap.size, 0, none⟩ = some .nilIface := kB6.cell 0
          have d1 : w6.cell? ⟨w.heap.size, 1, none⟩ = some (.int .i64 0) := kB6.cell 1
          have g0 := kB6.frozen 0
          have g1 := kB6.frozen 1
          clear HP kB6
          go_wp2_with fail
          have z0 := kF.cell 0
          have z1 := kF.cell 1
          simp at z0 z1
          refine bodyPost_ret (v := .tuple #[.agg #[.iface T p, .int .i64 (1)], .bool true]) (by simp [results, Tryz.results134, go_sem, z0, z1]) rfl ?_
          exact ⟨hmF, Or.inr ⟨(Munch.one s[i], i + 1, deep), _, HF.out, rfl, hrF, HPH.out⟩⟩
end Go.Proofs.YtkoaeojdlanolaaGreatDoor
/-
  THE DEVELOPERS' READER: piece.
-/
namespace Go.Proofs.YtkoaeojdlanolaaGreatDoor
open Go.RowKit
open Munch (Words Wempty Wbytes Wcat Wany Wall Wnot KeyF Times numText)

/-- What piece answers, with so much fuel. -/
def DPiece (N : Nat) : Prop := ∀ (R : Nat) (s : ByteArray) (i mb opn : Nat) (deep : Option Nat) (w : World), Rs w R s i opn (deepD deep) mb → Signs w mb → i < s.size → s.size ≤ 80 → opn ≤ i → LaidT w → Munch.pieceF s N i opn deep ≠ .out →
  Calls Tryz.prog 117 #[.pointer (some ⟨R, 0, none⟩)] w fun e w' => Parsed R s mb opn (Munch.pieceF s N i opn deep) (fun x => (x.1, x.2.1, deepD x.2.2)) (fun j => 2 * (j - i) - 1) w e w'

theorem tail_none (s : ByteArray) (nd : Munch.Node) (j : Nat) (h : ∀ c, c = 42 ∨ c = 43 ∨ c = 63 ∨ c = 123 → Munch.hasAt s j c = false) : Munch.tail s nd j = .ok (nd, j) := by
  unfold Munch.tail
  rw [h 42 (by simp), h 43 (by simp), h 63 (by simp), h 123 (by simp)]; rfl
theorem hasAt_one (s : ByteArray) (j a b : Nat) (h : Munch.hasAt s j a = true) (hne : a ≠ b) : Munch.hasAt s j b = false := by
  have hj := Munch.hasAt_true _ _ _ h
  rw [Munch.hasAt_lt _ _ _ hj] at h ⊢
  simp at h ⊢
  omega
theorem tail_star (s : ByteArray) (nd : Munch.Node) (j : Nat) (h : Munch.hasAt s j 42 = true) : Munch.tail s nd j = .ok (.piece nd 0 (-1), j + 1) := by
  unfold Munch.tail; rw [h]; rfl
theorem tail_plus (s : ByteArray) (nd : Munch.Node) (j : Nat) (h : Munch.hasAt s j 43 = true) : Munch.tail s nd j = .ok (.piece nd 1 (-1), j + 1) := by
  unfold Munch.tail; rw [hasAt_one s j 43 42 h (by decide), h]; rfl
theorem tail_question (s : ByteArray) (nd : Munch.Node) (j : Nat) (h : Munch.hasAt s j 63 = true) : Munch.tail s nd j = .ok (.piece nd 0 1, j + 1) := by
  unfold Munch.tail; rw [hasAt_one s j 63 42 h (by decide), hasAt_one s j 63 43 h (by decide), h]; rfl
theorem tail_counts (s : ByteArray) (nd : Munch.Node) (j : Nat) (h : Munch.hasAt s j 123 = true) : Munch.tail s nd j = (Munch.counts s (j + 1)).bind fun x => .ok (.piece nd x.1 x.2, j + 5) := by
  unfold Munch.tail; rw [hasAt_one s j 123 42 h (by decide), hasAt_one s j 123 43 h (by decide), hasAt_one s j 123 63 h (by decide), h]; rfl

set_option maxHeartbeats 8000000 in
set_option maxRecDepth 100000 in
theorem piece_any (N : Nat) (ha : DAtom N) : DPiece (N + 1) := by
  intro R s i mb opn deep w hr hg hi hs ho hl hout
  have hRl := hr.lt
  obtain ⟨W, hWe⟩ : ∃ W, W = w.alloc (.cells #[.nilIface, .int .i64 0] 82) := ⟨_, rfl⟩
  have hb0 : Below w.heap.size w W := by rw [hWe]; exact below_box w _
  have kB : Blk W w.heap.size 82 #[.nilIface, .int .i64 0] := by rw [hWe]; exact Blk.new _ _ _
  have hrW := hr.keep hb0
  have hmW : Moves R w W := Moves.of_below hb0
  have hBR : w.heap.size ≠ R := by omega
  have hBW := kB.lt
  have hRW : R < W.heap.size := by omega
  have HP0 : Hid (Munch.pieceF s (N + 1) i opn deep = (Munch.atomF s N i opn deep).bind fun x => (Munch.tail s x.1 x.2.1).bind fun y => .ok (y.1, y.2, x.2.2)) := rfl
  have hno : Munch.atomF s N i opn deep ≠ .out := fun h => hout (by rw [HP0.out, h]; rfl)
  have hat := ha R s i mb opn deep W hrW (signs_moves hg hr hmW) hi hs ho (laidT_moves hl hr hmW) hno
  have HOUT : Hid _ := hout
  clear hout hno
  go_enter Tryz.func117, Tryz.ntmps117
  go_wp2_with fail
  rw [← hWe]
  clear hWe
  refine hat.mono ?_
  clear hat
  rintro e w5 ⟨hm5, ⟨pl, n', d', hres, rfl, hr5⟩ | ⟨⟨nd, j, d⟩, v, hres, rfl, hr5, r, T, p, rfl, hv, hok, hL, hn⟩⟩
  · have HF : Hid (Munch.pieceF s (N + 1) i opn deep = .bad pl) := by
      show Munch.pieceF s (N + 1) i opn deep = _
      rw [HP0.out, hres]; rfl
    have hb6 := below_box w5 (.cells #[.nilIface, .int .i64 0] 82)
    have kA6 : Blk (w5.alloc (.cells #[.nilIface, .int .i64 0] 82)) w5.heap.size 82 #[.nilIface, .int .i64 0] := Blk.new _ _ _
    have kB6 := (kB.grown hm5 (by simpa using hBR)).alloc (.cells #[.nilIface, .int .i64 0] 82)
    obtain ⟨hmF, hrF, kF⟩ := put_none ((hmW.trans hm5).trans (Moves.of_below hb6)) (Nat.le_refl _) hBR (hr5.keep hb6) kB6
    have d0 := kB6.cell 0
    have d1 := kB6.cell 1
    have g0 := kB6.frozen 0
    have g1 := kB6.frozen 1
    have a0 := kA6.cell 0
    have a1 := kA6.cell 1
    simp at d0 d1 a0 a1
    clear kB6 kA6 hres
    go_wp2_with fail
    have z0 := kF.cell 0
    have z1 := kF.cell 1
    simp at z0 z1
    refine bodyPost_ret (v := .tuple #[.agg #[.nilIface, .int .i64 0], .bool false]) (by simp [results, Tryz.results117, go_sem, z0, z1]) rfl ?_
    exact ⟨hmF, Or.inl ⟨pl, n', d', HF.out, rfl, hrF⟩⟩
  · have hjb := (Munch.bounds s N).2.2.2 i opn deep nd j d hres
    have hcan := (Munch.heavies s N).2.2.2 i opn deep nd j d hres
    have hwb : 9 * Munch.weightV nd ≤ 9223372036854775807 := by
      have := hcan.bound (by omega)
      omega
    have HT : Hid (Munch.pieceF s (N + 1) i opn deep = (Munch.tail s nd j).bind fun y => .ok (y.1, y.2, d)) := by
      show Munch.pieceF s (N + 1) i opn deep = _
      rw [HP0.out, hres]; rfl
    clear hres hcan HP0
    have hb6 := below_box w5 (.cells #[.iface T p, .int .i64 (Munch.weightV nd)] 82)
    have kA6 : Blk (w5.alloc (.cells #[.iface T p, .int .i64 (Munch.weightV nd)] 82)) w5.heap.size 82 #[.iface T p, .int .i64 (Munch.weightV nd)] := Blk.new _ _ _
    have kB6 := (kB.grown hm5 (by simpa using hBR)).alloc (.cells #[.iface T p, .int .i64 (Munch.weightV nd)] 82)
    have hr6 := hr5.keep hb6
    have hen := ended_any R s j mb opn (deepD d) _ hr6
    have hR5 := hr5.lt
    have hAR : w5.heap.size ≠ R := by omega
    have hW5 := hm5.size
    have HFACT : Hid (∀ n1, ∃ W7, W7 = (w5.alloc (.cells #[.iface T p, .int .i64 (Munch.weightV nd)] 82)).drewN n1 ∧ Moves R w W7 ∧ Rs W7 R s j opn (deepD d) mb ∧ Blk W7 w.heap.size 82 #[.nilIface, .int .i64 0] ∧ Blk W7 w5.heap.size 82 #[.iface T p, .int .i64 (Munch.weightV nd)] ∧ TreeOk W7 (fun x => w.heap.size ≤ x ∧ x ≠ w.heap.size) r ∧ PieceOk W7 W.heap.size nd (2 * (j - i) - 1) (.agg #[.iface T p, .int .i64 (Munch.weightV nd)]) ∧ W.heap.size ≤ W7.heap.size ∧ LaidT W7 ∧ Signs W7 mb) := by
      intro n1
      have hm7 : Moves R w ((w5.alloc (.cells #[.iface T p, .int .i64 (Munch.weightV nd)] 82)).drewN n1) := (hmW.trans hm5).trans (Moves.of_below (below_drewN hb6 n1))
      have ho7 : TreeOk ((w5.alloc (.cells #[.iface T p, .int .i64 (Munch.weightV nd)] 82)).drewN n1) (fun x => W.heap.size ≤ x) r := hok.keep (keeps_below (below_drewN hb6 n1))
      refine ⟨_, rfl, hm7, hr6.drewN n1, kB6.drewN n1, kA6.drewN n1, ho7.mono (fun x _ hx => by constructor <;> omega), ⟨r, T, p, rfl, hv, ho7, hL, hn⟩, ?_, laidT_moves hl hr hm7, signs_moves hg hr hm7⟩
      show W.heap.size ≤ (w5.alloc _).heap.size
      simp; omega
    clear kA6 kB6 hr6 hok hb6
    by_cases hjl : j < s.size
    · rw [show decide (j = s.size) = false from by simp; omega] at hen
      go_wp2_with fail
      refine hen.mono ?_
      clear hen
      rintro e W6 ⟨rfl, n1, rfl⟩
      obtain ⟨W7, hW7e, hm7, hr7, kB7, kA7, ho7, hP7, hW7, hl7, hg7⟩ := HFACT.out n1
      rw [← hW7e]
      clear hW7e HFACT
      have hj' : (j : Int) < (s.size : Int) := by omega
      by_cases h42 : s[j].toNat = 42
      · have hlk : ∀ n, (Instr.lookup 77 (.map (some mb)) (.int .u8 s[j].toNat) true).run Tryz.prog (W7.drewN n) = .ok (.tuple #[.func (.func 53) #[] #[], .bool true]) (W7.drewN n) := by
          intro n
          have := sign_look (W7.drewN n) mb s[j].toNat hg7 (UInt8.toNat_lt _)
          rwa [show signV s[j].toNat = .tuple #[.func (.func 53) #[] #[], .bool true] from by rw [h42]; rfl] at this
        have c0 := hr7.c0
        have c1 := hr7.c1
        have c4 := hr7.c4
        have HC : Hid (s[j].toNat = 42) := h42
        clear h42
        go_wp2_with fail
        go_quiet (fail)
        have hw : IntKind.i64.wrap ((j : Int) + 1) = (j : Int) + 1 := by rw [IntKind.wrap_i64]; omega
        have hr7n := hr7.drewN nq
        have c1' := hr7n.c1
        have f1' := hr7n.fr 1
        obtain ⟨W8, hW8e⟩ : ∃ W8, (W7.drewN nq).setCell ⟨R, 1, none⟩ (.int .i64 ((j : Int) + 1)) = W8 := ⟨_, rfl⟩
        have hr8 : Rs W8 R s (j + 1) opn (deepD d) mb := by
          rw [← hW8e]
          have := hr7n.set1 (j + 1)
          rwa [show ((j + 1 : Nat) : Int) = (j : Int) + 1 from by omega] at this
        have hm78 : Moves R W7 W8 := by rw [← hW8e]; exact (Moves.of_below (below_drewN' W7 nq)).set 1 _
        have hm8 := hm7.trans hm78
        have kB8 : Blk W8 w.heap.size 82 #[.nilIface, .int .i64 0] := kB7.grown hm78 (by simpa using hBR)
        have kA8 : Blk W8 w5.heap.size 82 #[.iface T p, .int .i64 (Munch.weightV nd)] := kA7.grown hm78 (by simpa using hAR)
        have hP8 : PieceOk W8 W.heap.size nd (2 * (j - i) - 1) (.agg #[.iface T p, .int .i64 (Munch.weightV nd)]) := hP7.keep hm78 hRW
        have hW8 : W.heap.size ≤ W8.heap.size := Nat.le_trans hW7 hm78.size
        have hl8 : LaidT W8 := laidT_moves hl7 hr7 hm78
        have a08 : W8.cell? ⟨w5.heap.size, 0, none⟩ = some (.iface T p) := kA8.cell 0
        have a18 : W8.cell? ⟨w5.heap.size, 1, none⟩ = some (.int .i64 (Munch.weightV nd)) := kA8.cell 1
        have HF : Hid (Munch.pieceF s (N + 1) i opn deep = .ok (.piece nd 0 (-1), j + 1, d)) := by
          show Munch.pieceF s (N + 1) i opn deep = _
          rw [HT.out, tail_star s nd j (by rw [Munch.hasAt_lt _ _ _ hjl]; simpa using HC.out)]; rfl
        have hca := star_any R s (j + 1) mb W.heap.size (2 * (j - i) - 1) opn (deepD d) nd _ W8 hr8 hP8 (by omega) hW8 hl8
        have hent := enters_of (f := 53) Tryz.func53 (by kernel_rfl) (by kernel_rfl)
        go_wp2_with fail
        refine hca.mono ?_
        clear hca
        rintro e w9 ⟨hm9, v9, rfl, hr9, r9, T9, p9, rfl, hv9, hok9, hL9, hn9⟩
        have kB9 := kB8.grown hm9 (by simpa using hBR)
        have ho9 : TreeOk w9 (fun x => w.heap.size ≤ x ∧ x ≠ w.heap.size) r9 := hok9.mono (fun x _ hx => by constructor <;> omega)
        obtain ⟨hmF, hrF, kF, HP⟩ := put_piece (nd := .piece nd 0 (-1)) (m := 2 * (j + 1 - i) - 1) (base := w.heap.size) (hm8.trans hm9) (Nat.le_refl _) hBR hr9 kB9 hv9 ho9 hL9 (by omega) (Munch.weightV (.piece nd 0 (-1)) : Int) rfl
        have HPH : Hid _ := HP
        have d0 : w9.cell? ⟨w.heap.size, 0, none⟩ = some .nilIface := kB9.cell 0
        have d1 : w9.cell? ⟨w.heap.size, 1, none⟩ = some (.int .i64 0) := kB9.cell 1
        have g0 := kB9.frozen 0
        have g1 := kB9.frozen 1
        clear HP kB9 hok9 ho9
        go_wp2_with fail
        have z0 := kF.cell 0
        have z1 := kF.cell 1
        simp at z0 z1
        refine bodyPost_ret (v := .tuple #[.agg #[.iface T9 p9, .int .i64 (Munch.weightV (.piece nd 0 (-1)) : Int)], .bool true]) (by simp [results, Tryz.results117, go_sem, z0, z1]) rfl ?_
        exact ⟨hmF, Or.inr ⟨(.piece nd 0 (-1), j + 1, d), _, HF.out, rfl, hrF, HPH.out⟩⟩
      · by_cases h43 : s[j].toNat = 43
        · have hlk : ∀ n, (Instr.lookup 77 (.map (some mb)) (.int .u8 s[j].toNat) true).run Tryz.prog (W7.drewN n) = .ok (.tuple #[.func (.func 54) #[] #[], .bool true]) (W7.drewN n) := by
            intro n
            have := sign_look (W7.drewN n) mb s[j].toNat hg7 (UInt8.toNat_lt _)
            rwa [show signV s[j].toNat = .tuple #[.func (.func 54) #[] #[], .bool true] from by rw [h43]; rfl] at this
          have c0 := hr7.c0
          have c1 := hr7.c1
          have c4 := hr7.c4
          have HC : Hid (s[j].toNat = 43) := h43
          clear h43
          go_wp2_with fail
          go_quiet (fail)
          have hw : IntKind.i64.wrap ((j : Int) + 1) = (j : Int) + 1 := by rw [IntKind.wrap_i64]; omega
          have hr7n := hr7.drewN nq
          have c1' := hr7n.c1
          have f1' := hr7n.fr 1
          obtain ⟨W8, hW8e⟩ : ∃ W8, (W7.drewN nq).setCell ⟨R, 1, none⟩ (.int .i64 ((j : Int) + 1)) = W8 := ⟨_, rfl⟩
          have hr8 : Rs W8 R s (j + 1) opn (deepD d) mb := by
            rw [← hW8e]
            have := hr7n.set1 (j + 1)
            rwa [show ((j + 1 : Nat) : Int) = (j : Int) + 1 from by omega] at this
          have hm78 : Moves R W7 W8 := by rw [← hW8e]; exact (Moves.of_below (below_drewN' W7 nq)).set 1 _
          have hm8 := hm7.trans hm78
          have kB8 : Blk W8 w.heap.size 82 #[.nilIface, .int .i64 0] := kB7.grown hm78 (by simpa using hBR)
          have kA8 : Blk W8 w5.heap.size 82 #[.iface T p, .int .i64 (Munch.weightV nd)] := kA7.grown hm78 (by simpa using hAR)
          have hP8 : PieceOk W8 W.heap.size nd (2 * (j - i) - 1) (.agg #[.iface T p, .int .i64 (Munch.weightV nd)]) := hP7.keep hm78 hRW
          have hW8 : W.heap.size ≤ W8.heap.size := Nat.le_trans hW7 hm78.size
          have hl8 : LaidT W8 := laidT_moves hl7 hr7 hm78
          have a08 : W8.cell? ⟨w5.heap.size, 0, none⟩ = some (.iface T p) := kA8.cell 0
          have a18 : W8.cell? ⟨w5.heap.size, 1, none⟩ = some (.int .i64 (Munch.weightV nd)) := kA8.cell 1
          have HF : Hid (Munch.pieceF s (N + 1) i opn deep = .ok (.piece nd 1 (-1), j + 1, d)) := by
            show Munch.pieceF s (N + 1) i opn deep = _
            rw [HT.out, tail_plus s nd j (by rw [Munch.hasAt_lt _ _ _ hjl]; simpa using HC.out)]; rfl
          have hca := plus_any R s (j + 1) mb W.heap.size (2 * (j - i) - 1) opn (deepD d) nd _ W8 hr8 hP8 (by omega) hW8 hl8
          have hent := enters_of (f := 54) Tryz.func54 (by kernel_rfl) (by kernel_rfl)
          go_wp2_with fail
          refine hca.mono ?_
          clear hca
          rintro e w9 ⟨hm9, v9, rfl, hr9, r9, T9, p9, rfl, hv9, hok9, hL9, hn9⟩
          have kB9 := kB8.grown hm9 (by simpa using hBR)
          have ho9 : TreeOk w9 (fun x => w.heap.size ≤ x ∧ x ≠ w.heap.size) r9 := hok9.mono (fun x _ hx => by constructor <;> omega)
          obtain ⟨hmF, hrF, kF, HP⟩ := put_piece (nd := .piece nd 1 (-1)) (m := 2 * (j + 1 - i) - 1) (base := w.heap.size) (hm8.trans hm9) (Nat.le_refl _) hBR hr9 kB9 hv9 ho9 hL9 (by omega) (Munch.weightV (.piece nd 1 (-1)) : Int) rfl
          have HPH : Hid _ := HP
          have d0 : w9.cell? ⟨w.heap.size, 0, none⟩ = some .nilIface := kB9.cell 0
          have d1 : w9.cell? ⟨w.heap.size, 1, none⟩ = some (.int .i64 0) := kB9.cell 1
          have g0 := kB9.frozen 0
          have g1 := kB9.frozen 1
          clear HP kB9 hok9 ho9
          go_wp2_with fail
          have z0 := kF.cell 0
          have z1 := kF.cell 1
          simp at z0 z1
          refine bodyPost_ret (v := .tuple #[.agg #[.iface T9 p9, .int .i64 (Munch.weightV (.piece nd 1 (-1)) : Int)], .bool true]) (by simp [results, Tryz.results117, go_sem, z0, z1]) rfl ?_
          exact ⟨hmF, Or.inr ⟨(.piece nd 1 (-1), j + 1, d), _, HF.out, rfl, hrF, HPH.out⟩⟩
        · by_cases h63 : s[j].toNat = 63
          · have hlk : ∀ n, (Instr.lookup 77 (.map (some mb)) (.int .u8 s[j].toNat) true).run Tryz.prog (W7.drewN n) = .ok (.tuple #[.func (.func 55) #[] #[], .bool true]) (W7.drewN n) := by
              intro n
              have := sign_look (W7.drewN n) mb s[j].toNat hg7 (UInt8.toNat_lt _)
              rwa [show signV s[j].toNat = .tuple #[.func (.func 55) #[] #[], .bool true] from by rw [h63]; rfl] at this
            have c0 := hr7.c0
            have c1 := hr7.c1
            have c4 := hr7.c4
            have HC : Hid (s[j].toNat = 63) := h63
            clear h63
            go_wp2_with fail
            go_quiet (fail)
            have hw : IntKind.i64.wrap ((j : Int) + 1) = (j : Int) + 1 := by rw [IntKind.wrap_i64]; omega
            have hr7n := hr7.drewN nq
            have c1' := hr7n.c1
            have f1' := hr7n.fr 1
            obtain ⟨W8, hW8e⟩ : ∃ W8, (W7.drewN nq).setCell ⟨R, 1, none⟩ (.int .i64 ((j : Int) + 1)) = W8 := ⟨_, rfl⟩
            have hr8 : Rs W8 R s (j + 1) opn (deepD d) mb := by
              rw [← hW8e]
              have := hr7n.set1 (j + 1)
              rwa [show ((j + 1 : Nat) : Int) = (j : Int) + 1 from by omega] at this
            have hm78 : Moves R W7 W8 := by rw [← hW8e]; exact (Moves.of_below (below_drewN' W7 nq)).set 1 _
            have hm8 := hm7.trans hm78
            have kB8 : Blk W8 w.heap.size 82 #[.nilIface, .int .i64 0] := kB7.grown hm78 (by simpa using hBR)
            have kA8 : Blk W8 w5.heap.size 82 #[.iface T p, .int .i64 (Munch.weightV nd)] := kA7.grown hm78 (by simpa using hAR)
            have hP8 : PieceOk W8 W.heap.size nd (2 * (j - i) - 1) (.agg #[.iface T p, .int .i64 (Munch.weightV nd)]) := hP7.keep hm78 hRW
            have hW8 : W.heap.size ≤ W8.heap.size := Nat.le_trans hW7 hm78.size
            have hl8 : LaidT W8 := laidT_moves hl7 hr7 hm78
            have a08 : W8.cell? ⟨w5.heap.size, 0, none⟩ = some (.iface T p) := kA8.cell 0
            have a18 : W8.cell? ⟨w5.heap.size, 1, none⟩ = some (.int .i64 (Munch.weightV nd)) := kA8.cell 1
            have HF : Hid (Munch.pieceF s (N + 1) i opn deep = .ok (.piece nd 0 1, j + 1, d)) := by
              show Munch.pieceF s (N + 1) i opn deep = _
              rw [HT.out, tail_question s nd j (by rw [Munch.hasAt_lt _ _ _ hjl]; simpa using HC.out)]; rfl
            have hca := question_any R s (j + 1) mb W.heap.size (2 * (j - i) - 1) opn (deepD d) nd _ W8 hr8 hP8 (by omega) hW8 hl8
            have hent := enters_of (f := 55) Tryz.func55 (by kernel_rfl) (by kernel_rfl)
            go_wp2_with fail
            refine hca.mono ?_
            clear hca
            rintro e w9 ⟨hm9, v9, rfl, hr9, r9, T9, p9, rfl, hv9, hok9, hL9, hn9⟩
            have kB9 := kB8.grown hm9 (by simpa using hBR)
            have ho9 : TreeOk w9 (fun x => w.heap.size ≤ x ∧ x ≠ w.heap.size) r9 := hok9.mono (fun x _ hx => by constructor <;> omega)
            obtain ⟨hmF, hrF, kF, HP⟩ := put_piece (nd := .piece nd 0 1) (m := 2 * (j + 1 - i) - 1) (base := w.heap.size) (hm8.trans hm9) (Nat.le_refl _) hBR hr9 kB9 hv9 ho9 hL9 (by omega) (Munch.weightV (.piece nd 0 1) : Int) rfl
            have HPH : Hid _ := HP
            have d0 : w9.cell? ⟨w.heap.size, 0, none⟩ = some .nilIface := kB9.cell 0
            have d1 : w9.cell? ⟨w.heap.size, 1, none⟩ = some (.int .i64 0) := kB9.cell 1
            have g0 := kB9.frozen 0
            have g1 := kB9.frozen 1
            clear HP kB9 hok9 ho9
            go_wp2_with fail
            have z0 := kF.cell 0
            have z1 := kF.cell 1
            simp at z0 z1
            refine bodyPost_ret (v := .tuple #[.agg #[.iface T9 p9, .int .i64 (Munch.weightV (.piece nd 0 1) : Int)], .bool true]) (by simp [results, Tryz.results117, go_sem, z0, z1]) rfl ?_
            exact ⟨hmF, Or.inr ⟨(.piece nd 0 1, j + 1, d), _, HF.out, rfl, hrF, HPH.out⟩⟩
          · by_cases h123 : s[j].toNat = 123
            · have hlk : ∀ n, (Instr.lookup 77 (.map (some mb)) (.int .u8 s[j].toNat) true).run Tryz.prog (W7.drewN n) = .ok (.tuple #[.func (.func 56) #[] #[], .bool true]) (W7.drewN n) := by
                intro n
                have := sign_look (W7.drewN n) mb s[j].toNat hg7 (UInt8.toNat_lt _)
                rwa [show signV s[j].toNat = .tuple #[.func (.func 56) #[] #[], .bool true] from by rw [h123]; rfl] at this
              have c0 := hr7.c0
              have c1 := hr7.c1
              have c4 := hr7.c4
              have HC : Hid (s[j].toNat = 123) := h123
              clear h123
              go_wp2_with fail
              go_quiet (fail)
              have hw : IntKind.i64.wrap ((j : Int) + 1) = (j : Int) + 1 := by rw [IntKind.wrap_i64]; omega
              have hr7n := hr7.drewN nq
              have c1' := hr7n.c1
              have f1' := hr7n.fr 1
              obtain ⟨W8, hW8e⟩ : ∃ W8, (W7.drewN nq).setCell ⟨R, 1, none⟩ (.int .i64 ((j : Int) + 1)) = W8 := ⟨_, rfl⟩
              have hr8 : Rs W8 R s (j + 1) opn (deepD d) mb := by
                rw [← hW8e]
                have := hr7n.set1 (j + 1)
                rwa [show ((j + 1 : Nat) : Int) = (j : Int) + 1 from by omega] at this
              have hm78 : Moves R W7 W8 := by rw [← hW8e]; exact (Moves.of_below (below_drewN' W7 nq)).set 1 _
              have hm8 := hm7.trans hm78
              have kB8 : Blk W8 w.heap.size 82 #[.nilIface, .int .i64 0] := kB7.grown hm78 (by simpa using hBR)
              have kA8 : Blk W8 w5.heap.size 82 #[.iface T p, .int .i64 (Munch.weightV nd)] := kA7.grown hm78 (by simpa using hAR)
              have hP8 : PieceOk W8 W.heap.size nd (2 * (j - i) - 1) (.agg #[.iface T p, .int .i64 (Munch.weightV nd)]) := hP7.keep hm78 hRW
              have hW8 : W.heap.size ≤ W8.heap.size := Nat.le_trans hW7 hm78.size
              have hl8 : LaidT W8 := laidT_moves hl7 hr7 hm78
              have a08 : W8.cell? ⟨w5.heap.size, 0, none⟩ = some (.iface T p) := kA8.cell 0
              have a18 : W8.cell? ⟨w5.heap.size, 1, none⟩ = some (.int .i64 (Munch.weightV nd)) := kA8.cell 1
              have HTC : Hid (Munch.pieceF s (N + 1) i opn deep = ((Munch.counts s (j + 1)).bind fun x => .ok (.piece nd x.1 x.2, j + 5)).bind fun y => .ok (y.1, y.2, d)) := by
                show Munch.pieceF s (N + 1) i opn deep = _
                rw [HT.out, tail_counts s nd j (by rw [Munch.hasAt_lt _ _ _ hjl]; simpa using HC.out)]
              have hca := counts_any R s (j + 1) mb W.heap.size (2 * (j - i) - 1) opn (deepD d) nd _ W8 hr8 (by omega) hs hP8 (by omega) hW8 hRW hl8 hwb
              go_wp2_with fail
              refine hca.mono ?_
              clear hca
              rintro e w9 ⟨hm9, ⟨pl, hres, rfl, hr9⟩ | ⟨x, v9, hres, rfl, hr9, r9, T9, p9, rfl, hv9, hok9, hL9, hn9⟩⟩
              · have HF : Hid (Munch.pieceF s (N + 1) i opn deep = .bad pl) := by
                  show Munch.pieceF s (N + 1) i opn deep = _
                  rw [HTC.out, hres]; rfl
                have kB9 := kB8.grown hm9 (by simpa using hBR)
                obtain ⟨hmF, hrF, kF⟩ := put_none (hm8.trans hm9) (Nat.le_refl _) hBR hr9 kB9
                have d0 : w9.cell? ⟨w.heap.size, 0, none⟩ = some .nilIface := kB9.cell 0
                have d1 : w9.cell? ⟨w.heap.size, 1, none⟩ = some (.int .i64 0) := kB9.cell 1
                have g0 := kB9.frozen 0
                have g1 := kB9.frozen 1
                clear kB9 hres
                go_wp2_with fail
                have z0 := kF.cell 0
                have z1 := kF.cell 1
                simp at z0 z1
                refine bodyPost_ret (v := .tuple #[.agg #[.nilIface, .int .i64 0], .bool false]) (by simp [results, Tryz.results117, go_sem, z0, z1]) rfl ?_
                exact ⟨hmF, Or.inl ⟨pl, _, _, HF.out, rfl, hrF⟩⟩
              · have HF : Hid (Munch.pieceF s (N + 1) i opn deep = .ok (.piece nd x.1 x.2, j + 5, d)) := by
                  show Munch.pieceF s (N + 1) i opn deep = _
                  rw [HTC.out, hres]; rfl
                have kB9 := kB8.grown hm9 (by simpa using hBR)
                have ho9 : TreeOk w9 (fun x => w.heap.size ≤ x ∧ x ≠ w.heap.size) r9 := hok9.mono (fun x _ hx => by constructor <;> omega)
                obtain ⟨hmF, hrF, kF, HP⟩ := put_piece (nd := .piece nd x.1 x.2) (m := 2 * (j + 5 - i) - 1) (base := w.heap.size) (hm8.trans hm9) (Nat.le_refl _) hBR hr9 kB9 hv9 ho9 hL9 (by omega) (Munch.weightV (.piece nd x.1 x.2) : Int) rfl
                have HPH : Hid _ := HP
                have d0 : w9.cell? ⟨w.heap.size, 0, none⟩ = some .nilIface := kB9.cell 0
                have d1 : w9.cell? ⟨w.heap.size, 1, none⟩ = some (.int .i64 0) := kB9.cell 1
                have g0 := kB9.frozen 0
                have g1 := kB9.frozen 1
                clear HP kB9 hok9 ho9 hres
                go_wp2_with fail
                have z0 := kF.cell 0
                have z1 := kF.cell 1
                simp at z0 z1
                refine bodyPost_ret (v := .tuple #[.agg #[.iface T9 p9, .int .i64 (Munch.weightV (.piece nd x.1 x.2) : Int)], .bool true]) (by simp [results, Tryz.results117, go_sem, z0, z1]) rfl ?_
                exact ⟨hmF, Or.inr ⟨(.piece nd x.1 x.2, j + 5, d), _, HF.out, rfl, hrF, HPH.out⟩⟩
            · have hlk : ∀ n, (Instr.lookup 77 (.map (some mb)) (.int .u8 s[j].toNat) true).run Tryz.prog (W7.drewN n) = .ok (.tuple #[.nilFunc, .bool false]) (W7.drewN n) := by
                intro n
                have := sign_look (W7.drewN n) mb s[j].toNat hg7 (UInt8.toNat_lt _)
                rwa [show signV s[j].toNat = .tuple #[.nilFunc, .bool false] from by simp [signV, h42, h43, h63, h123]] at this
              have c0 := hr7.c0
              have c1 := hr7.c1
              have c4 := hr7.c4
              go_wp2_with fail
              go_quiet (fail)
              replace hm7 := hm7.trans (Moves.of_below (below_drewN' W7 nq))
              replace hr7 := hr7.drewN nq
              replace kB7 := kB7.drewN nq
              replace kA7 := kA7.drewN nq
              replace ho7 : TreeOk (W7.drewN nq) (fun x => w.heap.size ≤ x ∧ x ≠ w.heap.size) r := ho7.keep (keeps_below (below_drewN' W7 nq))
              clear hlk c0 c1 c4 hP7 hl7 hg7 hW7
              have HF : Hid (Munch.pieceF s (N + 1) i opn deep = .ok (nd, j, d)) := by
                show Munch.pieceF s (N + 1) i opn deep = _
                rw [HT.out, tail_none s nd j (fun c hc => by rw [Munch.hasAt_lt _ _ _ hjl]; rcases hc with rfl | rfl | rfl | rfl <;> simp [h42, h43, h63, h123])]; rfl
              obtain ⟨hmF, hrF, kF, HP⟩ := put_piece (nd := nd) (m := 2 * (j - i) - 1) (base := w.heap.size) hm7 (Nat.le_refl _) hBR hr7 kB7 hv ho7 hL hn (Munch.weightV nd : Int) rfl
              have HPH : Hid _ := HP
              have a0 : (W7.drewN nq).cell? ⟨w5.heap.size, 0, none⟩ = some (.iface T p) := kA7.cell 0
              have a1 : (W7.drewN nq).cell? ⟨w5.heap.size, 1, none⟩ = some (.int .i64 (Munch.weightV nd)) := kA7.cell 1
              have d0 : (W7.drewN nq).cell? ⟨w.heap.size, 0, none⟩ = some .nilIface := kB7.cell 0
              have d1 : (W7.drewN nq).cell? ⟨w.heap.size, 1, none⟩ = some (.int .i64 0) := kB7.cell 1
              have g0 := kB7.frozen 0
              have g1 := kB7.frozen 1
              clear HP kB7 kA7
              go_wp2_with fail
              have z0 := kF.cell 0
              have z1 := kF.cell 1
              simp at z0 z1
              refine bodyPost_ret (v := .tuple #[.agg #[.iface T p, .int .i64 (Munch.weightV nd : Int)], .bool true]) (by simp [results, Tryz.results117, go_sem, z0, z1]) rfl ?_
              exact ⟨hmF, Or.inr ⟨(nd, j, d), _, HF.out, rfl, hrF, HPH.out⟩⟩
    · rw [show decide (j = s.size) = true from by simp; omega] at hen
      go_wp2_with fail
      refine hen.mono ?_
      clear hen
      rintro e W6 ⟨rfl, n1, rfl⟩
      obtain ⟨W7, hW7e, hm7, hr7, kB7, kA7, ho7, hP7, hW7, hl7, hg7⟩ := HFACT.out n1
      rw [← hW7e]
      clear hW7e HFACT
      have HF : Hid (Munch.pieceF s (N + 1) i opn deep = .ok (nd, j, d)) := by
        show Munch.pieceF s (N + 1) i opn deep = _
        rw [HT.out, tail_none s nd j (fun c _ => Munch.hasAt_ge _ _ _ (by omega))]; rfl
      obtain ⟨hmF, hrF, kF, HP⟩ := put_piece (nd := nd) (m := 2 * (j - i) - 1) (base := w.heap.size) hm7 (Nat.le_refl _) hBR hr7 kB7 hv ho7 hL hn (Munch.weightV nd : Int) rfl
      have HPH : Hid _ := HP
      have a0 : W7.cell? ⟨w5.heap.size, 0, none⟩ = some (.iface T p) := kA7.cell 0
      have a1 : W7.cell? ⟨w5.heap.size, 1, none⟩ = some (.int .i64 (Munch.weightV nd)) := kA7.cell 1
      have d0 : W7.cell? ⟨w.heap.size, 0, none⟩ = some .nilIface := kB7.cell 0
      have d1 : W7.cell? ⟨w.heap.size, 1, none⟩ = some (.int .i64 0) := kB7.cell 1
      have g0 := kB7.frozen 0
      have g1 := kB7.frozen 1
      clear HP kB7 kA7
      go_wp2_with fail
      have z0 := kF.cell 0
      have z1 := kF.cell 1
      simp at z0 z1
      refine bodyPost_ret (v := .tuple #[.agg #[.iface T p, .int .i64 (Munch.weightV nd : Int)], .bool true]) (by simp [results, Tryz.results117, go_sem, z0, z1]) rfl ?_
      exact ⟨hmF, Or.inr ⟨(nd, j, d), _, HF.out, rfl, hrF, HPH.out⟩⟩
end Go.Proofs.YtkoaeojdlanolaaGreatDoor
