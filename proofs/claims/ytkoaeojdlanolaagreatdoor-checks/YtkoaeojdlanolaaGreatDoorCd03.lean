import Derived.Test.YtkoaeojdlanolaaGreatDoorCd02
/-
  THE DEVELOPERS' READER: star, plus, question.
-/
namespace Go.Proofs.YtkoaeojdlanolaaGreatDoor
open Go.RowKit
open Munch (Words Wempty Wbytes Wcat Wany Wall Wnot KeyF Times numText)

theorem lang_piece (nd : Munch.Node) (lo hi : Int) : Munch.Lang (.piece nd lo hi) = Times (Munch.Lang nd) lo hi := rfl

/-- What a suffix answers. -/
def Suffixed (R : Nat) (s : ByteArray) (i mb : Nat) (nest deep : Int) (base : Nat) (nd : Munch.Node) (m : Nat) (w : World) (e : Ending) (w' : World) : Prop :=
  Moves R w w' ∧ ∃ v, e = .returned (.tuple #[v, .bool true]) ∧ Rs w' R s i nest deep mb ∧ PieceOk w' base nd m v

theorem repeatQ {W : World} {base B : Nat} {r : Tr} {T : TypeId} {p : Value} (lo hi : Int) (hrok : TreeOk W (fun x => base ≤ x ∧ x ≠ B) r) (hv : r.v = .iface T p) (h0 : 0 ≤ lo) (h1 : lo ≤ 9) (h2 : -1 ≤ hi) (h3 : hi ≤ 9) (hle : hi = -1 ∨ lo ≤ hi) (hn : r.n ≤ 1000000) (hl : LaidT W) :
    ∀ w', Below W.heap.size W w' → Calls Tryz.prog 76 #[.iface T p, .int .i64 lo, .int .i64 hi] w' fun e w'' => ∃ (q : Tr) (T5 : TypeId) (p5 : Value), e = .returned (.iface T5 p5) ∧ q.v = .iface T5 p5 ∧ TreeOk w'' (fun x => base ≤ x ∧ x ≠ B) q ∧ q.L = Times r.L lo hi ∧ q.n ≤ r.n + 1 ∧ Below w'.heap.size w' w'' := by
  intro w' hw'
  have h := repeat_any r lo hi w' _ (hrok.keep (keeps_below hw')) h0 h1 h2 h3 hle hn (hl.keep hw')
  rw [hv] at h
  refine h.mono ?_
  rintro e w'' ⟨q, rfl, hqok, hqL, hqn, hb⟩
  obtain ⟨T5, p5, hqv⟩ := hqok.shape
  exact ⟨q, T5, p5, congrArg Ending.returned hqv, hqv, hqok, hqL, hqn, hb⟩

set_option maxHeartbeats 4000000 in
set_option maxRecDepth 100000 in
theorem star_any (R : Nat) (s : ByteArray) (i mb base m : Nat) (nest deep : Int) (nd : Munch.Node) (v : Value) (w : World) (hr : Rs w R s i nest deep mb) (hp : PieceOk w base nd m v) (hm : m ≤ 1000000) (_hbase : base ≤ w.heap.size) (hl : LaidT w) :
    Calls Tryz.prog 53 #[.pointer (some ⟨R, 0, none⟩), v] w fun e w' => Suffixed R s i mb nest deep base (.piece nd 0 (-1)) (m + 1) w e w' := by
  obtain ⟨r, T, p, rfl, hv, hrok, hrL, hrn⟩ := hp
  have hRl := hr.lt
  obtain ⟨W, hW⟩ : ∃ W, W = (w.alloc (.cells #[.iface T p, .int .i64 (Munch.weightV nd)] 82)).alloc (.cells #[.nilIface, .int .i64 0] 82) := ⟨_, rfl⟩
  have hb0 : Below w.heap.size w W := by rw [hW]; exact (below_box w _).alloc (by simp) _
  have kA : Blk W w.heap.size 82 #[.iface T p, .int .i64 (Munch.weightV nd)] := by rw [hW]; exact (Blk.new w _ _).alloc _
  have kB : Blk W (w.heap.size + 1) 82 #[.nilIface, .int .i64 0] := by
    rw [hW]
    have := Blk.new (w.alloc (.cells #[.iface T p, .int .i64 (Munch.weightV nd)] 82)) #[.nilIface, .int .i64 0] 82
    rwa [size_alloc] at this
  have hrokW : TreeOk W (fun x => base ≤ x ∧ x ≠ w.heap.size + 1) r := (hrok.mono (ok' := fun x => base ≤ x ∧ x ≠ w.heap.size + 1) (fun x hx h => ⟨h, by omega⟩)).keep (keeps_below hb0)
  have HQ : Hid _ := repeatQ (B := w.heap.size + 1) (0) ((-1)) hrokW hv (by omega) (by omega) (by omega) (by omega) (by omega) (by omega) (hl.keep hb0)
  have hrW := hr.keep hb0
  obtain ⟨A, hA⟩ : ∃ A, A = w.heap.size := ⟨_, rfl⟩
  have hltA := kA.lt
  have hltB := kB.lt
  clear hrok hrokW hl
  go_enter Tryz.func53, Tryz.ntmps53
  go_wp2_with fail
  rw [← hW]
  clear hW
  have a0 : W.cell? ⟨w.heap.size, 0, none⟩ = some (.iface T p) := kA.cell 0
  have a1 : W.cell? ⟨w.heap.size, 1, none⟩ = some (.int .i64 (Munch.weightV nd)) := kA.cell 1
  have hbW : Below W.heap.size W W := Below.refl _ _
  go_region_with (go_at_call 76; refine (HQ.out _ (by exact ⟨hbW.os, hbW.tape, hbW.output, hbW.size, hbW.block⟩)).mono ?_; rintro e w5 ⟨q, T5, p5, rfl, hqv, hqok, hqL, hqn, hb5'⟩; have hb5 : Below W.heap.size W w5 := ⟨hb5'.os, hb5'.tape, hb5'.output, hb5'.size, fun k hk => hb5'.block k hk⟩; have a15 : w5.cell? ⟨w.heap.size, 1, none⟩ = some (.int .i64 (Munch.weightV nd)) := (kA.below hb5 hltA).cell 1; have kB5 := kB.below hb5 hltB; have b0 : w5.cell? ⟨w.heap.size + 1, 0, none⟩ = some .nilIface := kB5.cell 0; have b1 : w5.cell? ⟨w.heap.size + 1, 1, none⟩ = some (.int .i64 0) := kB5.cell 1; have g0 := kB5.frozen 0; have g1 := kB5.frozen 1)
  all_goals
    obtain ⟨hmF, hrF, kF, HP⟩ := put_piece (nd := .piece nd 0 (-1)) (m := m + 1) (base := base) ((Moves.of_below hb0).trans (Moves.of_below hb5)) (by omega) (by omega) (hrW.keep hb5) kB5 hqv hqok (by rw [hqL, hrL]; rfl) (by omega) (Munch.weightV nd : Int) (by rw [Munch.weightV_piece]; simp)
    have HPH : Hid _ := HP
    clear HP hqok
    go_wp2_with fail
    have z0 := kF.cell 0
    have z1 := kF.cell 1
    simp at z0 z1
    refine bodyPost_ret (v := .tuple #[.agg #[.iface T5 p5, .int .i64 (Munch.weightV nd)], .bool true]) (by simp [results, Tryz.results53, go_sem, z0, z1]) rfl ?_
    exact ⟨hmF, _, rfl, hrF, HPH.out⟩

set_option maxHeartbeats 4000000 in
set_option maxRecDepth 100000 in
theorem plus_any (R : Nat) (s : ByteArray) (i mb base m : Nat) (nest deep : Int) (nd : Munch.Node) (v : Value) (w : World) (hr : Rs w R s i nest deep mb) (hp : PieceOk w base nd m v) (hm : m ≤ 1000000) (_hbase : base ≤ w.heap.size) (hl : LaidT w) :
    Calls Tryz.prog 54 #[.pointer (some ⟨R, 0, none⟩), v] w fun e w' => Suffixed R s i mb nest deep base (.piece nd 1 (-1)) (m + 1) w e w' := by
  obtain ⟨r, T, p, rfl, hv, hrok, hrL, hrn⟩ := hp
  have hRl := hr.lt
  obtain ⟨W, hW⟩ : ∃ W, W = (w.alloc (.cells #[.iface T p, .int .i64 (Munch.weightV nd)] 82)).alloc (.cells #[.nilIface, .int .i64 0] 82) := ⟨_, rfl⟩
  have hb0 : Below w.heap.size w W := by rw [hW]; exact (below_box w _).alloc (by simp) _
  have kA : Blk W w.heap.size 82 #[.iface T p, .int .i64 (Munch.weightV nd)] := by rw [hW]; exact (Blk.new w _ _).alloc _
  have kB : Blk W (w.heap.size + 1) 82 #[.nilIface, .int .i64 0] := by
    rw [hW]
    have := Blk.new (w.alloc (.cells #[.iface T p, .int .i64 (Munch.weightV nd)] 82)) #[.nilIface, .int .i64 0] 82
    rwa [size_alloc] at this
  have hrokW : TreeOk W (fun x => base ≤ x ∧ x ≠ w.heap.size + 1) r := (hrok.mono (ok' := fun x => base ≤ x ∧ x ≠ w.heap.size + 1) (fun x hx h => ⟨h, by omega⟩)).keep (keeps_below hb0)
  have HQ : Hid _ := repeatQ (B := w.heap.size + 1) (1) ((-1)) hrokW hv (by omega) (by omega) (by omega) (by omega) (by omega) (by omega) (hl.keep hb0)
  have hrW := hr.keep hb0
  obtain ⟨A, hA⟩ : ∃ A, A = w.heap.size := ⟨_, rfl⟩
  have hltA := kA.lt
  have hltB := kB.lt
  clear hrok hrokW hl
  go_enter Tryz.func54, Tryz.ntmps54
  go_wp2_with fail
  rw [← hW]
  clear hW
  have a0 : W.cell? ⟨w.heap.size, 0, none⟩ = some (.iface T p) := kA.cell 0
  have a1 : W.cell? ⟨w.heap.size, 1, none⟩ = some (.int .i64 (Munch.weightV nd)) := kA.cell 1
  have hbW : Below W.heap.size W W := Below.refl _ _
  go_region_with (go_at_call 76; refine (HQ.out _ (by exact ⟨hbW.os, hbW.tape, hbW.output, hbW.size, hbW.block⟩)).mono ?_; rintro e w5 ⟨q, T5, p5, rfl, hqv, hqok, hqL, hqn, hb5'⟩; have hb5 : Below W.heap.size W w5 := ⟨hb5'.os, hb5'.tape, hb5'.output, hb5'.size, fun k hk => hb5'.block k hk⟩; have a15 : w5.cell? ⟨w.heap.size, 1, none⟩ = some (.int .i64 (Munch.weightV nd)) := (kA.below hb5 hltA).cell 1; have kB5 := kB.below hb5 hltB; have b0 : w5.cell? ⟨w.heap.size + 1, 0, none⟩ = some .nilIface := kB5.cell 0; have b1 : w5.cell? ⟨w.heap.size + 1, 1, none⟩ = some (.int .i64 0) := kB5.cell 1; have g0 := kB5.frozen 0; have g1 := kB5.frozen 1)
  all_goals
    obtain ⟨hmF, hrF, kF, HP⟩ := put_piece (nd := .piece nd 1 (-1)) (m := m + 1) (base := base) ((Moves.of_below hb0).trans (Moves.of_below hb5)) (by omega) (by omega) (hrW.keep hb5) kB5 hqv hqok (by rw [hqL, hrL]; rfl) (by omega) (Munch.weightV nd : Int) (by rw [Munch.weightV_piece]; simp)
    have HPH : Hid _ := HP
    clear HP hqok
    go_wp2_with fail
    have z0 := kF.cell 0
    have z1 := kF.cell 1
    simp at z0 z1
    refine bodyPost_ret (v := .tuple #[.agg #[.iface T5 p5, .int .i64 (Munch.weightV nd)], .bool true]) (by simp [results, Tryz.results54, go_sem, z0, z1]) rfl ?_
    exact ⟨hmF, _, rfl, hrF, HPH.out⟩

set_option maxHeartbeats 4000000 in
set_option maxRecDepth 100000 in
theorem question_any (R : Nat) (s : ByteArray) (i mb base m : Nat) (nest deep : Int) (nd : Munch.Node) (v : Value) (w : World) (hr : Rs w R s i nest deep mb) (hp : PieceOk w base nd m v) (hm : m ≤ 1000000) (_hbase : base ≤ w.heap.size) (hl : LaidT w) :
    Calls Tryz.prog 55 #[.pointer (some ⟨R, 0, none⟩), v] w fun e w' => Suffixed R s i mb nest deep base (.piece nd 0 1) (m + 1) w e w' := by
  obtain ⟨r, T, p, rfl, hv, hrok, hrL, hrn⟩ := hp
  have hRl := hr.lt
  obtain ⟨W, hW⟩ : ∃ W, W = (w.alloc (.cells #[.iface T p, .int .i64 (Munch.weightV nd)] 82)).alloc (.cells #[.nilIface, .int .i64 0] 82) := ⟨_, rfl⟩
  have hb0 : Below w.heap.size w W := by rw [hW]; exact (below_box w _).alloc (by simp) _
  have kA : Blk W w.heap.size 82 #[.iface T p, .int .i64 (Munch.weightV nd)] := by rw [hW]; exact (Blk.new w _ _).alloc _
  have kB : Blk W (w.heap.size + 1) 82 #[.nilIface, .int .i64 0] := by
    rw [hW]
    have := Blk.new (w.alloc (.cells #[.iface T p, .int .i64 (Munch.weightV nd)] 82)) #[.nilIface, .int .i64 0] 82
    rwa [size_alloc] at this
  have hrokW : TreeOk W (fun x => base ≤ x ∧ x ≠ w.heap.size + 1) r := (hrok.mono (ok' := fun x => base ≤ x ∧ x ≠ w.heap.size + 1) (fun x hx h => ⟨h, by omega⟩)).keep (keeps_below hb0)
  have HQ : Hid _ := repeatQ (B := w.heap.size + 1) (0) (1) hrokW hv (by omega) (by omega) (by omega) (by omega) (by omega) (by omega) (hl.keep hb0)
  have hrW := hr.keep hb0
  obtain ⟨A, hA⟩ : ∃ A, A = w.heap.size := ⟨_, rfl⟩
  have hltA := kA.lt
  have hltB := kB.lt
  clear hrok hrokW hl
  go_enter Tryz.func55, Tryz.ntmps55
  go_wp2_with fail
  rw [← hW]
  clear hW
  have a0 : W.cell? ⟨w.heap.size, 0, none⟩ = some (.iface T p) := kA.cell 0
  have a1 : W.cell? ⟨w.heap.size, 1, none⟩ = some (.int .i64 (Munch.weightV nd)) := kA.cell 1
  have hbW : Below W.heap.size W W := Below.refl _ _
  go_region_with (go_at_call 76; refine (HQ.out _ (by exact ⟨hbW.os, hbW.tape, hbW.output, hbW.size, hbW.block⟩)).mono ?_; rintro e w5 ⟨q, T5, p5, rfl, hqv, hqok, hqL, hqn, hb5'⟩; have hb5 : Below W.heap.size W w5 := ⟨hb5'.os, hb5'.tape, hb5'.output, hb5'.size, fun k hk => hb5'.block k hk⟩; have a15 : w5.cell? ⟨w.heap.size, 1, none⟩ = some (.int .i64 (Munch.weightV nd)) := (kA.below hb5 hltA).cell 1; have kB5 := kB.below hb5 hltB; have b0 : w5.cell? ⟨w.heap.size + 1, 0, none⟩ = some .nilIface := kB5.cell 0; have b1 : w5.cell? ⟨w.heap.size + 1, 1, none⟩ = some (.int .i64 0) := kB5.cell 1; have g0 := kB5.frozen 0; have g1 := kB5.frozen 1)
  all_goals
    obtain ⟨hmF, hrF, kF, HP⟩ := put_piece (nd := .piece nd 0 1) (m := m + 1) (base := base) ((Moves.of_below hb0).trans (Moves.of_below hb5)) (by omega) (by omega) (hrW.keep hb5) kB5 hqv hqok (by rw [hqL, hrL]; rfl) (by omega) (Munch.weightV nd : Int) (by rw [Munch.weightV_piece]; simp)
    have HPH : Hid _ := HP
    clear HP hqok
    go_wp2_with fail
    have z0 := kF.cell 0
    have z1 := kF.cell 1
    simp at z0 z1
    refine bodyPost_ret (v := .tuple #[.agg #[.iface T5 p5, .int .i64 (Munch.weightV nd)], .bool true]) (by simp [results, Tryz.results55, go_sem, z0, z1]) rfl ?_
    exact ⟨hmF, _, rfl, hrF, HPH.out⟩
end Go.Proofs.YtkoaeojdlanolaaGreatDoor
/-
  THE DEVELOPERS' READER: counts.
-/
namespace Go.Proofs.YtkoaeojdlanolaaGreatDoor
open Go.RowKit
open Munch (Words Wempty Wbytes Wcat Wany Wall Wnot KeyF Times numText)

theorem digit_eq (s : ByteArray) (i lo : Nat) : (withinAt s i (lo + 48) 57 = false → Munch.digit s i lo = .bad i) ∧ (∀ h : i < s.size, withinAt s i (lo + 48) 57 = true → Munch.digit s i lo = .ok (s[i].toNat - 48) ∧ lo + 48 ≤ s[i].toNat ∧ s[i].toNat ≤ 57) := by
  unfold Munch.digit
  by_cases hi : i < s.size
  · rw [dif_pos hi, withinAt_lt _ _ _ _ hi]
    have e : Munch.isDigit s i lo = (decide (lo + 48 ≤ s[i].toNat) && decide (s[i].toNat ≤ 57)) := by
      unfold Munch.isDigit; rw [dif_pos hi, Bool.eq_iff_iff]; simp; omega
    rw [e]
    constructor
    · intro h; rw [h]; rfl
    · intro _ h
      rw [h]
      simp at h
      exact ⟨rfl, h.1, h.2⟩
  · rw [dif_neg hi, withinAt_ge _ _ _ _ hi]
    exact ⟨fun _ => rfl, fun h => absurd h hi⟩

/-- What counts answers. -/
def Counted (R : Nat) (s : ByteArray) (i mb : Nat) (nest deep : Int) (base : Nat) (nd : Munch.Node) (m : Nat) (w : World) (e : Ending) (w' : World) : Prop :=
  Moves R w w' ∧ ((∃ p, Munch.counts s i = .bad p ∧ e = .returned (.tuple #[.agg #[.nilIface, .int .i64 0], .bool false]) ∧ Rs w' R s p nest deep mb) ∨
    (∃ (x : Nat × Nat) (v : Value), Munch.counts s i = .ok x ∧ e = .returned (.tuple #[v, .bool true]) ∧ Rs w' R s (i + 4) nest deep mb ∧ PieceOk w' base (.piece nd x.1 x.2) (m + 1) v))

set_option maxHeartbeats 4000000 in
set_option maxRecDepth 100000 in
theorem counts_any (R : Nat) (s : ByteArray) (i mb base m : Nat) (nest deep : Int) (nd : Munch.Node) (v : Value) (w : World) (hr : Rs w R s i nest deep mb) (hi : i ≤ s.size) (hs : s.size ≤ 80) (hp : PieceOk w base nd m v) (hm : m ≤ 1000000) (_hbase : base ≤ w.heap.size) (hRb : R < base) (hl : LaidT w) (hwb : 9 * Munch.weightV nd ≤ 9223372036854775807) :
    Calls Tryz.prog 56 #[.pointer (some ⟨R, 0, none⟩), v] w fun e w' => Counted R s i mb nest deep base nd m w e w' := by
  obtain ⟨r, T, p, rfl, hv, hrok, hrL, hrn⟩ := hp
  have hRl := hr.lt
  obtain ⟨W, hW⟩ : ∃ W, W = (w.alloc (.cells #[.iface T p, .int .i64 (Munch.weightV nd)] 82)).alloc (.cells #[.nilIface, .int .i64 0] 82) := ⟨_, rfl⟩
  have hb0 : Below w.heap.size w W := by rw [hW]; exact (below_box w _).alloc (by simp) _
  have kA : Blk W w.heap.size 82 #[.iface T p, .int .i64 (Munch.weightV nd)] := by rw [hW]; exact (Blk.new w _ _).alloc _
  have kB : Blk W (w.heap.size + 1) 82 #[.nilIface, .int .i64 0] := by
    rw [hW]
    have := Blk.new (w.alloc (.cells #[.iface T p, .int .i64 (Munch.weightV nd)] 82)) #[.nilIface, .int .i64 0] 82
    rwa [size_alloc] at this
  have hrokW : TreeOk W (fun x => base ≤ x ∧ x ≠ w.heap.size + 1) r := (hrok.mono (ok' := fun x => base ≤ x ∧ x ≠ w.heap.size + 1) (fun x hx h => ⟨h, by omega⟩)).keep (keeps_below hb0)
  have hrW := hr.keep hb0
  have hm0 : Moves R w W := Moves.of_below hb0
  have hBR : w.heap.size + 1 ≠ R := by omega
  have HRK : Hid (TreeOk W (fun x => base ≤ x ∧ x ≠ w.heap.size + 1) r) := hrokW
  have HL : Hid _ := hl
  clear hrok hrokW hl
  have h1 := takeWithin_any R s i mb nest deep 48 57 W hrW hi hs
  have hd1 := digit_eq s i 0
  go_enter Tryz.func56, Tryz.ntmps56
  go_wp2_with fail
  rw [← hW]
  clear hW
  refine h1.mono ?_
  clear h1
  rintro e w1 (⟨hw1, rfl, hr1, hm1⟩ | ⟨hw1, ⟨hlt, rfl⟩, hr1, hm1⟩)
  · have HE : Hid (Munch.counts s i = .bad i) := by
      show Munch.counts s i = .bad i
      unfold Munch.counts; rw [hd1.1 hw1]; rfl
    have kB1 := kB.grown hm1 (by simpa using hBR)
    obtain ⟨hmF, hrF, kF⟩ := put_none (hm0.trans hm1) (Nat.le_succ _) hBR hr1 kB1
    have d0 : w1.cell? ⟨w.heap.size + 1, 0, none⟩ = some .nilIface := kB1.cell 0
    have d1 : w1.cell? ⟨w.heap.size + 1, 1, none⟩ = some (.int .i64 0) := kB1.cell 1
    have g0 := kB1.frozen 0
    have g1 := kB1.frozen 1
    clear hd1 kB1
    go_wp2_with fail
    have z0 := kF.cell 0
    have z1 := kF.cell 1
    simp at z0 z1
    refine bodyPost_ret (v := .tuple #[.agg #[.nilIface, .int .i64 0], .bool false]) (by simp [results, Tryz.results56, go_sem, z0, z1]) rfl ?_
    exact ⟨hmF, Or.inl ⟨i, HE.out, rfl, hrF⟩⟩
  · obtain ⟨hdg, hv1, hv2⟩ := hd1.2 hlt hw1
    have HC : Hid (Munch.counts s i = if Munch.hasAt s (i + 1) 44 then (Munch.digit s (i + 2) (max (s[i].toNat - 48) 1)).bind fun h => if Munch.hasAt s (i + 3) 125 then .ok (s[i].toNat - 48, h) else .bad (i + 3) else .bad (i + 1)) := by
      show Munch.counts s i = _
      unfold Munch.counts; rw [hdg]; rfl
    obtain ⟨c, hc⟩ : ∃ c, c = s[i].toNat := ⟨_, rfl⟩
    rw [← hc] at HC hv1 hv2 ⊢
    clear hd1 hdg hw1 hc
    have ht := take_any R s (i + 1) mb nest deep 44 w1 hr1 (by omega) hs
    cases hh : Munch.hasAt s (i + 1) 44 with
    | false =>
      rw [hh] at ht
      have HE : Hid (Munch.counts s i = .bad (i + 1)) := by
        show Munch.counts s i = _
        rw [HC.out, hh]; rfl
      go_wp2_with fail
      refine ht.mono ?_
      clear ht
      rintro e w2 ⟨rfl, hr2, hm2⟩
      replace hr2 : Rs w2 R s (i + 1) nest deep mb := by simpa using hr2
      have kB1 := (kB.grown hm1 (by simpa using hBR)).grown hm2 (by simpa using hBR)
      obtain ⟨hmF, hrF, kF⟩ := put_none ((hm0.trans hm1).trans hm2) (Nat.le_succ _) hBR hr2 kB1
      have d0 : w2.cell? ⟨w.heap.size + 1, 0, none⟩ = some .nilIface := kB1.cell 0
      have d1 : w2.cell? ⟨w.heap.size + 1, 1, none⟩ = some (.int .i64 0) := kB1.cell 1
      have g0 := kB1.frozen 0
      have g1 := kB1.frozen 1
      clear kB1
      go_wp2_with fail
      have z0 := kF.cell 0
      have z1 := kF.cell 1
      simp at z0 z1
      refine bodyPost_ret (v := .tuple #[.agg #[.nilIface, .int .i64 0], .bool false]) (by simp [results, Tryz.results56, go_sem, z0, z1]) rfl ?_
      exact ⟨hmF, Or.inl ⟨i + 1, HE.out, rfl, hrF⟩⟩
    | true =>
      rw [hh] at ht
      have hi1 := Munch.hasAt_true _ _ _ hh
      have HD : Hid (Munch.counts s i = (Munch.digit s (i + 2) (max (c - 48) 1)).bind fun h => if Munch.hasAt s (i + 3) 125 then .ok (c - 48, h) else .bad (i + 3)) := by
        show Munch.counts s i = _
        rw [HC.out, hh]; rfl
      clear hh HC
      go_wp2_with fail
      refine ht.mono ?_
      clear ht
      rintro e w2 ⟨rfl, hr2, hm2⟩
      replace hr2 : Rs w2 R s (i + 2) nest deep mb := by simpa using hr2
      have h3 := takeWithin_any R s (i + 2) mb nest deep (max (c - 48) 1 + 48) 57 w2 hr2 (by omega) hs
      have hmx : ((max (c - 48) 1 + 48 : Nat) : Int) = max (c : Int) 49 := by omega
      have hd3 := digit_eq s (i + 2) (max (c - 48) 1)
      rw [hmx] at h3
      clear hmx
      go_wp2_with fail
      refine h3.mono ?_
      clear h3
      rintro e w3 (⟨hw3, rfl, hr3, hm3⟩ | ⟨hw3, ⟨hlt3, rfl⟩, hr3, hm3⟩)
      · have HE : Hid (Munch.counts s i = .bad (i + 2)) := by
          show Munch.counts s i = _
          rw [HD.out, hd3.1 hw3]; rfl
        have kBx := ((kB.grown hm1 (by simpa using hBR)).grown hm2 (by simpa using hBR)).grown hm3 (by simpa using hBR)
        clear hd3
        obtain ⟨hmF, hrF, kF⟩ := put_none (((hm0.trans hm1).trans hm2).trans hm3) (Nat.le_succ _) hBR hr3 kBx
        have d0 : w3.cell? ⟨w.heap.size + 1, 0, none⟩ = some .nilIface := kBx.cell 0
        have d1 : w3.cell? ⟨w.heap.size + 1, 1, none⟩ = some (.int .i64 0) := kBx.cell 1
        have g0 := kBx.frozen 0
        have g1 := kBx.frozen 1
        clear kBx
        go_wp2_with fail
        have z0 := kF.cell 0
        have z1 := kF.cell 1
        simp at z0 z1
        refine bodyPost_ret (v := .tuple #[.agg #[.nilIface, .int .i64 0], .bool false]) (by simp [results, Tryz.results56, go_sem, z0, z1]) rfl ?_
        exact ⟨hmF, Or.inl ⟨i + 2, HE.out, rfl, hrF⟩⟩
      · obtain ⟨hdg, hu1, hu2⟩ := hd3.2 hlt3 hw3
        have HD2 : Hid (Munch.counts s i = if Munch.hasAt s (i + 3) 125 then .ok (c - 48, s[i + 2].toNat - 48) else .bad (i + 3)) := by
          show Munch.counts s i = _
          rw [HD.out, hdg]; rfl
        obtain ⟨d, hd⟩ : ∃ d, d = s[i + 2].toNat := ⟨_, rfl⟩
        rw [← hd] at HD2 hu1 hu2 ⊢
        clear hd3 hdg hw3 hd HD
        have ht := take_any R s (i + 3) mb nest deep 125 w3 hr3 (by omega) hs
        cases hh : Munch.hasAt s (i + 3) 125 with
        | false =>
          rw [hh] at ht
          have HE : Hid (Munch.counts s i = .bad (i + 3)) := by
            show Munch.counts s i = _
            rw [HD2.out, hh]; rfl
          go_wp2_with fail
          refine ht.mono ?_
          clear ht
          rintro e w4 ⟨rfl, hr4, hm4⟩
          replace hr4 : Rs w4 R s (i + 3) nest deep mb := by simpa using hr4
          have kBx := (((kB.grown hm1 (by simpa using hBR)).grown hm2 (by simpa using hBR)).grown hm3 (by simpa using hBR)).grown hm4 (by simpa using hBR)
          obtain ⟨hmF, hrF, kF⟩ := put_none ((((hm0.trans hm1).trans hm2).trans hm3).trans hm4) (Nat.le_succ _) hBR hr4 kBx
          have d0 : w4.cell? ⟨w.heap.size + 1, 0, none⟩ = some .nilIface := kBx.cell 0
          have d1 : w4.cell? ⟨w.heap.size + 1, 1, none⟩ = some (.int .i64 0) := kBx.cell 1
          have g0 := kBx.frozen 0
          have g1 := kBx.frozen 1
          clear kBx
          go_wp2_with fail
          have z0 := kF.cell 0
          have z1 := kF.cell 1
          simp at z0 z1
          refine bodyPost_ret (v := .tuple #[.agg #[.nilIface, .int .i64 0], .bool false]) (by simp [results, Tryz.results56, go_sem, z0, z1]) rfl ?_
          exact ⟨hmF, Or.inl ⟨i + 3, HE.out, rfl, hrF⟩⟩
        | true =>
          rw [hh] at ht
          have HE : Hid (Munch.counts s i = .ok (c - 48, d - 48)) := by
            show Munch.counts s i = _
            rw [HD2.out, hh]; rfl
          clear hh HD2
          go_wp2_with fail
          refine ht.mono ?_
          clear ht
          rintro e w4 ⟨rfl, hr4, hm4⟩
          replace hr4 : Rs w4 R s (i + 4) nest deep mb := by simpa using hr4
          have hmW : Moves R W w4 := ((hm1.trans hm2).trans hm3).trans hm4
          have kA4 := kA.grown hmW (by simp; omega)
          have kB4 := kB.grown hmW (by simpa using hBR)
          have hrok4 : TreeOk w4 (fun x => base ≤ x ∧ x ≠ w.heap.size + 1) r := (show TreeOk W (fun x => base ≤ x ∧ x ≠ w.heap.size + 1) r from HRK.out).keep (hmW.keeps.mono (fun x _ hx => by omega))
          have hl4 : LaidT w4 := laidT_moves HL.out hr (hm0.trans hmW)
          have HQ : Hid _ := repeatQ (B := w.heap.size + 1) ((c : Int) - 48) ((d : Int) - 48) hrok4 hv (by omega) (by omega) (by omega) (by omega) (by omega) (by omega) hl4
          have hu8a : IntKind.u8.wrap ((c : Int) - 48) = (c : Int) - 48 := by rw [IntKind.wrap_u8]; omega
          have hu8b : IntKind.u8.wrap ((d : Int) - 48) = (d : Int) - 48 := by rw [IntKind.wrap_u8]; omega
          have hi6a : IntKind.i64.wrap ((c : Int) - 48) = (c : Int) - 48 := by rw [IntKind.wrap_i64]; omega
          have hi6b : IntKind.i64.wrap ((d : Int) - 48) = (d : Int) - 48 := by rw [IntKind.wrap_i64]; omega
          have hpos : (0 : Int) ≤ ((d : Int) - 48) * (Munch.weightV nd : Int) := Int.mul_nonneg (by omega) (by omega)
          have hle9 : ((d : Int) - 48) * (Munch.weightV nd : Int) ≤ 9 * (Munch.weightV nd : Int) := Int.mul_le_mul_of_nonneg_right (by omega) (by omega)
          have hmul : IntKind.i64.wrap (((d : Int) - 48) * (Munch.weightV nd : Int)) = ((d : Int) - 48) * (Munch.weightV nd : Int) := by rw [IntKind.wrap_i64]; omega
          have HWT : Hid (((d : Int) - 48) * (Munch.weightV nd : Int) = (Munch.weightV (.piece nd ((c - 48 : Nat) : Int) ((d - 48 : Nat) : Int)) : Int)) := by
            show _ = _
            rw [Munch.weightV_piece]
            split
            · rw [Int.toNat_natCast]; push_cast; rw [show ((d - 48 : Nat) : Int) = (d : Int) - 48 from by omega]
            · have : (d : Int) - 48 = 1 := by omega
              rw [this]; simp
          have hrW4 := hr4
          have hltA := kA4.lt
          have hltB := kB4.lt
          clear hpos hle9 hrok4 hl4 kA kB HRK HL
          go_wp2_with fail
          have a0 : w4.cell? ⟨w.heap.size, 0, none⟩ = some (.iface T p) := kA4.cell 0
          have a1 : w4.cell? ⟨w.heap.size, 1, none⟩ = some (.int .i64 (Munch.weightV nd)) := kA4.cell 1
          have hbW : Below w4.heap.size w4 w4 := Below.refl _ _
          go_region_with (go_at_call 76; refine (HQ.out _ (by exact ⟨hbW.os, hbW.tape, hbW.output, hbW.size, hbW.block⟩)).mono ?_; rintro e w5 ⟨q, T5, p5, rfl, hqv, hqok, hqL, hqn, hb5'⟩; have hb5 : Below w4.heap.size w4 w5 := ⟨hb5'.os, hb5'.tape, hb5'.output, hb5'.size, fun k hk => hb5'.block k hk⟩; have a15 : w5.cell? ⟨w.heap.size, 1, none⟩ = some (.int .i64 (Munch.weightV nd)) := (kA4.below hb5 hltA).cell 1; have kB5 := kB4.below hb5 hltB; have b0 : w5.cell? ⟨w.heap.size + 1, 0, none⟩ = some .nilIface := kB5.cell 0; have b1 : w5.cell? ⟨w.heap.size + 1, 1, none⟩ = some (.int .i64 0) := kB5.cell 1; have g0 := kB5.frozen 0; have g1 := kB5.frozen 1)
          all_goals
            obtain ⟨hmF, hrF, kF, HP⟩ := put_piece (nd := .piece nd ((c - 48 : Nat) : Int) ((d - 48 : Nat) : Int)) (m := m + 1) (base := base) ((hm0.trans hmW).trans (Moves.of_below hb5)) (by omega) (by omega) (hrW4.keep hb5) kB5 hqv hqok (by rw [hqL, hrL, lang_piece, show ((c - 48 : Nat) : Int) = (c : Int) - 48 from by omega, show ((d - 48 : Nat) : Int) = (d : Int) - 48 from by omega]) (by omega) (((d : Int) - 48) * (Munch.weightV nd : Int)) HWT.out
            have HPH : Hid _ := HP
            clear HP hqok
            go_wp2_with fail
            have z0 := kF.cell 0
            have z1 := kF.cell 1
            simp at z0 z1
            refine bodyPost_ret (v := .tuple #[.agg #[.iface T5 p5, .int .i64 (((d : Int) - 48) * (Munch.weightV nd : Int))], .bool true]) (by simp [results, Tryz.results56, go_sem, z0, z1]) rfl ?_
            exact ⟨hmF, Or.inr ⟨(c - 48, d - 48), _, HE.out, rfl, hrF, HPH.out⟩⟩
end Go.Proofs.YtkoaeojdlanolaaGreatDoor
