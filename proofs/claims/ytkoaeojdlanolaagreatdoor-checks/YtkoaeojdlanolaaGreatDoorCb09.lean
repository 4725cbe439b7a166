import Derived.Test.YtkoaeojdlanolaaGreatDoorCb08
import Derived.Test.YtkoaeojdlanolaaGreatDoorCa02
/-
  THE WALK of munchref.weight.
-/
namespace Go.Proofs.YtkoaeojdlanolaaGreatDoor
open Go.RowKit

theorem weightsV_take (l : List Munch.Node) (i : Nat) (h : i < l.length) : Munch.weightsV (l.take (i + 1)) = Munch.weightsV (l.take i) + Munch.weightV l[i] := by
  induction l generalizing i with
  | nil => simp at h
  | cons n r ih =>
    cases i with
    | zero => simp [Munch.weightsV]
    | succ i => simp [Munch.weightsV, ih i (by simpa using h)]; omega
theorem weightsV_le (l : List Munch.Node) (i : Nat) : Munch.weightsV (l.take i) ≤ Munch.weightsV l := by
  induction l generalizing i with
  | nil => simp
  | cons n r ih =>
    cases i with
    | zero => simp [Munch.weightsV]
    | succ i => have := ih i; simp [Munch.weightsV]; omega
theorem weightV_le (l : List Munch.Node) (i : Nat) (h : i < l.length) : Munch.weightV l[i] ≤ Munch.weightsV l := by
  have h1 := weightsV_take l i h
  have h2 := weightsV_le l (i + 1)
  omega

/-- The cells of the i-th node of a list. -/
theorem flat_at (cs : List (List Value)) (hc : ∀ c ∈ cs, c.length = 5) (i : Nat) (h : i < cs.length) (j : Nat) (hj : j < 5) : cs.flatten[i * 5 + j]? = (cs[i])[j]? := by
  induction cs generalizing i with
  | nil => simp at h
  | cons c r ih =>
    have hl : c.length = 5 := hc c (by simp)
    cases i with
    | zero => rw [List.flatten_cons, List.getElem?_append_left (by omega)]; simp
    | succ i =>
      rw [List.flatten_cons, List.getElem?_append_right (by omega), show (i + 1) * 5 + j - c.length = i * 5 + j by omega]
      simpa using ih (fun x hx => hc x (by simp [hx])) i (by simpa using h)

theorem ret_int' {k : IntKind} {a b : Int} (h : a = b) : Ending.returned (.int k a) = .returned (.int k b) := by rw [h]

def WeighsTo (w : World) (ok : Nat → Prop) (nd : Munch.Node) (c : List Value) : Prop :=
  Munch.weightV nd ≤ 1000000000000000000 → ∀ w', w.heap.size ≤ w'.heap.size → (∀ b, b < w.heap.size → ok b → w'.heap[b]? = w.heap[b]?) → Calls Tryz.prog 19 #[.agg c.toArray] w' fun e w'' => e = .returned (.int .i64 (Munch.weightV nd)) ∧ Below w'.heap.size w' w''

set_option maxHeartbeats 1000000 in
theorem weight_set (w : World) (no : Bool) (sp : List (Nat × Nat)) (v : Value) (hv : ∃ a n c, v = .slice a n c) :
    Calls Tryz.prog 19 #[.agg #[.int .i64 1, v, .slice none 0 0, .int .i64 0, .int .i64 0]] w fun e w' => e = .returned (.int .i64 (Munch.weightV (.set no sp))) ∧ Below w.heap.size w w' := by
  obtain ⟨a, n, c, rfl⟩ := hv
  rw [Munch.weightV_set]
  go_enter Tryz.func19, Tryz.ntmps19
  go_wp2_with fail
  go_ret
  exact ⟨rfl, (Below.refl _ _).alloc (Nat.le_refl _) _⟩

set_option maxHeartbeats 2000000 in
/-- A row or a form. -/
theorem weight_list (w w0 : World) (ok : Nat → Prop) (q : Int) (hq : q = 2 ∨ q = 3) (l : List Munch.Node) (v : Value) (cs : List (List Value)) (hl : cs.length = l.length) (hrow : RowAt w0 ok 57 5 v l.length cs.flatten) (hc : ∀ c ∈ cs, Shape c)
    (hW : Munch.weightsV l ≤ 1000000000000000000) (hsz : w0.heap.size ≤ w.heap.size) (hk : ∀ b, b < w0.heap.size → ok b → w.heap[b]? = w0.heap[b]?) (ih : ∀ (i : Nat) n c, l[i]? = some n → cs[i]? = some c → WeighsTo w0 ok n c) :
    Calls Tryz.prog 19 #[.agg #[.int .i64 q, .slice none 0 0, v, .int .i64 0, .int .i64 0]] w fun e w' => e = .returned (.int .i64 (Munch.weightsV l)) ∧ Below w.heap.size w w' := by
  have hrw := hrow.keep hk
  obtain ⟨ao, cap, rfl⟩ := hrow.shape
  have hq1 : (q == 1) = false := by rcases hq with rfl | rfl <;> rfl
  have hq4 : (q == 4) = false := by rcases hq with rfl | rfl <;> rfl
  have hmax : l.length ≤ 9223372036854775807 := by
    rcases hrow.own.2 with ⟨_, h0⟩ | ⟨g, cap', cur, _, _, _, h1, h2, _⟩
    · omega
    · unfold maxLen at h2; omega
  have HIH : Hid _ := ih; clear ih
  have HK : Hid _ := hk; clear hk
  clear hq
  go_enter Tryz.func19, Tryz.ntmps19
  go_wp2_with fail
  go_loopw [3, 4] (fun s i wr => ∃ k : Nat, k ≤ l.length ∧ i = .int .i64 k ∧ s = .int .i64 (Munch.weightsV (l.take k)) ∧ Blk wr w.heap.size 57 #[.int .i64 q, .slice none 0 0, .slice ao l.length cap, .int .i64 0, .int .i64 0] ∧ Below w.heap.size w wr) (fun _ i _ => l.length - (intOf i).toNat)
  case atStart => exact ⟨0, Nat.zero_le _, rfl, by simp [Munch.weightsV], Blk.new w _ _, (Below.refl _ _).alloc (Nat.le_refl _) _⟩
  case round =>
    obtain ⟨k, hk, rfl, rfl, hb, hnx⟩ := hrel
    obtain ⟨p0, p1, p2, p3, p4⟩ := hb.cells5
    have hle := weightsV_le l k
    by_cases hlt : k < l.length
    · have hkc : k < cs.length := by omega
      obtain ⟨g, rfl⟩ : ∃ g, ao = some ⟨g, 0, none⟩ := by
        rcases hrow.own.2 with ⟨_, h0⟩ | ⟨g, cap', cur, hv, _⟩
        · omega
        · exact ⟨g, by cases hv; rfl⟩
      have hgl : g < w.heap.size := hrw.lt g rfl
      have hcl : ∀ c ∈ cs, c.length = 5 := fun c h => by obtain ⟨_, _, _, _, _, _, _, _, _, rfl⟩ := hc c h; rfl
      obtain ⟨x, hx⟩ : ∃ x, x = cs[k] := ⟨_, rfl⟩
      have hsx : Shape x := by rw [hx]; exact hc _ (List.getElem_mem hkc)
      have hcell : ∀ j, j < 5 → wr.cell? ⟨g, k * 5 + j, none⟩ = x[j]? := fun j hj => by
        rw [hnx.cell (p := ⟨g, k * 5 + j, none⟩) hgl, hrw.own.cellAt (k * 5 + j) (by omega), flat_at cs hcl k hkc j hj, hx]
      have hw : WeighsTo w0 ok l[k] x := HIH.out k l[k] x (by simp [hlt]) (by rw [hx]; simp [hkc])
      have hwl := weightV_le l k hlt
      have hws := weightsV_take l k hlt
      have hwb := weightsV_le l (k + 1)
      have HWS : Hid _ := hws
      obtain ⟨kk, sa, sn, sc, ba, bn, bc, lo, hi', rfl⟩ := hsx
      have e0 : wr.cell? ⟨g, k * 5, none⟩ = some (.int .i64 kk) := by have := hcell 0 (by omega); simpa using this
      have e1 : wr.cell? ⟨g, k * 5 + 1, none⟩ = some (.slice sa sn sc) := by have := hcell 1 (by omega); simpa using this
      have e2 : wr.cell? ⟨g, k * 5 + 2, none⟩ = some (.slice ba bn bc) := by have := hcell 2 (by omega); simpa using this
      have e3 : wr.cell? ⟨g, k * 5 + 3, none⟩ = some (.int .i64 lo) := by have := hcell 3 (by omega); simpa using this
      have e4 : wr.cell? ⟨g, k * 5 + 4, none⟩ = some (.int .i64 hi') := by have := hcell 4 (by omega); simpa using this
      clear hcell hx hws
      generalize hA : Munch.weightsV (l.take k) = A at *
      generalize hC : Munch.weightV l[k] = C at *
      have HA : Hid _ := hA
      have HC : Hid _ := hC
      clear hA hC
      go_wp2_with fail
      refine (hw (by rw [HC.out]; omega) wr (by have := hnx.size; omega) (fun b hb hok => (hnx.block b (by omega)).trans (HK.out b hb hok))).mono ?_
      rintro e w3 ⟨rfl, hb3⟩
      rw [HC.out]
      go_wp2_with fail
      go_roundw
      case rel => exact ⟨k + 1, by omega, by go_num, by rw [HWS.out]; go_num, hb.below hb3 hb.lt, hnx.trans (hb3.mono hnx.size)⟩
      case measure => simp [intOf]; omega
    · obtain rfl : k = l.length := by omega
      go_wp2_with fail
      go_ret
      exact ⟨ret_int' (by rw [List.take_length]), hnx⟩

set_option maxHeartbeats 2000000 in
/-- A piece. -/
theorem weight_piece (w w0 : World) (ok : Nat → Prop) (lo hi : Int) (hhi : hi ≤ 9) (nd : Munch.Node) (l : List Munch.Node) (hl1 : l = [nd]) (v : Value) (cs : List (List Value)) (hl : cs.length = l.length) (hrow : RowAt w0 ok 57 5 v l.length cs.flatten) (hc : ∀ c ∈ cs, Shape c)
    (hW : Munch.weightV (.piece nd lo hi) ≤ 1000000000000000000) (hsz : w0.heap.size ≤ w.heap.size) (hk : ∀ b, b < w0.heap.size → ok b → w.heap[b]? = w0.heap[b]?) (ih : ∀ (i : Nat) n c, l[i]? = some n → cs[i]? = some c → WeighsTo w0 ok n c) :
    Calls Tryz.prog 19 #[.agg #[.int .i64 4, .slice none 0 0, v, .int .i64 lo, .int .i64 hi]] w fun e w' => e = .returned (.int .i64 (Munch.weightV (.piece nd lo hi))) ∧ Below w.heap.size w w' := by
  have hrw := hrow.keep hk
  obtain ⟨ao, cap, rfl⟩ := hrow.shape
  have hwe : Munch.weightsV l = Munch.weightV nd := by rw [hl1]; simp [Munch.weightsV]
  have hpw : Munch.weightV (.piece nd lo hi) = if 1 < hi then hi.toNat * Munch.weightV nd else Munch.weightV nd := Munch.weightV_piece _ _ _
  have hW2 : Munch.weightsV l ≤ 1000000000000000000 := by
    rw [hwe]
    rw [hpw] at hW
    split at hW
    · rename_i h1
      have : 1 * Munch.weightV nd ≤ hi.toNat * Munch.weightV nd := Nat.mul_le_mul_right _ (by omega)
      omega
    · exact hW
  have HPW : Hid _ := hpw
  have HWE : Hid _ := hwe
  clear hpw hwe hl1 hW
  have hmax : l.length ≤ 9223372036854775807 := by
    rcases hrow.own.2 with ⟨_, h0⟩ | ⟨g, cap', cur, _, _, _, h1, h2, _⟩
    · omega
    · unfold maxLen at h2; omega
  have HIH : Hid _ := ih; clear ih
  have HK : Hid _ := hk; clear hk
  go_enter Tryz.func19, Tryz.ntmps19
  go_wp2_with fail
  go_loopw [3, 4] (fun s i wr => ∃ k : Nat, k ≤ l.length ∧ i = .int .i64 k ∧ s = .int .i64 (Munch.weightsV (l.take k)) ∧ Blk wr w.heap.size 57 #[.int .i64 4, .slice none 0 0, .slice ao l.length cap, .int .i64 lo, .int .i64 hi] ∧ Below w.heap.size w wr) (fun _ i _ => l.length - (intOf i).toNat)
  case atStart => exact ⟨0, Nat.zero_le _, rfl, by simp [Munch.weightsV], Blk.new w _ _, (Below.refl _ _).alloc (Nat.le_refl _) _⟩
  case round =>
    obtain ⟨k, hk, rfl, rfl, hb, hnx⟩ := hrel
    obtain ⟨p0, p1, p2, p3, p4⟩ := hb.cells5
    have hle := weightsV_le l k
    by_cases hlt : k < l.length
    · have hkc : k < cs.length := by omega
      obtain ⟨g, rfl⟩ : ∃ g, ao = some ⟨g, 0, none⟩ := by
        rcases hrow.own.2 with ⟨_, h0⟩ | ⟨g, cap', cur, hv, _⟩
        · omega
        · exact ⟨g, by cases hv; rfl⟩
      have hgl : g < w.heap.size := hrw.lt g rfl
      have hcl : ∀ c ∈ cs, c.length = 5 := fun c h => by obtain ⟨_, _, _, _, _, _, _, _, _, rfl⟩ := hc c h; rfl
      obtain ⟨x, hx⟩ : ∃ x, x = cs[k] := ⟨_, rfl⟩
      have hsx : Shape x := by rw [hx]; exact hc _ (List.getElem_mem hkc)
      have hcell : ∀ j, j < 5 → wr.cell? ⟨g, k * 5 + j, none⟩ = x[j]? := fun j hj => by
        rw [hnx.cell (p := ⟨g, k * 5 + j, none⟩) hgl, hrw.own.cellAt (k * 5 + j) (by omega), flat_at cs hcl k hkc j hj, hx]
      have hw : WeighsTo w0 ok l[k] x := HIH.out k l[k] x (by simp [hlt]) (by rw [hx]; simp [hkc])
      have hwl := weightV_le l k hlt
      have hws := weightsV_take l k hlt
      have hwb := weightsV_le l (k + 1)
      have HWS : Hid _ := hws
      obtain ⟨kk, sa, sn, sc, ba, bn, bc, lo2, hi', rfl⟩ := hsx
      have e0 : wr.cell? ⟨g, k * 5, none⟩ = some (.int .i64 kk) := by have := hcell 0 (by omega); simpa using this
      have e1 : wr.cell? ⟨g, k * 5 + 1, none⟩ = some (.slice sa sn sc) := by have := hcell 1 (by omega); simpa using this
      have e2 : wr.cell? ⟨g, k * 5 + 2, none⟩ = some (.slice ba bn bc) := by have := hcell 2 (by omega); simpa using this
      have e3 : wr.cell? ⟨g, k * 5 + 3, none⟩ = some (.int .i64 lo2) := by have := hcell 3 (by omega); simpa using this
      have e4 : wr.cell? ⟨g, k * 5 + 4, none⟩ = some (.int .i64 hi') := by have := hcell 4 (by omega); simpa using this
      clear hcell hx hws
      generalize hA : Munch.weightsV (l.take k) = A at *
      generalize hC : Munch.weightV l[k] = C at *
      have HA : Hid _ := hA
      have HC : Hid _ := hC
      clear hA hC
      go_wp2_with fail
      refine (hw (by rw [HC.out]; omega) wr (by have := hnx.size; omega) (fun b hb hok => (hnx.block b (by omega)).trans (HK.out b hb hok))).mono ?_
      rintro e w3 ⟨rfl, hb3⟩
      rw [HC.out]
      go_wp2_with fail
      go_roundw
      case rel => exact ⟨k + 1, by omega, by go_num, by rw [HWS.out]; go_num, hb.below hb3 hb.lt, hnx.trans (hb3.mono hnx.size)⟩
      case measure => simp [intOf]; omega
    · obtain rfl : k = l.length := by omega
      rw [List.take_length] at *
      by_cases h1 : 1 < hi
      · have HF : Hid (((Munch.weightV (.piece nd lo hi) : Nat) : Int) = hi * (Munch.weightsV l : Nat)) := by
          show _ = _
          rw [HPW.out, if_pos h1, HWE.out, Int.natCast_mul, Int.toNat_of_nonneg (by omega)]
        generalize Munch.weightsV l = A at *
        have hm0 : 0 ≤ hi * (A : Int) := Int.mul_nonneg (by omega) (by omega)
        have hm1 : hi * (A : Int) ≤ 9 * (A : Int) := Int.mul_le_mul_of_nonneg_right hhi (by omega)
        go_wp2_with fail
        go_ret
        exact ⟨ret_int' (by rw [HF.out]), hnx⟩
      · have HF : Hid (((Munch.weightV (.piece nd lo hi) : Nat) : Int) = (Munch.weightsV l : Nat)) := by
          show _ = _
          rw [HPW.out, if_neg h1, HWE.out]
        generalize Munch.weightsV l = A at *
        go_wp2_with fail
        go_ret
        exact ⟨ret_int' (by rw [HF.out]), hnx⟩

theorem weight_any {w : World} {ok : Nat → Prop} {nd : Munch.Node} {c : List Value} (h : NodeIn w ok nd c) : Munch.Small nd → WeighsTo w ok nd c := by
  refine NodeIn.ind (motive := fun nd c => Munch.Small nd → WeighsTo w ok nd c) ?_ ?_ ?_ ?_ h
  · intro no sp g hok hb
    intro _ _ w' _ hk
    exact weight_set w' no sp _ ⟨_, _, _, rfl⟩
  · intro l v cs hl hrow hsub ih
    intro hsm hW w' hsz hk
    rw [Munch.small_row] at hsm
    have := weight_list w' w ok 2 (Or.inl rfl) l v cs hl hrow (fun c hc => by
      obtain ⟨i, hi, rfl⟩ := List.mem_iff_getElem.1 hc
      exact (hsub i l[i] cs[i] (by simp [hl ▸ hi]) (by simp [hi])).shape) (by rw [Munch.weightV_row] at hW; exact hW) hsz hk
      (fun i n c hi hc => ih i n c hi hc (hsm n (List.mem_of_getElem? hi)))
    rw [Munch.weightV_row]
    exact this
  · intro l v cs hl hrow hsub ih
    intro hsm hW w' hsz hk
    rw [Munch.small_form] at hsm
    have := weight_list w' w ok 3 (Or.inr rfl) l v cs hl hrow (fun c hc => by
      obtain ⟨i, hi, rfl⟩ := List.mem_iff_getElem.1 hc
      exact (hsub i l[i] cs[i] (by simp [hl ▸ hi]) (by simp [hi])).shape) (by rw [Munch.weightV_form] at hW; exact hW) hsz hk
      (fun i n c hi hc => ih i n c hi hc (hsm n (List.mem_of_getElem? hi)))
    rw [Munch.weightV_form]
    exact this
  · intro n c v lo hi hrow hsub ih
    intro hsm hW w' hsz hk
    rw [Munch.small_piece] at hsm
    exact weight_piece w' w ok lo hi hsm.2 n [n] rfl v [c] rfl (by simpa using hrow) (fun x hx => by simp at hx; subst hx; exact hsub.shape) hW hsz hk
      (fun i m x hi hc => by
        cases i with
        | zero => simp at hi hc; subst hi; subst hc; exact ih hsm.1
        | succ i => simp at hi)
end Go.Proofs.YtkoaeojdlanolaaGreatDoor
/-
  THE WALK of munchref.Weight.
-/
namespace Go.Proofs.YtkoaeojdlanolaaGreatDoor
open Go.RowKit

theorem flat_any (m : Nat) (cs : List (List Value)) (hc : ∀ c ∈ cs, c.length = m) (i : Nat) (h : i < cs.length) (j : Nat) (hj : j < m) : cs.flatten[i * m + j]? = (cs[i])[j]? := by
  induction cs generalizing i with
  | nil => simp at h
  | cons c r ih =>
    have hl : c.length = m := hc c (by simp)
    cases i with
    | zero => rw [List.flatten_cons, List.getElem?_append_left (by omega)]; simp
    | succ i =>
      rw [List.flatten_cons, List.getElem?_append_right (by rw [hl, Nat.add_mul]; omega), show (i + 1) * m + j - c.length = i * m + j by rw [hl, Nat.add_mul]; omega]
      simpa using ih (fun x hx => hc x (by simp [hx])) i (by simpa using h)

theorem weightL_take (l : List (List Munch.Part)) (i : Nat) (h : i < l.length) : Munch.weightL (l.take (i + 1)) = Munch.weightL (l.take i) + Munch.weightP l[i] := by
  induction l generalizing i with
  | nil => simp at h
  | cons n r ih =>
    cases i with
    | zero => simp [Munch.weightL]
    | succ i => have := ih i (by simpa using h); simp [Munch.weightL] at this ⊢; omega
theorem weightL_le (l : List (List Munch.Part)) (i : Nat) : Munch.weightL (l.take i) ≤ Munch.weightL l := by
  induction l generalizing i with
  | nil => simp
  | cons n r ih =>
    cases i with
    | zero => simp [Munch.weightL]
    | succ i => have := ih i; simp [Munch.weightL] at this ⊢; omega
theorem weightP_take (p : List Munch.Part) (i : Nat) (h : i < p.length) : Munch.weightP (p.take (i + 1)) = Munch.weightP (p.take i) + Munch.weightV p[i].2 := by
  unfold Munch.weightP
  have := weightsV_take (p.map (·.2)) i (by simpa using h)
  simpa [List.map_take] using this
theorem weightP_le (p : List Munch.Part) (i : Nat) : Munch.weightP (p.take i) ≤ Munch.weightP p := by
  unfold Munch.weightP
  have := weightsV_le (p.map (·.2)) i
  simpa [List.map_take] using this

theorem ownsRow_max {w : World} {base : Nat} {e : TypeId} {size : Nat} {v : Value} {n : Nat} {xs : List Value} (h : w.ownsRow base e size v n xs) : n ≤ 9223372036854775807 := by
  rcases h.2 with ⟨_, h0⟩ | ⟨g, cap', cur, _, _, _, h1, h2, _⟩
  · omega
  · unfold maxLen at h2; omega

set_option maxHeartbeats 4000000 in
theorem weightL_any (w : World) (ok : Nat → Prop) (v : Value) (l : List (List Munch.Part)) (cs : List (List Value)) (hl : SubsG PatIn 50 1 w ok v l cs) (hW : Munch.weightL l ≤ 1000000000000000000) (hsm : ∀ p ∈ l, ∀ x ∈ p, Munch.Small x.2) :
    Calls Tryz.prog 12 #[v] w fun e w' => e = .returned (.int .i64 (Munch.weightL l)) ∧ Below w.heap.size w w' := by
  obtain ⟨ao, cap, rfl⟩ := hl.row.shape
  have hmax := ownsRow_max hl.row.own
  have HSM : Hid _ := hsm; clear hsm
  go_enter Tryz.func12, Tryz.ntmps12
  go_wp2_with fail
  go_loopw [3, 4] (fun s i wr => ∃ k : Nat, k ≤ l.length ∧ i = .int .i64 k ∧ s = .int .i64 (Munch.weightL (l.take k)) ∧ Below w.heap.size w wr) (fun _ i _ => l.length - (intOf i).toNat)
  case atStart => exact ⟨0, Nat.zero_le _, rfl, by simp [Munch.weightL], Below.refl _ _⟩
  case round =>
    obtain ⟨wo, rfl⟩ : ∃ wo : World, wo = wr := ⟨_, rfl⟩
    obtain ⟨k, hk, rfl, rfl, hnx⟩ := hrel
    have hle := weightL_le l k
    by_cases hlt : k < l.length
    · have hkc : k < cs.length := by rw [hl.len]; exact hlt
      obtain ⟨g, rfl⟩ : ∃ g, ao = some ⟨g, 0, none⟩ := by
        rcases hl.row.own.2 with ⟨_, h0⟩ | ⟨g, cap', cur, hv, _⟩
        · omega
        · exact ⟨g, by cases hv; rfl⟩
      have hgl : g < w.heap.size := hl.row.lt g rfl
      obtain ⟨pv, pcs, hpc, hps⟩ := SubsG.children (P := PatIn) patMonos hl k l[k] cs[k] (by simp [hlt]) (by simp [hkc])
      have hone : ∀ c ∈ cs, c.length = 1 := by
        intro c hc
        obtain ⟨i, hi, rfl⟩ := List.mem_iff_getElem.1 hc
        obtain ⟨_, _, h, _⟩ := hl.sub i (l[i]'(by rw [← hl.len]; exact hi)) cs[i] (by simp [hl.len ▸ hi]) (by simp [hi])
        rw [h]; rfl
      have hcellL : w.cell? ⟨g, k, none⟩ = some pv := by
        have := flat_any 1 cs hone k hkc 0 (by omega)
        rw [Nat.mul_one, Nat.add_zero] at this
        rw [hl.row.own.cellAt k (by omega), this, hpc]; rfl
      obtain ⟨pa, pc, rfl⟩ := hps.row.shape
      have hpm := ownsRow_max hps.row.own
      have hLt := weightL_take l k hlt
      have hLl := weightL_le l (k + 1)
      have hPl := weightP_le l[k]
      have HSK : Hid _ := HSM.out l[k] (List.getElem_mem hlt)
      have HLT : Hid _ := hLt
      have hAC : Munch.weightL (l.take k) + Munch.weightP l[k] ≤ 1000000000000000000 := by omega
      obtain ⟨p, hp⟩ : ∃ p, p = l[k] := ⟨_, rfl⟩
      rw [← hp] at hps HSK HLT hAC hPl hcellL hpm
      clear hLt hLl hp hpc hone
      generalize Munch.weightL (l.take k) = A at *
      have hcO : wo.cell? ⟨g, k, none⟩ = some (.slice pa p.length pc) := (hnx.cell (p := ⟨g, k, none⟩) hgl).trans hcellL
      go_wp2_with fail
      go_loopw [3, 5] (fun s i wz => ∃ q : Nat, q ≤ p.length ∧ i = .int .i64 q ∧ s = .int .i64 (A + Munch.weightP (p.take q) : Nat) ∧ Below w.heap.size w wz) (fun _ i _ => p.length - (intOf i).toNat)
      case atStart => exact ⟨0, Nat.zero_le _, rfl, by simp [Munch.weightP, Munch.weightsV], hnx⟩
      case round =>
        obtain ⟨q, hq, rfl, rfl, hny⟩ := hrel
        have hcz : wr.cell? ⟨g, k, none⟩ = some (.slice pa p.length pc) := (hny.cell (p := ⟨g, k, none⟩) hgl).trans hcellL
        have hPq := hPl q
        by_cases hql : q < p.length
        · have hqc : q < pcs.length := by rw [hps.len]; exact hql
          obtain ⟨g2, rfl⟩ : ∃ g2, pa = some ⟨g2, 0, none⟩ := by
            rcases hps.row.own.2 with ⟨_, h0⟩ | ⟨g2, cap', cur, hv, _⟩
            · omega
            · exact ⟨g2, by cases hv; rfl⟩
          have hg2 : g2 < w.heap.size := hps.row.lt g2 rfl
          obtain ⟨cn, hcn, hnode⟩ := SubsG.children (P := PartIn) partMonos hps q p[q] pcs[q] (by simp [hql]) (by simp [hqc])
          have hsix : ∀ c ∈ pcs, c.length = 6 := by
            intro c hc
            obtain ⟨i, hi, rfl⟩ := List.mem_iff_getElem.1 hc
            obtain ⟨_, h, hn⟩ := hps.sub i (p[i]'(by rw [← hps.len]; exact hi)) pcs[i] (by simp [hps.len ▸ hi]) (by simp [hi])
            obtain ⟨_, _, _, _, _, _, _, _, _, h5⟩ := hn.shape
            rw [h, h5]; rfl
          have hcell : ∀ j, j < 6 → wr.cell? ⟨g2, q * 6 + j, none⟩ = (Value.bool p[q].1 :: cn)[j]? := fun j hj => by
            rw [hny.cell (p := ⟨g2, q * 6 + j, none⟩) hg2, hps.row.own.cellAt (q * 6 + j) (by omega), flat_any 6 pcs hsix q hqc j hj, hcn]
          have hwv := weight_any hnode (HSK.out p[q] (List.getElem_mem hql))
          have hPt := weightP_take p q hql
          have hPt2 := hPl (q + 1)
          have HPT : Hid _ := hPt
          obtain ⟨kk, sa, sn, sc, ba, bn, bc, lo, hi', rfl⟩ := hnode.shape
          have e0 : wr.cell? ⟨g2, q * 6 + 1, none⟩ = some (.int .i64 kk) := by have := hcell 1 (by omega); simpa using this
          have e1 : wr.cell? ⟨g2, q * 6 + 1 + 1, none⟩ = some (.slice sa sn sc) := by have := hcell 2 (by omega); simpa using this
          have e2 : wr.cell? ⟨g2, q * 6 + 1 + 2, none⟩ = some (.slice ba bn bc) := by have := hcell 3 (by omega); simpa using this
          have e3 : wr.cell? ⟨g2, q * 6 + 1 + 3, none⟩ = some (.int .i64 lo) := by have := hcell 4 (by omega); simpa using this
          have e4 : wr.cell? ⟨g2, q * 6 + 1 + 4, none⟩ = some (.int .i64 hi') := by have := hcell 5 (by omega); simpa using this
          clear hcell hcn hsix hPt
          generalize hD : Munch.weightP (p.take q) = D at *
          generalize hC : Munch.weightV p[q].2 = C at *
          have HC : Hid _ := hC
          clear hD hC
          have hCb : C ≤ 1000000000000000000 := by have := HPT.out; omega
          have hsum : A + D + C ≤ 1000000000000000000 := by have := HPT.out; omega
          go_wp2_with fail
          refine (hwv (by rw [HC.out]; omega) wr hny.size (fun b hb _ => hny.block b hb)).mono ?_
          rintro e w3 ⟨rfl, hb3⟩
          rw [HC.out]
          go_wp2_with fail
          go_roundw
          case rel => exact ⟨q + 1, by omega, by go_num, by rw [HPT.out]; go_num, hny.trans (hb3.mono hny.size)⟩
          case measure => simp [intOf]; omega
        · obtain rfl : q = p.length := by omega
          rw [List.take_length]
          go_wp2_with fail
          go_roundw
          case rel => exact ⟨k + 1, by omega, by go_num, by rw [HLT.out], hny⟩
          case measure => simp [intOf]; omega
    · obtain rfl : k = l.length := by omega
      go_wp2_with fail
      go_ret
      exact ⟨ret_int' (by rw [List.take_length]), hnx⟩
end Go.Proofs.YtkoaeojdlanolaaGreatDoor
/-
  THE WALK of munchref.Check.
-/
namespace Go.Proofs.YtkoaeojdlanolaaGreatDoor
open Go.RowKit

theorem checkV_long (s : ByteArray) (h : 80 < s.size) : Munch.checkV s = (1, 0) := by unfold Munch.checkV; rw [if_pos h]
theorem checkV_bad (s : ByteArray) (p : Nat) (h : s.size ≤ 80) (hl : Munch.listF s (Munch.fuel s) 0 none [] = .bad p) : Munch.checkV s = (2, (p : Int)) := by unfold Munch.checkV; rw [if_neg (by omega), hl]
theorem checkV_deep (s : ByteArray) (l : List (List Munch.Part)) (d : Nat) (h : s.size ≤ 80) (hl : Munch.listF s (Munch.fuel s) 0 none [] = .ok (l, some d)) : Munch.checkV s = (3, (d : Int)) := by unfold Munch.checkV; rw [if_neg (by omega), hl]
theorem checkV_heavy (s : ByteArray) (l : List (List Munch.Part)) (h : s.size ≤ 80) (hl : Munch.listF s (Munch.fuel s) 0 none [] = .ok (l, none)) (hw : 10 < Munch.weightL l) : Munch.checkV s = (4, 0) := by unfold Munch.checkV; rw [if_neg (by omega), hl]; simp [hw]
theorem checkV_ok (s : ByteArray) (l : List (List Munch.Part)) (h : s.size ≤ 80) (hl : Munch.listF s (Munch.fuel s) 0 none [] = .ok (l, none)) (hw : ¬ 10 < Munch.weightL l) : Munch.checkV s = (0, 0) := by unfold Munch.checkV; rw [if_neg (by omega), hl]; simp [hw]

set_option maxHeartbeats 2000000 in
theorem check_any (s : ByteArray) (w : World) (hs : s.size ≤ maxLen) :
    Calls Tryz.prog 6 #[.string s] w fun e w' => e = .returned (.tuple #[.int .i64 (Munch.checkV s).1, .int .i64 (Munch.checkV s).2]) ∧ Below w.heap.size w w' := by
  unfold maxLen at hs
  by_cases hb : 80 < s.size
  · rw [checkV_long s hb]
    have hb' : (80 : Int) < (s.size : Int) := by omega
    go_enter Tryz.func6, Tryz.ntmps6
    go_wp2_with fail
    go_ret2
    exact ⟨rfl, Below.refl _ _⟩
  · have hb' : (s.size : Int) ≤ (80 : Int) := by omega
    have HOUT : Hid _ := Munch.fuel_enough s
    have HLC : Hid _ := Munch.list_can s (Munch.fuel s) 0 none []
    go_enter Tryz.func6, Tryz.ntmps6
    go_wp2_with fail
    refine (read_any (Munch.fuel s) s _ (by omega) HOUT.out).mono ?_
    rintro e w1 (⟨l, d, v, cs, j, hl, rfl, hsub, hr, hb1⟩ | ⟨p, d, v, i, hl, rfl, hr, hb1⟩)
    · have c2 := hr.c2
      have c3 := hr.c3
      cases d with
      | some d =>
        have HV : Hid _ := checkV_deep s l d (by omega) hl
        clear hl
        have hd : deepI (some d) = (d : Int) := rfl
        rw [hd] at c3
        go_wp2_with fail
        go_quiet (fail)
        go_wp2_with fail
        go_ret2
        exact ⟨by rw [HV.out]; rfl, (hb1.mono (Nat.le_refl _)).trans ⟨rfl, rfl, rfl, Nat.le_refl _, fun _ _ => rfl⟩⟩
      | none =>
        have hd : deepI none = -1 := rfl
        rw [hd] at c3
        obtain ⟨⟨e1, he, hc⟩, hsm⟩ := HLC.out _ _ (by omega) (fun p hp => by cases hp) hl
        rw [show Munch.weightL [] = 0 from rfl, Nat.zero_add] at he
        have hbd : Munch.weightL l ≤ 1000000000000000000 := by rw [he]; exact hc.bound (by omega)
        have HSM : Hid _ := hsm
        clear he hc hsm
        by_cases hw : 10 < Munch.weightL l
        · have HV : Hid _ := checkV_heavy s l (by omega) hl hw
          clear hl
          have hwi : (10 : Int) < (Munch.weightL l : Int) := by omega
          go_wp2_with fail
          refine (weightL_any _ _ _ l cs hsub hbd HSM.out).mono ?_
          rintro e w2 ⟨rfl, hb2⟩
          go_wp2_with fail
          go_ret2
          exact ⟨by rw [HV.out]; rfl, hb1.trans (hb2.mono hb1.size)⟩
        · have HV : Hid _ := checkV_ok s l (by omega) hl hw
          clear hl
          have hwi : (Munch.weightL l : Int) ≤ (10 : Int) := by omega
          go_wp2_with fail
          refine (weightL_any _ _ _ l cs hsub hbd HSM.out).mono ?_
          rintro e w2 ⟨rfl, hb2⟩
          go_wp2_with fail
          go_ret2
          exact ⟨by rw [HV.out]; rfl, hb1.trans (hb2.mono hb1.size)⟩
    · have HV : Hid _ := checkV_bad s p (by omega) hl
      clear hl
      have c2 := hr.c2
      go_wp2_with fail
      go_quiet (fail)
      go_wp2_with fail
      go_ret2
      exact ⟨by rw [HV.out]; rfl, hb1.trans ⟨rfl, rfl, rfl, Nat.le_refl _, fun _ _ => rfl⟩⟩
end Go.Proofs.YtkoaeojdlanolaaGreatDoor
