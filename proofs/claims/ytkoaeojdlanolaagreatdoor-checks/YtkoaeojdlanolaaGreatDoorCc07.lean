import Derived.Test.YtkoaeojdlanolaaGreatDoorCc06
import Derived.Test.YtkoaeojdlanolaaGreatDoorSort
import Derived.Shelf.SlSortCmp.NoneTotal
import Derived.Test.YtkoaeojdlanolaaGreatDoorCc05
import Derived.Test.YtkoaeojdlanolaaGreatDoorCc04
import Derived.Test.YtkoaeojdlanolaaGreatDoorCc01
/-
  tree.settle.
-/
namespace Munch
open Go
theorem cb_refl : ∀ a : List UInt8, Lib.compareBytes a a = 0 := by
  intro a
  induction a with
  | nil => rfl
  | cons x r ih => rw [Lib.compareBytes, if_neg (by simp), if_neg (by simp), ih]
theorem cb_trans : ∀ a b c : List UInt8, Lib.compareBytes a b < 0 → Lib.compareBytes b c < 0 → Lib.compareBytes a c < 0 := by
  intro a
  induction a with
  | nil =>
    intro b c h1 h2
    cases b with
    | nil => simp [Lib.compareBytes] at h1
    | cons y b =>
      cases c with
      | nil => simp [Lib.compareBytes] at h2
      | cons z c => simp [Lib.compareBytes]
  | cons x a ih =>
    intro b c h1 h2
    cases b with
    | nil => simp [Lib.compareBytes] at h1
    | cons y b =>
      cases c with
      | nil => simp [Lib.compareBytes] at h2
      | cons z c =>
        rw [Lib.compareBytes] at h1 h2 ⊢
        simp only [UInt8.lt_iff_toNat_lt] at h1 h2 ⊢
        split at h1
        · split at h2
          · rw [if_pos (by omega)]; decide
          · split at h2
            · exact absurd h2 (by decide)
            · rw [if_pos (by omega)]; decide
        · split at h1
          · exact absurd h1 (by decide)
          · split at h2
            · rw [if_pos (by omega)]; decide
            · split at h2
              · exact absurd h2 (by decide)
              · rw [if_neg (by omega), if_neg (by omega)]; exact ih b c h1 h2
theorem cb_ntrans : ∀ a b c : List UInt8, ¬ Lib.compareBytes a b < 0 → ¬ Lib.compareBytes b c < 0 → ¬ Lib.compareBytes a c < 0 := by
  intro a
  induction a with
  | nil =>
    intro b c h1 h2
    cases b with
    | nil => exact h2
    | cons y b => simp [Lib.compareBytes] at h1
  | cons x a ih =>
    intro b c h1 h2
    cases c with
    | nil => simp [Lib.compareBytes]
    | cons z c =>
      cases b with
      | nil => simp [Lib.compareBytes] at h2
      | cons y b =>
        rw [Lib.compareBytes] at h1 h2 ⊢
        simp only [UInt8.lt_iff_toNat_lt] at h1 h2 ⊢
        split at h1
        · exact absurd (by decide) h1
        · split at h1
          · split at h2
            · exact absurd (by decide) h2
            · rw [if_neg (by omega), if_pos (by omega)]; decide
          · split at h2
            · exact absurd (by decide) h2
            · split at h2
              · rw [if_neg (by omega), if_pos (by omega)]; decide
              · rw [if_neg (by omega), if_neg (by omega)]; exact ih b c h1 h2
end Munch
namespace Go.Proofs.YtkoaeojdlanolaaGreatDoor
open Go.RowKit

/-- A value and its key. -/
abbrev KTr := { t : Tr // Keyed t.v t.k }
def encT (x : KTr) : Value := x.1.v
def cmpT (x y : KTr) : Int := Lib.compareBytes x.1.k y.1.k
theorem swoT : Go.Sort.SWO (ltOf cmpT) where
  irrefl x := by unfold ltOf cmpT; rw [Munch.cb_refl]; decide
  trans x y z h1 h2 := by
    unfold ltOf cmpT at *
    simp only [decide_eq_true_eq] at *
    exact Munch.cb_trans _ _ _ h1 h2
  ntrans x y z h1 h2 := by
    unfold ltOf cmpT at *
    simp only [decide_eq_false_iff_not] at *
    exact Munch.cb_ntrans _ _ _ h1 h2

theorem block_grow (w : World) (os : Array Obj) (b : Nat) (h : b < w.heap.size) : (Go.Sort.grow w os).heap[b]? = w.heap[b]? := by
  simp [Go.Sort.grow, Array.getElem?_append, h]

set_option maxHeartbeats 1000000 in
set_option maxRecDepth 100000 in
theorem sort_any (ts : List Tr) (hne : ts ≠ []) (hlen : ts.length ≤ 1000000) (g cap : Nat) (w : World) (hK : ∀ t ∈ ts, Keyed t.v t.k) (hR : RowIs w g cap (ts.map (·.v))) :
    Calls Tryz.prog 100 #[.slice (some ⟨g, 0, none⟩) ts.length cap, .func (.func 101) #[] #[]] w fun e w' =>
      e = .returned (.tuple #[]) ∧ ∃ us : List Tr, us.Perm ts ∧ RowIs w' g cap (us.map (·.v)) ∧ Turned g w w' := by
  obtain ⟨L, hL⟩ : ∃ L : List KTr, L.map (·.1) = ts := ⟨ts.pmap Subtype.mk hK, by simp [List.map_pmap]⟩
  have hLl : L.length = ts.length := by rw [← hL]; simp
  haveI : Inhabited KTr := by
    cases L with
    | nil => exact absurd (by rw [← hL]; rfl) hne
    | cons x r => exact ⟨x⟩
  have hgl := hR.lt
  have hmax : ts.length ≤ cap ∧ cap ≤ 140737488355328000000 := by
    obtain ⟨cur, _, _, h2, h3, _⟩ := hR
    unfold maxLen at h3
    simp at h2
    omega
  have hH : Go.Sort.Holds encT w g 0 L.toArray := by
    intro j hj
    have hj' : j < L.length := by simpa using hj
    refine ⟨?_, hR.frozen _⟩
    rw [Nat.zero_add, hR.cell j (by simp; omega)]
    simp only [List.getElem_map]
    have : (L.toArray[j]!) = L[j] := by simp [hj']
    rw [this]
    have e : ts[j]'(by omega) = L[j].1 := by simp [← hL]
    rw [e]; rfl
  have hs := Any.slices_SortFunc Tryz.sortTree encT (fun x => by obtain ⟨T, p, _, _, h, _⟩ := x.2; show (x.1.v).oneCell' = true; rw [h]; rfl) cmpT swoT 101 #[] g 0 cap L.toArray w enters_cmp
    (fun m os dk hs x y => (cmp_call x.1.v y.1.v x.1.k y.1.k _ x.2 y.2).mono fun e w' ⟨he, q, os', hw⟩ => ⟨he, q, os', hw⟩) hH hgl (by simp; omega)
  have hsz : L.toArray.size = ts.length := by simpa using hLl
  rw [hsz] at hs
  refine Calls.mono hs ?_
  rintro e w' ⟨rfl, d, n, os, hp, _, rfl⟩
  obtain ⟨hd1, _, hd3⟩ := hp
  rw [hsz] at hd1
  have hperm : d.toList.Perm L := by
    rw [← hd1, Array.extract_size] at hd3
    have e : (L.toArray.extract 0 d.size) = L.toArray := by rw [hd1, ← hsz, Array.extract_size]
    rw [e] at hd3
    simpa using hd3
  refine ⟨rfl, d.toList.map (·.1), ?_, ?_, ?_⟩
  · rw [← hL]; exact hperm.map _
  · obtain ⟨cur, hb, h1, h2, h3, h4⟩ := hR
    refine ⟨Go.Sort.putCells encT 0 d cur, ?_, ?_, ?_, h3, ?_⟩
    · show (Go.Sort.grow (Go.Sort.putRow encT (Go.Sort.ahead w n) g 0 d) os).heap[g]? = _
      rw [block_grow _ _ _ (by simp [Go.Sort.putRow, Go.Sort.mapBlock, Go.Sort.ahead]; exact hgl)]
      show (w.heap.modify g _)[g]? = _
      have h' : w.heap[g] = .cells cur 72 (0, 0) := by
        have hb' : w.heap[g]? = some (.cells cur 72 (0, 0)) := hb
        simpa [Array.getElem?_eq_getElem hgl] using hb'
      rw [Array.getElem?_eq_getElem (by simpa using hgl), Array.getElem_modify_self, h']
      rfl
    · simp [Go.Sort.putCells, h1]
    · simp at h2 ⊢; omega
    · apply List.ext_getElem?
      intro i
      have hlt : (List.map (fun x => x.v) (List.map (fun x => x.1) d.toList)).length = d.size := by simp
      rw [hlt, List.getElem?_take]
      by_cases hi : i < d.size
      · rw [if_pos hi]
        have hic : i < cur.size := by simp at h2; omega
        simp [Go.Sort.putCells, hi, hic, encT]
      · rw [if_neg hi, List.getElem?_eq_none (by simp; omega)]
  · refine ⟨?_, ?_, ?_⟩
    · refine ⟨rfl, rfl, rfl, ?_, ?_⟩
      · simp [sortWorld, Go.Sort.grow, Go.Sort.putRow, Go.Sort.mapBlock, Go.Sort.ahead]
      · intro k hk
        show (Go.Sort.grow (Go.Sort.putRow encT (Go.Sort.ahead w n) g 0 d) os).heap[k]? = _
        rw [block_grow _ _ _ (by simp [Go.Sort.putRow, Go.Sort.mapBlock, Go.Sort.ahead]; omega)]
        show (w.heap.modify g _)[k]? = _
        rw [Array.getElem?_modify, if_neg (by omega)]
    · simp [sortWorld, Go.Sort.grow, Go.Sort.putRow, Go.Sort.mapBlock, Go.Sort.ahead]
    · intro k hk hne'
      show (Go.Sort.grow (Go.Sort.putRow encT (Go.Sort.ahead w n) g 0 d) os).heap[k]? = _
      rw [block_grow _ _ _ (by simp [Go.Sort.putRow, Go.Sort.mapBlock, Go.Sort.ahead]; omega)]
      show (w.heap.modify g _)[k]? = _
      rw [Array.getElem?_modify, if_neg (fun e => hne' e.symm)]

/-- What is left of trees of which each key stays once. -/
structure Settled (us ts : List Tr) : Prop where
  from_ : ∀ u ∈ us, u ∈ ts
  all : ∀ t ∈ ts, ∃ u ∈ us, u.k = t.k
  sum : (us.map (·.n)).sum ≤ (ts.map (·.n)).sum
  len : us.length ≤ ts.length
theorem Settled.nil : Settled [] [] := ⟨fun _ h => h, (fun _ h => by cases h), Nat.le_refl _, Nat.le_refl _⟩
theorem sum_sublist {a b : List Tr} (h : a.Sublist b) : (a.map (·.n)).sum ≤ (b.map (·.n)).sum := by
  induction h with
  | slnil => exact Nat.le_refl _
  | cons x _ ih => simp; omega
  | cons_cons x _ ih => simp; omega
theorem sum_perm {a b : List Tr} (h : a.Perm b) : (a.map (·.n)).sum = (b.map (·.n)).sum := by
  induction h with
  | nil => rfl
  | cons x _ ih => simp; omega
  | swap x y l => simp; omega
  | trans _ _ ih1 ih2 => omega

set_option maxHeartbeats 1000000 in
set_option maxRecDepth 100000 in
theorem settle_any (ts : List Tr) (hne : ts ≠ []) (hlen : ts.length ≤ 1000000) (g cap : Nat) (w : World) (hK : ∀ t ∈ ts, Keyed t.v t.k) (hR : RowIs w g cap (ts.map (·.v))) :
    Calls Tryz.prog 80 #[.slice (some ⟨g, 0, none⟩) ts.length cap] w fun e w' =>
      ∃ us : List Tr, e = .returned (.slice (some ⟨g, 0, none⟩) us.length cap) ∧ Settled us ts ∧ RowIs w' g cap (us.map (·.v)) ∧ Turned g w w' := by
  have hs := sort_any ts hne hlen g cap w hK hR
  have HK : Hid _ := hK; clear hK
  have hgl := hR.lt
  go_enter Tryz.func80, Tryz.ntmps80
  go_wp2_with fail
  refine hs.mono ?_
  rintro e w1 ⟨rfl, us, hp, hR1, ht1⟩
  clear hs hR
  have hc := compact_any us g cap w1 (fun t ht => HK.out t (hp.mem_iff.1 ht)) hR1
  rw [hp.length_eq] at hc
  have HP : Hid _ := hp; clear hp
  go_wp2_with fail
  refine hc.mono ?_
  rintro e w2 ⟨vs, rfl, hsub, hall, hR2, ht2⟩
  clear hc
  have HS : Hid (Settled vs ts) := by
    show Settled vs ts
    exact ⟨fun u hu => HP.out.mem_iff.1 (hsub.subset hu), fun t ht => hall t (HP.out.mem_iff.2 ht), by rw [← sum_perm HP.out]; exact sum_sublist hsub, by rw [← HP.out.length_eq]; exact hsub.length_le⟩
  go_wp2_with fail
  go_ret
  exact ⟨vs, rfl, HS.out, hR2, ⟨ht1.below.trans ht2.below, ht1.keeps.trans ht2.keeps⟩⟩

set_option maxHeartbeats 1000000 in
set_option maxRecDepth 100000 in
theorem settle_none (ao : Option Addr) (cap : Nat) (w : World) :
    Calls Tryz.prog 80 #[.slice ao 0 cap] w fun e w' => e = .returned (.slice ao 0 cap) ∧ w' = w := by
  have hs := AnyF.slices_SortFunc_none { Tryz.sortTree with } ao cap (.func (.func 101) #[] #[]) w
  change Calls Tryz.prog 100 _ _ _ at hs
  go_enter Tryz.func80, Tryz.ntmps80
  go_wp2_with (first | (go_at_call 100; refine hs.mono ?_; rintro e w1 ⟨rfl, rfl⟩) | (go_at_call 103; go_in))
  go_ret
  exact ⟨rfl, rfl⟩
end Go.Proofs.YtkoaeojdlanolaaGreatDoor
/-
  tree.Empty; OneOf, AllOf of no tree.
-/
namespace Go.Proofs.YtkoaeojdlanolaaGreatDoor
open Go.RowKit
open Munch (Words Wempty Wbytes Wcat Wany Wall Wnot KeyF Times numText)

/-- What a call that makes a tree answers. -/
def Gives (w : World) (ok : Nat → Prop) (L : Words) (n : Nat) (e : Ending) (w' : World) : Prop :=
  ∃ r : Tr, e = .returned r.v ∧ TreeOk w' ok r ∧ r.L = L ∧ r.n ≤ n ∧ Below w.heap.size w w'

set_option maxHeartbeats 1000000 in
set_option maxRecDepth 100000 in
theorem mergeHeads_none (w : World) : Calls Tryz.prog 109 #[.slice none 0 0] w fun e w' => e = .returned (.slice none 0 0) ∧ Below w.heap.size w w' := by
  go_enter Tryz.func109, Tryz.ntmps109
  go_wp2_with fail
  have hb0 := (Below.refl w.heap.size w).alloc (Nat.le_refl _) (.cells #[.slice none 0 0] 211)
  have k0 : Blk (w.alloc (.cells #[.slice none 0 0] 211)) w.heap.size 211 #[.slice none 0 0] := Blk.new _ _ _
  refine (storeNew_any _).mono ?_
  rintro e w1 ⟨s, b, rfl, hS, hs, hb, hb1⟩
  have hb2 := hb0.trans (hb1.mono (by simp))
  have k1 := (k0.below hb1 (by simp)).cell 0
  clear hS hs hb
  go_wp2_with fail
  refine wp_loop_rounds 1 ?_
  rw [rounds_succ]
  go_wp2_with fail
  refine wp_loop_rounds 1 ?_
  rw [rounds_succ]
  go_wp2_with fail
  go_ret
  exact ⟨rfl, hb2⟩

set_option maxHeartbeats 1000000 in
set_option maxRecDepth 100000 in
theorem mergeBytes_none (w : World) : Calls Tryz.prog 81 #[.slice none 0 0] w fun e w' => e = .returned (.slice none 0 0) ∧ Below w.heap.size w w' := by
  go_enter Tryz.func81, Tryz.ntmps81
  go_wp2_with fail
  refine wp_loop_rounds 1 ?_
  rw [rounds_succ]
  go_wp2_with fail
  go_ret
  exact ⟨rfl, Below.refl _ _⟩

/-- A key with no keys inside. -/
theorem key_none (a b : Array UInt8) (x : ByteArray) (h : x.data.toList = []) : ((⟨a⟩ : ByteArray) ++ x ++ ⟨b⟩).data.toList = a.toList ++ b.toList := by
  simp [h]

set_option maxHeartbeats 2000000 in
set_option maxRecDepth 100000 in
theorem oneOf_none (w : World) : Calls Tryz.prog 84 #[.slice none 0 0] w fun e w' => ∃ r : Tr, e = .returned r.v ∧ r.k = [60, 62] ∧ r.L = Wany [] ∧ r.n = 1 ∧ (∀ w'' ok, TreeOk w'' ok r) ∧ Below w.heap.size w w' := by
  go_enter Tryz.func84, Tryz.ntmps84
  go_wp2_with fail
  refine wp_loop_rounds 1 ?_
  rw [rounds_succ]
  go_wp2_with fail
  refine (mergeHeads_none w).mono ?_
  rintro e w1 ⟨rfl, hb1⟩
  have hs := settle_none none 0 w1
  go_wp2_with fail
  refine hs.mono ?_
  rintro e w2 ⟨rfl, rfl⟩
  clear hs
  have ho := opposed_any (.slice none 0 0) [] w2 (none_held w2 (fun _ => True))
  go_wp2_with fail
  refine ho.mono ?_
  rintro e w3 ⟨o, rfl, hno, hb3⟩
  clear ho
  obtain rfl : o = false := by
    cases o with
    | false => rfl
    | true => obtain ⟨t, ht, _⟩ := hno rfl; cases ht
  clear hno
  have hh := has_any (.slice none 0 0) [] ⟨#[38, 60, 62]⟩ w3 (none_held w3 (fun _ => True))
  go_wp2_with fail
  refine hh.mono ?_
  rintro e w4 ⟨rfl, hb4⟩
  clear hh
  have hj := joinKeys_any (.slice none 0 0) [] w4 (none_held w4 (fun _ => True)) (by simp)
  go_wp2_with fail
  refine hj.mono ?_
  rintro e w5 ⟨x, rfl, hx, hb5⟩
  clear hj
  have hxs : x.size = 0 := by
    have : x.data.toList.length = 0 := by rw [hx]; rfl
    simpa using this
  go_wp2_with fail
  go_ret
  have hb9 := hb1.trans ((hb3.trans ((hb4.trans (hb5.mono hb4.size)).mono hb3.size)).mono hb1.size)
  refine ⟨⟨.iface 186 (.agg #[.slice none 0 0, .string ((⟨#[60]⟩ : ByteArray) ++ x ++ (⟨#[62]⟩ : ByteArray))]), [60, 62], Wany [], 1⟩, rfl, rfl, rfl, rfl, fun w'' ok => ⟨1, Or.inr (Or.inr (Or.inr (Or.inl ⟨[], .slice none 0 0, (⟨#[60]⟩ : ByteArray) ++ x ++ (⟨#[62]⟩ : ByteArray), rfl, key_none #[60] #[62] x hx, (none_held w'' ok).held, (fun y hy => by cases hy), rfl, rfl, by simp, Nat.le_refl _, by simp⟩)))⟩, ?_⟩
  first | exact hb9 | exact hb9.alloc (by have := hb9.size; omega) _

set_option maxHeartbeats 2000000 in
set_option maxRecDepth 100000 in
theorem allOf_none (w : World) : Calls Tryz.prog 59 #[.slice none 0 0] w fun e w' => ∃ r : Tr, e = .returned r.v ∧ r.k = [38, 60, 62] ∧ r.L = Wall [] ∧ r.n = 1 ∧ (∀ w'' ok, TreeOk w'' ok r) ∧ Below w.heap.size w w' := by
  go_enter Tryz.func59, Tryz.ntmps59
  go_wp2_with fail
  refine wp_loop_rounds 1 ?_
  rw [rounds_succ]
  go_wp2_with fail
  refine (mergeBytes_none w).mono ?_
  rintro e w1 ⟨rfl, hb1⟩
  have hs := settle_none none 0 w1
  go_wp2_with fail
  refine hs.mono ?_
  rintro e w2 ⟨rfl, rfl⟩
  clear hs
  have ho := opposed_any (.slice none 0 0) [] w2 (none_held w2 (fun _ => True))
  go_wp2_with fail
  refine ho.mono ?_
  rintro e w3 ⟨o, rfl, hno, hb3⟩
  clear ho
  obtain rfl : o = false := by
    cases o with
    | false => rfl
    | true => obtain ⟨t, ht, _⟩ := hno rfl; cases ht
  clear hno
  have hh := has_any (.slice none 0 0) [] ⟨#[60, 62]⟩ w3 (none_held w3 (fun _ => True))
  go_wp2_with fail
  refine hh.mono ?_
  rintro e w4 ⟨rfl, hb4⟩
  clear hh
  have hj := joinKeys_any (.slice none 0 0) [] w4 (none_held w4 (fun _ => True)) (by simp)
  go_wp2_with fail
  refine hj.mono ?_
  rintro e w5 ⟨x, rfl, hx, hb5⟩
  clear hj
  have hxs : x.size = 0 := by
    have : x.data.toList.length = 0 := by rw [hx]; rfl
    simpa using this
  go_wp2_with fail
  go_ret
  have hb9 := hb1.trans ((hb3.trans ((hb4.trans (hb5.mono hb4.size)).mono hb3.size)).mono hb1.size)
  refine ⟨⟨.iface 140 (.agg #[.slice none 0 0, .string ((⟨#[38, 60]⟩ : ByteArray) ++ x ++ (⟨#[62]⟩ : ByteArray))]), [38, 60, 62], Wall [], 1⟩, rfl, rfl, rfl, rfl, fun w'' ok => ⟨1, Or.inr (Or.inr (Or.inr (Or.inr (Or.inl ⟨[], .slice none 0 0, (⟨#[38, 60]⟩ : ByteArray) ++ x ++ (⟨#[62]⟩ : ByteArray), rfl, key_none #[38, 60] #[62] x hx, (none_held w'' ok).held, (fun y hy => by cases hy), rfl, rfl, by simp, Nat.le_refl _, by simp⟩))))⟩, ?_⟩
  first | exact hb9 | exact hb9.alloc (by have := hb9.size; omega) _

theorem setText_none (S : Nat → Bool) (h : setText S = []) : ∀ c, c < 256 → S c = false := by
  have e : setText S = setText (fun _ => false) := by rw [h]; decide +kernel
  exact setText_inj S _ e
theorem setText_some (S : Nat → Bool) (h : setText S ≠ []) : ∃ c, c < 256 ∧ S c = true := by
  apply Classical.byContradiction
  intro hn
  apply h
  have hs : ∀ c, c < 256 → S c = false := fun c hc => by
    cases hh : S c with
    | false => rfl
    | true => exact absurd ⟨c, hc, hh⟩ hn
  unfold setText
  cases hl : Munch.spansFrom S 0 with
  | nil => rfl
  | cons x r =>
    exfalso
    have hx : x ∈ Munch.spansF S 256 0 := by
      have : Munch.spansF S 256 0 = x :: r := hl
      rw [this]; simp
    have hle := spansF_le S _ _ _ hx
    have := (spansF_in S 256 0 x.1 (by omega) (by omega) (by omega)).2 ⟨x, hx, Nat.le_refl _, hle.2.1⟩
    rw [hs x.1 (by omega)] at this
    cases this
end Go.Proofs.YtkoaeojdlanolaaGreatDoor
/-
  tree.Bytes.
-/
namespace Go.Proofs.YtkoaeojdlanolaaGreatDoor
open Go.RowKit
open Munch (Words Wempty Wbytes Wcat Wany Wall Wnot KeyF Times numText)

theorem bytes_none (S : Nat → Bool) (h : ∀ c, c < 256 → S c = false) : Wbytes S = Wany [] := by
  funext u; apply propext; constructor
  · rintro ⟨c, rfl, hc⟩
    rw [h c.toNat (UInt8.toNat_lt c)] at hc; cases hc
  · rintro ⟨B, hB, _⟩; cases hB

theorem key_round (a b : UInt8) (x : ByteArray) (k : List UInt8) (h : x.data.toList = k) : IsKey ((⟨#[a]⟩ : ByteArray) ++ x ++ (⟨#[b]⟩ : ByteArray)) (a :: (k ++ [b])) := by
  unfold IsKey; simp [h]

set_option maxHeartbeats 1000000 in
set_option maxRecDepth 100000 in
theorem bytes_any (v : Value) (S : Nat → Bool) (w : World) (ok : Nat → Prop) (hS : SetOk w ok v S) (hl : Laid w) :
    Calls Tryz.prog 105 #[v] w fun e w' => ∃ r : Tr, e = .returned r.v ∧ TreeOk w' (w.heap.size ≤ ·) r ∧ r.L = Wbytes S ∧ r.n = 1 ∧ Below w.heap.size w w' := by
  have h1 := layOf_any v S w ok hS
  obtain ⟨f0, c0, rfl⟩ := hS.notAgg
  go_enter Tryz.func105, Tryz.ntmps105
  go_wp2_with fail
  refine h1.mono ?_
  rintro e w1 ⟨v1, rfl, hS1, hb1⟩
  clear h1
  have h2 := text_any v1 S w1 _ hS1 (hl.keep hb1)
  obtain ⟨f1, c1, rfl⟩ := hS1.notAgg
  go_wp2_with fail
  refine h2.mono ?_
  rintro e w2 ⟨x, rfl, hx, hxs, hb2⟩
  clear h2
  have hb12 := hb1.trans (hb2.mono hb1.size)
  have hS2 := hS1.keep (keeps_below hb2)
  by_cases hne : setText S = []
  · have hx0 : x = ⟨#[]⟩ := by
      cases x with
      | mk d => simp at hx; rw [hne] at hx; congr; exact Array.toList_eq_nil_iff.1 hx
    subst hx0
    have HS : Hid _ := setText_none S hne
    have h3 := oneOf_none w2
    clear hS1 hS2 hx hne
    go_wp2_with fail
    refine h3.mono ?_
    rintro e w3 ⟨r, rfl, hrk, hrL, hrn, hrok, hb3⟩
    clear h3
    obtain ⟨T, p, hv⟩ := (hrok w3 (fun _ => True)).shape
    rw [hv]
    go_wp2_with fail
    go_ret
    exact ⟨r, congrArg Ending.returned hv.symm, hrok _ _, by rw [hrL]; exact (bytes_none S HS.out).symm, hrn, hb12.trans (hb3.mono hb12.size)⟩
  · have hx0 : x ≠ ⟨#[]⟩ := by
      intro e; subst e; exact hne hx.symm
    have HS : Hid _ := setText_some S hne
    have he : x.toList.isEmpty = false := by
      rw [ByteArray.toList_eq, hx]
      cases hh : setText S with
      | nil => exact absurd hh hne
      | cons a r => rfl
    have HX : Hid _ := hx
    have HT : Hid _ := hS2
    clear hx hne hS1 hS2
    go_wp2_with fail
    go_ret
    exact ⟨⟨.iface 181 (.agg #[.func (.func f1) #[] c1, .string ((⟨#[91]⟩ : ByteArray) ++ x ++ (⟨#[93]⟩ : ByteArray))]), 91 :: (setText S ++ [93]), Wbytes S, 1⟩, rfl, ⟨1, Or.inr (Or.inl ⟨S, _, _, rfl, key_round 91 93 x _ HX.out, HT.out, rfl, HS.out, rfl, Nat.le_refl _⟩)⟩, rfl, rfl, hb12⟩
end Go.Proofs.YtkoaeojdlanolaaGreatDoor
