import Derived.Test.YtkoaeojdlanolaaGreatDoorRows
import Derived.Test.YtkoaeojdlanolaaGreatDoorCa01
import Derived.WalkKit
import Derived.WalkSpells
import Derived.WalkLawsBesides
import Derived.Deep.QuietTactic
import Derived.BigQuiet
import Derived.Maps.Own
import Derived.Maps.OwnOps
/-
  SETS OF BYTES AS FUNCTIONS: set.Span, AnyOf, AllOf, Outside, Lay.
-/
namespace Go.Proofs.YtkoaeojdlanolaaGreatDoor
open Go.RowKit

/-- A function value that is entered when it is called. -/
def Enters (f : FuncId) : Prop := ∀ (args : Array Value) (w : World), (callFunc f args).run Tryz.prog w = .ok (.enter f args) w

/-- The blocks that are 'ok' are as they were. -/
def Keeps (ok : Nat → Prop) (w w' : World) : Prop := w.heap.size ≤ w'.heap.size ∧ ∀ b, b < w.heap.size → ok b → w'.heap[b]? = w.heap[b]?
theorem Keeps.refl (ok : Nat → Prop) (w : World) : Keeps ok w w := ⟨Nat.le_refl _, fun _ _ _ => rfl⟩
theorem Keeps.trans {ok : Nat → Prop} {a b c : World} (h : Keeps ok a b) (h' : Keeps ok b c) : Keeps ok a c :=
  ⟨Nat.le_trans h.1 h'.1, fun k hk hok => (h'.2 k (by have := h.1; omega) hok).trans (h.2 k hk hok)⟩
theorem Keeps.mono {ok ok' : Nat → Prop} {a b : World} (h : Keeps ok' a b) (hm : ∀ k, k < a.heap.size → ok k → ok' k) : Keeps ok a b := ⟨h.1, fun k hk hok => h.2 k hk (hm k hk hok)⟩
theorem keeps_below {ok : Nat → Prop} {w w' : World} (h : Below w.heap.size w w') : Keeps ok w w' := ⟨h.size, fun b hb _ => h.block b hb⟩
theorem blk_keeps {ok : Nat → Prop} {w w' : World} {b : Nat} {t : TypeId} {c : Array Value} (h : Blk w b t c) (hk : Keeps ok w w') (hb : ok b) : Blk w' b t c := (hk.2 b h.lt hb).trans h

/-- .. or new. -/
def okN (ok : Nat → Prop) (n : Nat) : Nat → Prop := fun b => ok b ∨ n ≤ b

/-- A function value that tells whether a byte is in S, in every world that keeps the blocks that are ok. -/
def SetOk (w : World) (ok : Nat → Prop) (v : Value) (S : Nat → Bool) : Prop :=
  ∃ (f : FuncId) (caps : Array Value), v = .func (.func f) #[] caps ∧ Enters f ∧
    ∀ (c : Nat) (w' : World), c < 256 → Keeps ok w w' → Calls Tryz.prog f (#[.int .u8 c] ++ caps) w' fun e w'' => e = .returned (.bool (S c)) ∧ Below w'.heap.size w' w''

theorem SetOk.keep {w w' : World} {ok : Nat → Prop} {v : Value} {S : Nat → Bool} (h : SetOk w ok v S) (hb : Keeps ok w w') : SetOk w' ok v S := by
  obtain ⟨f, caps, rfl, he, hc⟩ := h
  exact ⟨f, caps, rfl, he, fun c w'' hlt hb' => hc c w'' hlt (hb.trans hb')⟩
theorem SetOk.mono {w : World} {ok ok' : Nat → Prop} {v : Value} {S : Nat → Bool} (h : SetOk w ok v S) (hm : ∀ b, b < w.heap.size → ok b → ok' b) : SetOk w ok' v S := by
  obtain ⟨f, caps, rfl, he, hc⟩ := h
  exact ⟨f, caps, rfl, he, fun c w'' hlt hb' => hc c w'' hlt (hb'.mono hm)⟩
theorem SetOk.congr {w : World} {ok : Nat → Prop} {v : Value} {S S' : Nat → Bool} (h : SetOk w ok v S) (he : ∀ c, c < 256 → S c = S' c) : SetOk w ok v S' := by
  obtain ⟨f, caps, rfl, hf, hc⟩ := h
  exact ⟨f, caps, rfl, hf, fun c w'' hlt hb' => by rw [← he c hlt]; exact hc c w'' hlt hb'⟩

theorem enters_of {f : FuncId} {fn : Func} (hf : Tryz.prog.funcs[f]? = some fn) (hname : (fn.name == "runtime.NumGoroutine") = false) (hb : fn.body.isNone = false) : Enters f := by
  intro args w
  have h1 : ¬ fn.name = "runtime.NumGoroutine" := by simpa using hname
  have h2 : ¬ fn.body = none := by intro e; rw [e] at hb; cases hb
  simp [callFunc, go_sem, hf, h1, h2]

def spanV (a b c : Nat) : Bool := decide (a ≤ c) && decide (c ≤ b)

theorem enters_span : Enters 178 := enters_of Tryz.func178 (by kernel_rfl) (by kernel_rfl)

theorem ret_bool {a b : Bool} (h : a = b) : Ending.returned (.bool a) = .returned (.bool b) := by rw [h]

set_option maxHeartbeats 1000000 in
theorem span_call (a b c g h : Nat) (w : World) (h1 : w.cell? ⟨g, 0, none⟩ = some (.int .u8 a)) (h2 : w.cell? ⟨h, 0, none⟩ = some (.int .u8 b)) :
    Calls Tryz.prog 178 #[.int .u8 c, .pointer (some ⟨g, 0, none⟩), .pointer (some ⟨h, 0, none⟩)] w fun e w' => e = .returned (.bool (spanV a b c)) ∧ Below w.heap.size w w' := by
  by_cases hac : a ≤ c
  · have hv : spanV a b c = decide (c ≤ b) := by simp [spanV, hac]
    rw [hv]
    have hac' : (a : Int) ≤ c := by omega
    clear hv
    go_enter Tryz.func178, Tryz.ntmps178
    go_wp2_with fail
    go_ret
    exact ⟨ret_bool (by simp), Below.refl _ _⟩
  · have hv : spanV a b c = false := by simp [spanV, hac]
    rw [hv]
    have hac' : ¬ (a : Int) ≤ c := by omega
    clear hv
    go_enter Tryz.func178, Tryz.ntmps178
    go_wp2_with fail
    go_ret
    exact ⟨rfl, Below.refl _ _⟩

set_option maxHeartbeats 1000000 in
theorem span_any (a b : Nat) (w : World) :
    Calls Tryz.prog 162 #[.int .u8 a, .int .u8 b] w fun e w' => ∃ v, e = .returned v ∧ SetOk w' (w.heap.size ≤ ·) v (spanV a b) ∧ Below w.heap.size w w' := by
  go_enter Tryz.func162, Tryz.ntmps162
  go_wp2_with fail
  have hb := ((Below.refl w.heap.size w).alloc (Nat.le_refl _) (.cells #[.int .u8 a] 5)).alloc (by simp) (.cells #[.int .u8 b] 5)
  have k1 : Blk ((w.alloc (.cells #[.int .u8 a] 5)).alloc (.cells #[.int .u8 b] 5)) w.heap.size 5 #[.int .u8 a] := (Blk.new _ _ _).alloc _
  have k2 : Blk ((w.alloc (.cells #[.int .u8 a] 5)).alloc (.cells #[.int .u8 b] 5)) (w.heap.size + 1) 5 #[.int .u8 b] := by
    have := Blk.new (w.alloc (.cells #[.int .u8 a] 5)) #[.int .u8 b] 5
    rwa [size_alloc] at this
  go_ret
  refine ⟨_, rfl, ⟨178, #[.pointer (some ⟨w.heap.size, 0, none⟩), .pointer (some ⟨w.heap.size + 1, 0, none⟩)], rfl, enters_span, ?_⟩, hb⟩
  intro c w' hc hw'
  exact span_call a b c _ _ w' ((blk_keeps k1 hw' (Nat.le_refl _)).cell 0) ((blk_keeps k2 hw' (Nat.le_succ _)).cell 0)
end Go.Proofs.YtkoaeojdlanolaaGreatDoor
/-
  SETS OF BYTES AS FUNCTIONS: AnyOf, AllOf, Outside.
-/
namespace Go.Proofs.YtkoaeojdlanolaaGreatDoor
open Go.RowKit

/-- A slice of sets. -/
def SetsOk (w : World) (ok : Nat → Prop) (v : Value) (Ss : List (Nat → Bool)) : Prop :=
  ∃ (vs : List Value) (base : Nat), w.ownsRow base 149 1 v Ss.length vs ∧ (∀ g, v.ownBlock = some g → ok g) ∧ ∀ (i : Nat) (S : Nat → Bool), Ss[i]? = some S → ∃ x, vs[i]? = some x ∧ SetOk w ok x S

theorem ownsRow_keeps {ok : Nat → Prop} {w w' : World} {base : Nat} {e : TypeId} {size : Nat} {v : Value} {n : Nat} {xs : List Value} (h : w.ownsRow base e size v n xs) (hb : Keeps ok w w') (hok : ∀ g, v.ownBlock = some g → ok g) : w'.ownsRow base e size v n xs := by
  obtain ⟨h1, h2⟩ := h
  refine ⟨h1, ?_⟩
  rcases h2 with h2 | ⟨g, cap, cur, hv, hg, hh, r⟩
  · exact Or.inl h2
  · exact Or.inr ⟨g, cap, cur, hv, hg, by rw [hb.2 g (lt_of_block hh) (hok g (by rw [hv]; rfl))]; exact hh, r⟩

theorem ownsRow_keep {w w' : World} {base : Nat} {e : TypeId} {size : Nat} {v : Value} {n : Nat} {xs : List Value} (h : w.ownsRow base e size v n xs) (hb : Below w.heap.size w w') : w'.ownsRow base e size v n xs := by
  obtain ⟨h1, h2⟩ := h
  refine ⟨h1, ?_⟩
  rcases h2 with h2 | ⟨g, cap, cur, hv, hg, hh, r⟩
  · exact Or.inl h2
  · exact Or.inr ⟨g, cap, cur, hv, hg, by rw [hb.block g (lt_of_block hh)]; exact hh, r⟩

theorem SetsOk.keep {w w' : World} {ok : Nat → Prop} {v : Value} {Ss : List (Nat → Bool)} (h : SetsOk w ok v Ss) (hb : Keeps ok w w') : SetsOk w' ok v Ss := by
  obtain ⟨vs, base, h1, h0, h2⟩ := h
  exact ⟨vs, base, ownsRow_keeps h1 hb h0, h0, fun i S hi => by obtain ⟨x, hx, hs⟩ := h2 i S hi; exact ⟨x, hx, hs.keep hb⟩⟩
theorem SetsOk.mono {w : World} {ok ok' : Nat → Prop} {v : Value} {Ss : List (Nat → Bool)} (h : SetsOk w ok v Ss) (hm : ∀ b, b < w.heap.size → ok b → ok' b) : SetsOk w ok' v Ss := by
  obtain ⟨vs, base, h1, h0, h2⟩ := h
  exact ⟨vs, base, h1, fun g hg => hm g (h1.lt g hg).2 (h0 g hg), fun i S hi => by obtain ⟨x, hx, hs⟩ := h2 i S hi; exact ⟨x, hx, hs.mono hm⟩⟩

theorem SetsOk.shape {w : World} {ok : Nat → Prop} {v : Value} {Ss : List (Nat → Bool)} (h : SetsOk w ok v Ss) : ∃ ao cap, v = .slice ao Ss.length cap ∧ Ss.length ≤ 9223372036854775807 := by
  obtain ⟨vs, base, h1, _, _⟩ := h
  rcases h1.2 with ⟨hv, hn⟩ | ⟨g, cap, cur, hv, _, _, h3, h4, _⟩
  · exact ⟨none, 0, by rw [hv, hn], by omega⟩
  · exact ⟨_, _, hv, by unfold maxLen at h4; omega⟩
theorem SetsOk.at_ {w : World} {ok : Nat → Prop} {ao : Option Addr} {n cap : Nat} {Ss : List (Nat → Bool)} (h : SetsOk w ok (.slice ao n cap) Ss) (i : Nat) (hi : i < Ss.length) : ∃ g x, ao = some ⟨g, 0, none⟩ ∧ w.cell? ⟨g, i, none⟩ = some x ∧ SetOk w ok x Ss[i] ∧ g < w.heap.size := by
  obtain ⟨vs, base, h1, _, h2⟩ := h
  obtain ⟨x, hx, hs⟩ := h2 i Ss[i] (by simp [hi])
  rcases h1.2 with ⟨_, h0⟩ | ⟨g, cap', cur, hv, _⟩
  · omega
  · cases hv
    exact ⟨g, x, rfl, by rw [h1.cellAt i (by omega)]; exact hx, hs, (h1.lt g rfl).2⟩

def anyV (Ss : List (Nat → Bool)) (c : Nat) : Bool := Ss.any fun S => S c
def allV (Ss : List (Nat → Bool)) (c : Nat) : Bool := Ss.all fun S => S c

theorem enters_any : Enters 150 := enters_of Tryz.func150 (by kernel_rfl) (by kernel_rfl)
theorem enters_all : Enters 125 := enters_of Tryz.func125 (by kernel_rfl) (by kernel_rfl)
theorem enters_out : Enters 184 := enters_of Tryz.func184 (by kernel_rfl) (by kernel_rfl)

set_option maxHeartbeats 1000000 in
set_option maxRecDepth 100000 in
theorem any_call (c g : Nat) (sv : Value) (Ss : List (Nat → Bool)) (w : World) (hc : c < 256) (h1 : w.cell? ⟨g, 0, none⟩ = some sv) (ok : Nat → Prop) (hS : SetsOk w ok sv Ss) :
    Calls Tryz.prog 150 #[.int .u8 c, .pointer (some ⟨g, 0, none⟩)] w fun e w' => e = .returned (.bool (anyV Ss c)) ∧ Below w.heap.size w w' := by
  obtain ⟨ao, cap, rfl, hmax⟩ := hS.shape
  go_enter Tryz.func150, Tryz.ntmps150
  go_wp2_with fail
  go_loopw [8] (fun i wr => ∃ k : Nat, k ≤ Ss.length ∧ i = .int .i64 k ∧ Below w.heap.size w wr ∧ anyV (Ss.drop k) c = anyV Ss c) (fun i _ => Ss.length - (intOf i).toNat)
  case atStart => exact ⟨0, Nat.zero_le _, rfl, Below.refl _ _, rfl⟩
  case round =>
    obtain ⟨k, hk, rfl, hnx, hV⟩ := hrel
    have H : Hid _ := hV; clear hV
    by_cases hlt : k < Ss.length
    · obtain ⟨h, x, rfl, hx, hs, hh⟩ := hS.at_ k hlt
      obtain ⟨f, caps, rfl, hent, hcall⟩ := hs
      have hx' : wr.cell? ⟨h, k, none⟩ = some (.func (.func f) #[] caps) := by rw [hnx.cell (p := ⟨h, k, none⟩) hh]; exact hx
      have hcl := hcall c wr hc (keeps_below hnx)
      have hd : anyV (Ss.drop k) c = (Ss[k] c || anyV (Ss.drop (k + 1)) c) := by rw [List.drop_eq_getElem_cons hlt]; rfl
      have HD : Hid _ := hd
      clear hcall hx hd
      have hsz := hnx.size
      cases hb : Ss[k] c with
      | true =>
        rw [hb] at hcl
        go_wp2_with fail
        rw [hent, Oper.upon_enter]
        refine hcl.mono ?_
        rintro e w1 ⟨rfl, hb1⟩
        go_wp2_with fail
        go_ret
        exact ⟨ret_bool (by rw [← H.out, HD.out, hb]; rfl), hnx.trans (hb1.mono hsz)⟩
      | false =>
        rw [hb] at hcl
        go_wp2_with fail
        rw [hent, Oper.upon_enter]
        refine hcl.mono ?_
        rintro e w1 ⟨rfl, hb1⟩
        go_wp2_with fail
        go_roundw
        case rel => exact ⟨k + 1, by omega, by go_num, hnx.trans (hb1.mono hsz), by rw [← H.out, HD.out, hb]; rfl⟩
        case measure => simp [intOf]; omega
    · obtain rfl : k = Ss.length := by omega
      go_wp2_with fail
      go_ret
      exact ⟨ret_bool (by rw [← H.out, List.drop_of_length_le (Nat.le_refl _)]; rfl), hnx⟩

set_option maxHeartbeats 1000000 in
set_option maxRecDepth 100000 in
theorem all_call (c g : Nat) (sv : Value) (Ss : List (Nat → Bool)) (w : World) (hc : c < 256) (h1 : w.cell? ⟨g, 0, none⟩ = some sv) (ok : Nat → Prop) (hS : SetsOk w ok sv Ss) :
    Calls Tryz.prog 125 #[.int .u8 c, .pointer (some ⟨g, 0, none⟩)] w fun e w' => e = .returned (.bool (allV Ss c)) ∧ Below w.heap.size w w' := by
  obtain ⟨ao, cap, rfl, hmax⟩ := hS.shape
  go_enter Tryz.func125, Tryz.ntmps125
  go_wp2_with fail
  go_loopw [8] (fun i wr => ∃ k : Nat, k ≤ Ss.length ∧ i = .int .i64 k ∧ Below w.heap.size w wr ∧ allV (Ss.drop k) c = allV Ss c) (fun i _ => Ss.length - (intOf i).toNat)
  case atStart => exact ⟨0, Nat.zero_le _, rfl, Below.refl _ _, rfl⟩
  case round =>
    obtain ⟨k, hk, rfl, hnx, hV⟩ := hrel
    have H : Hid _ := hV; clear hV
    by_cases hlt : k < Ss.length
    · obtain ⟨h, x, rfl, hx, hs, hh⟩ := hS.at_ k hlt
      obtain ⟨f, caps, rfl, hent, hcall⟩ := hs
      have hx' : wr.cell? ⟨h, k, none⟩ = some (.func (.func f) #[] caps) := by rw [hnx.cell (p := ⟨h, k, none⟩) hh]; exact hx
      have hcl := hcall c wr hc (keeps_below hnx)
      have hd : allV (Ss.drop k) c = (Ss[k] c && allV (Ss.drop (k + 1)) c) := by rw [List.drop_eq_getElem_cons hlt]; rfl
      have HD : Hid _ := hd
      clear hcall hx hd
      have hsz := hnx.size
      cases hb : Ss[k] c with
      | false =>
        rw [hb] at hcl
        go_wp2_with fail
        rw [hent, Oper.upon_enter]
        refine hcl.mono ?_
        rintro e w1 ⟨rfl, hb1⟩
        go_wp2_with fail
        go_ret
        exact ⟨ret_bool (by rw [← H.out, HD.out, hb]; rfl), hnx.trans (hb1.mono hsz)⟩
      | true =>
        rw [hb] at hcl
        go_wp2_with fail
        rw [hent, Oper.upon_enter]
        refine hcl.mono ?_
        rintro e w1 ⟨rfl, hb1⟩
        go_wp2_with fail
        go_roundw
        case rel => exact ⟨k + 1, by omega, by go_num, hnx.trans (hb1.mono hsz), by rw [← H.out, HD.out, hb]; rfl⟩
        case measure => simp [intOf]; omega
    · obtain rfl : k = Ss.length := by omega
      go_wp2_with fail
      go_ret
      exact ⟨ret_bool (by rw [← H.out, List.drop_of_length_le (Nat.le_refl _)]; rfl), hnx⟩

set_option maxHeartbeats 1000000 in
set_option maxRecDepth 100000 in
theorem out_call (c g : Nat) (v : Value) (S : Nat → Bool) (w : World) (hc : c < 256) (h1 : w.cell? ⟨g, 0, none⟩ = some v) (ok : Nat → Prop) (hS : SetOk w ok v S) :
    Calls Tryz.prog 184 #[.int .u8 c, .pointer (some ⟨g, 0, none⟩)] w fun e w' => e = .returned (.bool (!S c)) ∧ Below w.heap.size w w' := by
  obtain ⟨f, caps, rfl, hent, hcall⟩ := hS
  have hcl := hcall c w hc (Keeps.refl _ _)
  clear hcall
  go_enter Tryz.func184, Tryz.ntmps184
  go_wp2_with fail
  rw [hent, Oper.upon_enter]
  refine hcl.mono ?_
  rintro e w1 ⟨rfl, hb1⟩
  go_wp2_with fail
  go_ret
  exact ⟨rfl, hb1⟩

theorem SetOk.notAgg {w : World} {ok : Nat → Prop} {v : Value} {S : Nat → Bool} (h : SetOk w ok v S) : ∃ f caps, v = .func (.func f) #[] caps := by
  obtain ⟨f, caps, rfl, _⟩ := h; exact ⟨f, caps, rfl⟩

set_option maxHeartbeats 1000000 in
theorem anyOf_any (sv : Value) (Ss : List (Nat → Bool)) (w : World) (ok : Nat → Prop) (hS : SetsOk w ok sv Ss) :
    Calls Tryz.prog 129 #[sv] w fun e w' => ∃ v, e = .returned v ∧ SetOk w' (okN ok w.heap.size) v (anyV Ss) ∧ Below w.heap.size w w' := by
  obtain ⟨ao, cap, rfl, hmax⟩ := hS.shape
  go_enter Tryz.func129, Tryz.ntmps129
  go_wp2_with fail
  have hb := (Below.refl w.heap.size w).alloc (Nat.le_refl _) (.cells #[.slice ao Ss.length cap] 179)
  have k1 : Blk (w.alloc (.cells #[.slice ao Ss.length cap] 179)) w.heap.size 179 #[.slice ao Ss.length cap] := Blk.new _ _ _
  go_ret
  refine ⟨_, rfl, ⟨150, #[.pointer (some ⟨w.heap.size, 0, none⟩)], rfl, enters_any, ?_⟩, hb⟩
  intro c w' hc hw'
  exact any_call c _ _ Ss w' hc ((blk_keeps k1 hw' (Or.inr (Nat.le_refl _))).cell 0) ok ((hS.keep (keeps_below hb)).keep (hw'.mono fun b _ h => Or.inl h))

set_option maxHeartbeats 1000000 in
theorem allOf_any (sv : Value) (Ss : List (Nat → Bool)) (w : World) (ok : Nat → Prop) (hS : SetsOk w ok sv Ss) :
    Calls Tryz.prog 106 #[sv] w fun e w' => ∃ v, e = .returned v ∧ SetOk w' (okN ok w.heap.size) v (allV Ss) ∧ Below w.heap.size w w' := by
  obtain ⟨ao, cap, rfl, hmax⟩ := hS.shape
  go_enter Tryz.func106, Tryz.ntmps106
  go_wp2_with fail
  have hb := (Below.refl w.heap.size w).alloc (Nat.le_refl _) (.cells #[.slice ao Ss.length cap] 179)
  have k1 : Blk (w.alloc (.cells #[.slice ao Ss.length cap] 179)) w.heap.size 179 #[.slice ao Ss.length cap] := Blk.new _ _ _
  go_ret
  refine ⟨_, rfl, ⟨125, #[.pointer (some ⟨w.heap.size, 0, none⟩)], rfl, enters_all, ?_⟩, hb⟩
  intro c w' hc hw'
  exact all_call c _ _ Ss w' hc ((blk_keeps k1 hw' (Or.inr (Nat.le_refl _))).cell 0) ok ((hS.keep (keeps_below hb)).keep (hw'.mono fun b _ h => Or.inl h))

set_option maxHeartbeats 1000000 in
theorem outside_any (v : Value) (S : Nat → Bool) (w : World) (ok : Nat → Prop) (hS : SetOk w ok v S) :
    Calls Tryz.prog 177 #[v] w fun e w' => ∃ v', e = .returned v' ∧ SetOk w' (okN ok w.heap.size) v' (fun c => !S c) ∧ Below w.heap.size w w' := by
  obtain ⟨f, caps, rfl⟩ := hS.notAgg
  have hb := (Below.refl w.heap.size w).alloc (Nat.le_refl _) (.cells #[.func (.func f) #[] caps] 149)
  have k1 : Blk (w.alloc (.cells #[.func (.func f) #[] caps] 149)) w.heap.size 149 #[.func (.func f) #[] caps] := Blk.new _ _ _
  go_enter Tryz.func177, Tryz.ntmps177
  go_wp2_with fail
  go_ret
  refine ⟨_, rfl, ⟨184, #[.pointer (some ⟨w.heap.size, 0, none⟩)], rfl, enters_out, ?_⟩, hb⟩
  intro c w' hc hw'
  exact out_call c _ _ S w' hc ((blk_keeps k1 hw' (Or.inr (Nat.le_refl _))).cell 0) ok ((hS.keep (keeps_below hb)).keep (hw'.mono fun b _ h => Or.inl h))
end Go.Proofs.YtkoaeojdlanolaaGreatDoor
/-
  MAPS: of each entry something holds.
-/
namespace Go.Proofs.YtkoaeojdlanolaaGreatDoor
open Go.RowKit Go.ChangeMaps Go.MapKept

def anyElem : Value → Option (DataW Unit × List MemPlace) := fun _ => some (.nil, [])

/-- Block b is a map of at most n entries, of each of which P holds. -/
def MapIs (w : World) (k : TypeId) (b n : Nat) (P : Value → Value → Prop) : Prop :=
  ∃ es clock, w.heap[b]? = some (.map es clock) ∧ Go.WideElems.Fit Tryz.prog k anyElem es clock ∧ es.size ≤ n ∧ ∀ x ∈ es.toList, P x.key x.val

theorem MapIs.made (w : World) (k : TypeId) (P : Value → Value → Prop) : MapIs (w.alloc (.map #[] 0)) k w.heap.size 0 P :=
  ⟨#[], 0, (MapKept.heap_alloc w _).1, ⟨by simp, stamped_empty 0, by simp⟩, Nat.le_refl _, by simp⟩
theorem MapIs.lt {w : World} {k : TypeId} {b n : Nat} {P : Value → Value → Prop} (h : MapIs w k b n P) : b < w.heap.size := by
  obtain ⟨es, clock, hb, _⟩ := h
  exact (Array.getElem?_eq_some_iff.1 hb).1
theorem MapIs.keep {w w' : World} {k : TypeId} {b n : Nat} {P : Value → Value → Prop} (h : MapIs w k b n P) (hb : w'.heap[b]? = w.heap[b]?) : MapIs w' k b n P := by
  obtain ⟨es, clock, h1, r⟩ := h
  exact ⟨es, clock, hb.trans h1, r⟩
theorem MapIs.mono {w : World} {k : TypeId} {b n n' : Nat} {P P' : Value → Value → Prop} (h : MapIs w k b n P) (hn : n ≤ n') (hp : ∀ x y, P x y → P' x y) : MapIs w k b n' P' := by
  obtain ⟨es, clock, h1, h2, h3, h4⟩ := h
  exact ⟨es, clock, h1, h2, Nat.le_trans h3 hn, fun x hx => hp _ _ (h4 x hx)⟩

theorem MapIs.look {w : World} {k e t : TypeId} {b n : Nat} {P : Value → Value → Prop} (h : MapIs w k b n P) (K : Go.Maps.Keyed Tryz.prog k) (ht : Tryz.prog.underlying t = some (.map k e)) {z : Value} (hz : (zeroValue e).run Tryz.prog w = .ok z w)
    {key : Value} {kl : Lit} (hkey : keyOf Tryz.prog k key = some kl) :
    (Instr.lookup t (.map (some b)) key true).run Tryz.prog w = .ok (.tuple #[z, .bool false]) w ∨
    ∃ v, (Instr.lookup t (.map (some b)) key true).run Tryz.prog w = .ok (.tuple #[v, .bool true]) w ∧ P key v := by
  obtain ⟨es, clock, hb, F, _, hP⟩ := h
  rcases Maps.fit_look true K ht hz hb F hkey with ⟨hrun, _, _⟩ | ⟨e0, y, hm, hk, hrun, _⟩
  · exact Or.inl hrun
  · exact Or.inr ⟨e0.val, hrun, by rw [← hk]; exact hP e0 hm⟩

theorem MapIs.put {w : World} {k e t : TypeId} {b n : Nat} {P : Value → Value → Prop} (h : MapIs w k b n P) (K : Go.Maps.Keyed Tryz.prog k) (ht : Tryz.prog.underlying t = some (.map k e)) (hn : n < maxLen) {key val : Value} {kl : Lit}
    (hkey : keyOf Tryz.prog k key = some kl) (hv : P key val) :
    ∃ w', (Instr.mapUpdate t (.map (some b)) key val).run Tryz.prog w = .ok () w' ∧ MapIs w' k b (n + 1) P ∧ w.grownBy w' (some b) := by
  obtain ⟨es, clock, hb, F, hs, hP⟩ := h
  obtain ⟨es', clock', hrun, F', hput, _, _, hall⟩ := Maps.fit_store (R' := anyElem) (val := val) K ht hb F (Nat.lt_of_le_of_lt hs hn) (fun _ _ _ _ hz => hz) hkey (rfl : anyElem val = some (.nil, []))
  refine ⟨_, hrun, ⟨es', clock', heap_setBlock_same hb _, F', ?_, ?_⟩, ⟨rfl, rfl, rfl, by simp [setBlock], fun i _ hi => heap_setBlock_other hb _ (fun e => hi (by rw [e]))⟩⟩
  · have e1 : es'.size = ((es'.toList.map (Go.WideElems.rg Tryz.prog k anyElem)).foldr DataW.insert []).length := by rw [length_sorted]; simp
    rw [e1, hput]
    unfold putKey
    rw [length_insert]
    have e2 := List.length_filter_le (notKey kl) ((es.toList.map (Go.WideElems.rg Tryz.prog k anyElem)).foldr DataW.insert [])
    rw [length_sorted] at e2
    simp at e2
    omega
  · intro x hx
    rcases hall x hx with ⟨h1, _⟩ | ⟨h1, h2⟩
    · exact hP x h1
    · rw [h1, h2]; exact hv
end Go.Proofs.YtkoaeojdlanolaaGreatDoor
/-
  store.New, Find: of strings and numbers.
-/
namespace Go.Proofs.YtkoaeojdlanolaaGreatDoor
open Go.RowKit

theorem strKeyed : Go.Maps.Keyed Tryz.prog 9 := Go.Maps.string_keyed Tryz.underlying9
theorem zeroInt (w : World) : (zeroValue 3).run Tryz.prog w = .ok (.int .i64 0) w := by kernel_rfl
theorem strKey (s : ByteArray) (hs : s.size ≤ maxLen) : keyOf Tryz.prog 9 (.string s) = some (.string s.data.toList) := Go.WideMaps.keyOf_string_mk Tryz.underlying9 hs

/-- A store, at block s, with its map at b. -/
structure StoreIs (w : World) (s b n : Nat) (P : ByteArray → Int → Prop) : Prop where
  blk : Blk w s 159 #[.map (some b)]
  map : MapIs w 9 b n fun k v => ∃ x i, k = .string x ∧ v = .int .i64 i ∧ P x i
  ne : s ≠ b

theorem StoreIs.keep {w w' : World} {s b n : Nat} {P : ByteArray → Int → Prop} (h : StoreIs w s b n P) (hs : w'.heap[s]? = w.heap[s]?) (hb : w'.heap[b]? = w.heap[b]?) : StoreIs w' s b n P :=
  ⟨hs.trans h.blk, h.map.keep hb, h.ne⟩
theorem StoreIs.below {w w' : World} {s b n : Nat} {P : ByteArray → Int → Prop} (h : StoreIs w s b n P) (hb : Below w.heap.size w w') : StoreIs w' s b n P :=
  h.keep (hb.block s h.blk.lt) (hb.block b h.map.lt)
theorem StoreIs.mono {w : World} {s b n n' : Nat} {P P' : ByteArray → Int → Prop} (h : StoreIs w s b n P) (hn : n ≤ n') (hp : ∀ x y, P x y → P' x y) : StoreIs w s b n' P' :=
  ⟨h.blk, h.map.mono hn (fun _ _ ⟨x, i, h1, h2, h3⟩ => ⟨x, i, h1, h2, hp x i h3⟩), h.ne⟩

set_option maxHeartbeats 1000000 in
set_option maxRecDepth 100000 in
theorem storeNew_any (w : World) :
    Calls Tryz.prog 68 #[] w fun e w' => ∃ s b, e = .returned (.pointer (some ⟨s, 0, none⟩)) ∧ (∀ P, StoreIs w' s b 0 P) ∧ w.heap.size ≤ s ∧ w.heap.size ≤ b ∧ Below w.heap.size w w' := by
  have hmm := @run_makeMap Tryz.prog
  go_enter Tryz.func68, Tryz.ntmps68
  go_wp2_with fail
  go_ret
  have hb := ((Below.refl w.heap.size w).alloc (Nat.le_refl _) (.map #[] 0)).alloc (by simp) (.cells #[.map (some w.heap.size)] 159)
  have k : Blk ((w.alloc (.map #[] 0)).alloc (.cells #[.map (some w.heap.size)] 159)) (w.heap.size + 1) 159 #[.map (some w.heap.size)] := by
    have := Blk.new (w.alloc (.map #[] 0)) #[.map (some w.heap.size)] 159
    rwa [size_alloc] at this
  exact ⟨w.heap.size + 1, w.heap.size, rfl, fun P => ⟨k, (MapIs.made w 9 _).keep (Below.heap_alloc _ _ _ (by simp)), by omega⟩, by omega, Nat.le_refl _, hb⟩

set_option maxHeartbeats 1000000 in
set_option maxRecDepth 100000 in
theorem find_any (s b n : Nat) (key : ByteArray) (f : FuncId) (caps : Array Value) (w : World) (P : ByteArray → Int → Prop) (P' : Int → ByteArray → Int → Prop) (Post : Int → World → Prop) (hk : key.size ≤ maxLen) (hS : StoreIs w s b n P) (hn : n < maxLen) (hf : Enters f)
    (hfirst : Calls Tryz.prog f caps w fun e w' => ∃ v : Int, e = .returned (.int .i64 v) ∧ P' v key v ∧ Post v w' ∧ StoreIs w' s b n (P' v)) :
    Calls Tryz.prog 94 #[.pointer (some ⟨s, 0, none⟩), .string key, .func (.func f) #[] caps] w fun e w' => ∃ v : Int, e = .returned (.int .i64 v) ∧
      ((w' = w ∧ P key v) ∨ ∃ w1, Post v w1 ∧ w1.grownBy w' (some b) ∧ StoreIs w' s b (n + 1) (P' v)) := by
  have hcell : w.cell? ⟨s, 0, none⟩ = some (.map (some b)) := hS.blk.cell 0
  have hgl := hS.blk.lt
  rcases hS.map.look strKeyed Tryz.underlying157 (zeroInt _) (strKey key hk) with hrun | ⟨v, hrun, x, i, hx, rfl, hP⟩
  · go_enter Tryz.func94, Tryz.ntmps94
    go_wp2_with fail
    rw [hf, Oper.upon_enter]
    refine Calls.mono hfirst ?_
    rintro e w1 ⟨v, rfl, hP, hpost, hS1⟩
    have hcell1 : w1.cell? ⟨s, 0, none⟩ = some (.map (some b)) := hS1.blk.cell 0
    obtain ⟨w2, hrun2, hm2, hg2⟩ := hS1.map.put (val := .int .i64 v) strKeyed Tryz.underlying157 hn (strKey key hk) ⟨key, v, rfl, rfl, hP⟩
    clear hrun hcell hfirst
    go_wp2_with fail
    go_ret
    exact ⟨v, rfl, Or.inr ⟨w1, hpost, hg2, hS1.blk.grown hg2 (by simp [hS1.ne]), hm2, hS1.ne⟩⟩
  · cases hx
    go_enter Tryz.func94, Tryz.ntmps94
    go_wp2_with fail
    go_ret
    exact ⟨i, rfl, Or.inl ⟨rfl, hP⟩⟩
end Go.Proofs.YtkoaeojdlanolaaGreatDoor
