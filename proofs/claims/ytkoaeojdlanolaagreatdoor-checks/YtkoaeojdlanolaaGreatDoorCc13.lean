import Derived.Test.YtkoaeojdlanolaaGreatDoorCc04
import Derived.Test.YtkoaeojdlanolaaGreatDoorCc09
/-
  HasEmpty of trees.
-/
namespace Go.Proofs.YtkoaeojdlanolaaGreatDoor
open Go.RowKit
open Munch (Words Wempty Wbytes Wcat Wany Wall Wnot KeyF Times numText Pow)

/-- A value of an interface whose method HasEmpty answers b, in every world that keeps what is ok. -/
def Emptied (w : World) (ok : Nat → Prop) (v : Value) (b : Bool) : Prop :=
  ∃ (T : TypeId) (p : Value) (f : FuncId), v = .iface T p ∧ (∀ w', (method 374 T p "HasEmpty").run Tryz.prog w' = .ok (f, p) w') ∧ Enters f ∧
    ∀ w', Keeps ok w w' → Calls Tryz.prog f #[p] w' fun e w'' => e = .returned (.bool b) ∧ Below w'.heap.size w' w''
theorem Emptied.keep {w w' : World} {ok : Nat → Prop} {v : Value} {b : Bool} (h : Emptied w ok v b) (hk : Keeps ok w w') : Emptied w' ok v b := by
  obtain ⟨T, p, f, h1, h2, h3, h4⟩ := h
  exact ⟨T, p, f, h1, h2, h3, fun w'' hw => h4 w'' (hk.trans hw)⟩

theorem heM_empty : ∀ (p : Value) (w : World), (method 374 200 p "HasEmpty").run Tryz.prog w = .ok (226, p) w := fun _ _ => by kernel_rfl
theorem heM_byte : ∀ (p : Value) (w : World), (method 374 181 p "HasEmpty").run Tryz.prog w = .ok (217, p) w := fun _ _ => by kernel_rfl
theorem heM_row : ∀ (p : Value) (w : World), (method 374 223 p "HasEmpty").run Tryz.prog w = .ok (230, p) w := fun _ _ => by kernel_rfl
theorem heM_choice : ∀ (p : Value) (w : World), (method 374 186 p "HasEmpty").run Tryz.prog w = .ok (221, p) w := fun _ _ => by kernel_rfl
theorem heM_meet : ∀ (p : Value) (w : World), (method 374 140 p "HasEmpty").run Tryz.prog w = .ok (203, p) w := fun _ _ => by kernel_rfl
theorem heM_repeat : ∀ (p : Value) (w : World), (method 374 170 p "HasEmpty").run Tryz.prog w = .ok (208, p) w := fun _ _ => by kernel_rfl
theorem heM_not : ∀ (p : Value) (w : World), (method 374 172 p "HasEmpty").run Tryz.prog w = .ok (213, p) w := fun _ _ => by kernel_rfl
theorem heE_empty : Enters 226 := enters_of Tryz.func226 (by kernel_rfl) (by kernel_rfl)
theorem heE_byte : Enters 217 := enters_of Tryz.func217 (by kernel_rfl) (by kernel_rfl)
theorem heE_row : Enters 230 := enters_of Tryz.func230 (by kernel_rfl) (by kernel_rfl)
theorem heE_choice : Enters 221 := enters_of Tryz.func221 (by kernel_rfl) (by kernel_rfl)
theorem heE_meet : Enters 203 := enters_of Tryz.func203 (by kernel_rfl) (by kernel_rfl)
theorem heE_repeat : Enters 208 := enters_of Tryz.func208 (by kernel_rfl) (by kernel_rfl)
theorem heE_not : Enters 213 := enters_of Tryz.func213 (by kernel_rfl) (by kernel_rfl)

theorem below_box (w : World) (o : Obj) : Below w.heap.size w (w.alloc o) := (Below.refl _ _).alloc (Nat.le_refl _) o

set_option maxRecDepth 100000 in
theorem he_empty (w : World) : Calls Tryz.prog 226 #[.agg #[]] w fun e w' => e = .returned (.bool true) ∧ Below w.heap.size w w' := by
  go_enter Tryz.func226, Tryz.ntmps226
  go_wp2_with fail
  go_ret
  exact ⟨rfl, by first | exact Below.refl _ _ | exact below_box _ _⟩
set_option maxRecDepth 100000 in
theorem he_byte (f : FuncId) (caps : Array Value) (key : ByteArray) (w : World) : Calls Tryz.prog 217 #[.agg #[.func (.func f) #[] caps, .string key]] w fun e w' => e = .returned (.bool false) ∧ Below w.heap.size w w' := by
  go_enter Tryz.func217, Tryz.ntmps217
  go_wp2_with fail
  go_ret
  exact ⟨rfl, by first | exact Below.refl _ _ | exact below_box _ _⟩
set_option maxRecDepth 100000 in
theorem he_repeat (b : Value) (T : TypeId) (p : Value) (lo hi : Int) (key : ByteArray) (w : World) (hb : b = .iface T p) : Calls Tryz.prog 208 #[.agg #[b, .int .i64 lo, .int .i64 hi, .string key]] w fun e w' => e = .returned (.bool (decide (lo = 0))) ∧ Below w.heap.size w w' := by
  subst hb
  go_enter Tryz.func208, Tryz.ntmps208
  go_wp2_with fail
  go_ret
  exact ⟨ret_bool (by first | rfl | simp), by first | exact Below.refl _ _ | exact below_box _ _⟩

set_option maxHeartbeats 1000000 in
set_option maxRecDepth 100000 in
theorem he_not {w0 : World} {ok : Nat → Prop} (v : Value) (r : Bool) (key : ByteArray) (w : World) (h : Emptied w0 ok v r) (hk : Keeps ok w0 w) : Calls Tryz.prog 213 #[.agg #[v, .string key]] w fun e w' => e = .returned (.bool (!r)) ∧ Below w.heap.size w w' := by
  obtain ⟨T, p, f, rfl, hm, hent, hcall⟩ := h
  have hb0 := below_box w (.cells #[.iface T p, .string key] 172)
  have hcl := hcall (w.alloc (.cells #[.iface T p, .string key] 172)) (hk.trans (keeps_below hb0))
  clear hcall
  go_enter Tryz.func213, Tryz.ntmps213
  go_wp2_with fail
  rw [hent, Oper.upon_enter]
  refine hcl.mono ?_
  rintro e w1 ⟨rfl, hb1⟩
  go_wp2_with fail
  go_ret
  exact ⟨rfl, hb0.trans (hb1.mono hb0.size)⟩

set_option maxHeartbeats 1000000 in
set_option maxRecDepth 100000 in
theorem he_row {w0 : World} {ok : Nat → Prop} (v1 v2 : Value) (r1 r2 : Bool) (key : ByteArray) (w : World) (h1 : Emptied w0 ok v1 r1) (h2 : Emptied w0 ok v2 r2) (hk : Keeps ok w0 w) : Calls Tryz.prog 230 #[.agg #[v1, v2, .string key]] w fun e w' => e = .returned (.bool (r1 && r2)) ∧ Below w.heap.size w w' := by
  obtain ⟨T, p, f, rfl, hm, hent, hcall⟩ := h1
  obtain ⟨T2, p2, f2, rfl, hm2, hent2, hcall2⟩ := h2
  have hb0 := below_box w (.cells #[.iface T p, .iface T2 p2, .string key] 223)
  have k0 : Blk (w.alloc (.cells #[.iface T p, .iface T2 p2, .string key] 223)) w.heap.size 223 #[.iface T p, .iface T2 p2, .string key] := Blk.new _ _ _
  have hk0 := hk.trans (keeps_below (ok := ok) hb0)
  have hcl := hcall (w.alloc (.cells #[.iface T p, .iface T2 p2, .string key] 223)) hk0
  have HC : Hid _ := hcall2
  clear hcall hcall2
  cases r1 with
  | true =>
    go_enter Tryz.func230, Tryz.ntmps230
    go_wp2_with fail
    rw [hent, Oper.upon_enter]
    refine hcl.mono ?_
    rintro e w1 ⟨rfl, hb1⟩
    have hc1 : w1.cell? ⟨w.heap.size, 1, none⟩ = some (.iface T2 p2) := (k0.below hb1 (by simp)).cell 1
    have hcl2 := HC.out w1 (hk0.trans (keeps_below hb1))
    clear hcl
    go_wp2_with fail
    rw [hent2, Oper.upon_enter]
    refine hcl2.mono ?_
    rintro e w2 ⟨rfl, hb2⟩
    clear hcl2
    go_wp2_with fail
    go_ret
    exact ⟨rfl, hb0.trans ((hb1.trans (hb2.mono hb1.size)).mono hb0.size)⟩
  | false =>
    go_enter Tryz.func230, Tryz.ntmps230
    go_wp2_with fail
    rw [hent, Oper.upon_enter]
    refine hcl.mono ?_
    rintro e w1 ⟨rfl, hb1⟩
    clear hcl
    go_wp2_with fail
    go_ret
    exact ⟨rfl, hb0.trans (hb1.mono hb0.size)⟩

set_option maxHeartbeats 1000000 in
set_option maxRecDepth 100000 in
theorem he_meet {w0 : World} {ok : Nat → Prop} (sv : Value) (ts : List Tr) (P : Tr → Bool) (key : ByteArray) (w : World) (hS : Held w0 ok sv ts) (h : ∀ t ∈ ts, Emptied w0 ok t.v (P t)) (hk : Keeps ok w0 w) : Calls Tryz.prog 203 #[.agg #[sv, .string key]] w fun e w' => e = .returned (.bool (ts.all P)) ∧ Below w.heap.size w w' := by
  have hS1 := hS.keep hk
  obtain ⟨ao, cap, rfl, hmax⟩ := hS1.shape
  have hb0 := below_box w (.cells #[.slice ao ts.length cap, .string key] 140)
  have HE : Hid _ := h; clear h
  go_enter Tryz.func203, Tryz.ntmps203
  go_wp2_with fail
  go_loopw [8] (fun i wr => ∃ k : Nat, k ≤ ts.length ∧ i = .int .i64 k ∧ Below w.heap.size w wr ∧ ((ts.drop k).all P = ts.all P)) (fun i _ => ts.length - (intOf i).toNat)
  case atStart => exact ⟨0, Nat.zero_le _, rfl, hb0, rfl⟩
  case round =>
    obtain ⟨k, hk', rfl, hnx, hV⟩ := hrel
    have H : Hid _ := hV; clear hV
    have hsz := hnx.size
    by_cases hlt : k < ts.length
    · obtain ⟨g, rfl, hx, hg⟩ := hS1.at_ k hlt
      obtain ⟨T, p, f, hv, hm, hent, hcall⟩ := HE.out ts[k] (List.getElem_mem hlt)
      have hx' : wr.cell? ⟨g, k, none⟩ = some (.iface T p) := by rw [hnx.cell (p := ⟨g, k, none⟩) hg, ← hv]; exact hx
      have hcl := hcall wr (hk.trans (keeps_below hnx))
      have HD : Hid ((ts.drop k).all P = (P ts[k] && (ts.drop (k + 1)).all P)) := by
        rw [List.drop_eq_getElem_cons hlt]; rfl
      clear hcall hx hv
      cases hb : P ts[k] with
      | true =>
        rw [hb] at hcl
        go_wp2_with fail
        rw [hent, Oper.upon_enter]
        refine hcl.mono ?_
        rintro e w1 ⟨rfl, hb1⟩
        clear hcl
        go_wp2_with fail
        go_roundw
        case rel => exact ⟨k + 1, by omega, by go_num, hnx.trans (hb1.mono hsz), by rw [← H.out, HD.out, hb]; rfl⟩
        case measure => simp [intOf]; omega
      | false =>
        rw [hb] at hcl
        go_wp2_with fail
        rw [hent, Oper.upon_enter]
        refine hcl.mono ?_
        rintro e w1 ⟨rfl, hb1⟩
        clear hcl
        go_wp2_with fail
        go_ret
        exact ⟨ret_bool (by rw [← H.out, HD.out, hb]; rfl), hnx.trans (hb1.mono hsz)⟩
    · obtain rfl : k = ts.length := by omega
      go_wp2_with fail
      go_ret
      exact ⟨ret_bool (by rw [← H.out, List.drop_of_length_le (Nat.le_refl _)]; rfl), hnx⟩

set_option maxHeartbeats 1000000 in
set_option maxRecDepth 100000 in
theorem indexEmpty_any {w0 : World} {ok : Nat → Prop} (sv : Value) (ts : List Tr) (P : Tr → Bool) (w : World) (hS : Held w0 ok sv ts) (h : ∀ t ∈ ts, Emptied w0 ok t.v (P t)) (hk : Keeps ok w0 w) :
    Calls Tryz.prog 126 #[sv, .func (.methodOf 72 "HasEmpty") #[] #[]] w fun e w' => ∃ i : Int, e = .returned (.int .i64 i) ∧ -1 ≤ i ∧ (0 ≤ i ↔ ts.any P = true) ∧ Below w.heap.size w w' := by
  have hS1 := hS.keep hk
  obtain ⟨ao, cap, rfl, hmax⟩ := hS1.shape
  have HE : Hid _ := h; clear h
  go_enter Tryz.func126, Tryz.ntmps126
  go_wp2_with fail
  go_loopw [8] (fun i wr => ∃ k : Nat, k ≤ ts.length ∧ i = .int .i64 k ∧ Below w.heap.size w wr ∧ (ts.drop k).any P = ts.any P) (fun i _ => ts.length - (intOf i).toNat)
  case atStart => exact ⟨0, Nat.zero_le _, rfl, Below.refl _ _, rfl⟩
  case round =>
    obtain ⟨k, hk', rfl, hnx, hV⟩ := hrel
    have H : Hid _ := hV; clear hV
    have hsz := hnx.size
    by_cases hlt : k < ts.length
    · obtain ⟨g, rfl, hx, hg⟩ := hS1.at_ k hlt
      obtain ⟨T, p, f, hv, hm, hent, hcall⟩ := HE.out ts[k] (List.getElem_mem hlt)
      have hx' : wr.cell? ⟨g, k, none⟩ = some (.iface T p) := by rw [hnx.cell (p := ⟨g, k, none⟩) hg, ← hv]; exact hx
      have hcl := hcall wr (hk.trans (keeps_below hnx))
      have HD : Hid ((ts.drop k).any P = (P ts[k] || (ts.drop (k + 1)).any P)) := by
        rw [List.drop_eq_getElem_cons hlt]; rfl
      clear hcall hx hv
      cases hb : P ts[k] with
      | true =>
        rw [hb] at hcl
        go_wp2_with fail
        rw [hent, Oper.upon_enter]
        refine hcl.mono ?_
        rintro e w1 ⟨rfl, hb1⟩
        clear hcl
        go_wp2_with fail
        go_ret
        exact ⟨_, rfl, by omega, ⟨fun _ => by rw [← H.out, HD.out, hb]; rfl, fun _ => by omega⟩, hnx.trans (hb1.mono hsz)⟩
      | false =>
        rw [hb] at hcl
        go_wp2_with fail
        rw [hent, Oper.upon_enter]
        refine hcl.mono ?_
        rintro e w1 ⟨rfl, hb1⟩
        clear hcl
        go_wp2_with fail
        go_roundw
        case rel => exact ⟨k + 1, by omega, by go_num, hnx.trans (hb1.mono hsz), by rw [← H.out, HD.out, hb]; rfl⟩
        case measure => simp [intOf]; omega
    · obtain rfl : k = ts.length := by omega
      go_wp2_with fail
      go_ret
      exact ⟨-1, rfl, by omega, ⟨fun h => absurd h (by decide), fun h => by rw [← H.out, List.drop_of_length_le (Nat.le_refl _)] at h; cases h⟩, hnx⟩

set_option maxHeartbeats 1000000 in
set_option maxRecDepth 100000 in
theorem containsEmpty_any {w0 : World} {ok : Nat → Prop} (sv : Value) (ts : List Tr) (P : Tr → Bool) (w : World) (hS : Held w0 ok sv ts) (h : ∀ t ∈ ts, Emptied w0 ok t.v (P t)) (hk : Keeps ok w0 w) :
    Calls Tryz.prog 107 #[sv, .func (.methodOf 72 "HasEmpty") #[] #[]] w fun e w' => e = .returned (.bool (ts.any P)) ∧ Below w.heap.size w w' := by
  have hi := indexEmpty_any sv ts P w hS h hk
  obtain ⟨ao, cap, rfl, hmax⟩ := hS.shape
  go_enter Tryz.func107, Tryz.ntmps107
  go_wp2_with fail
  refine hi.mono ?_
  rintro e w1 ⟨i, rfl, hge, hiff, hb1⟩
  have HI : Hid _ := hiff; clear hiff
  go_wp2_with fail
  go_ret
  refine ⟨ret_bool ?_, hb1⟩
  rw [Bool.eq_iff_iff, ← HI.out]
  simp

set_option maxHeartbeats 1000000 in
set_option maxRecDepth 100000 in
theorem he_choice {w0 : World} {ok : Nat → Prop} (sv : Value) (ts : List Tr) (P : Tr → Bool) (key : ByteArray) (w : World) (hS : Held w0 ok sv ts) (h : ∀ t ∈ ts, Emptied w0 ok t.v (P t)) (hk : Keeps ok w0 w) : Calls Tryz.prog 221 #[.agg #[sv, .string key]] w fun e w' => e = .returned (.bool (ts.any P)) ∧ Below w.heap.size w w' := by
  obtain ⟨ao, cap, rfl, hmax⟩ := hS.shape
  have hb0 := below_box w (.cells #[.slice ao ts.length cap, .string key] 186)
  have hc := containsEmpty_any _ ts P (w.alloc (.cells #[.slice ao ts.length cap, .string key] 186)) hS h (hk.trans (keeps_below hb0))
  clear h
  go_enter Tryz.func221, Tryz.ntmps221
  go_wp2_with fail
  refine hc.mono ?_
  rintro e w1 ⟨rfl, hb1⟩
  clear hc
  go_wp2_with fail
  go_ret
  exact ⟨rfl, hb0.trans (hb1.mono hb0.size)⟩

/-- E tells whether the empty text is a word. -/
def TellsE (E : Words → Bool) : Prop := ∀ L, E L = true ↔ L []
theorem tellsE : ∃ E, TellsE E := ⟨fun L => @decide (L []) (Classical.propDecidable _), fun L => by simp⟩

theorem hasE_cat {E : Words → Bool} (hE : TellsE E) (A B : Words) : E (Wcat A B) = (E A && E B) := by
  rw [Bool.eq_iff_iff, Bool.and_eq_true, hE, hE, hE]
  constructor
  · rintro ⟨x, y, h, ha, hb⟩
    obtain ⟨rfl, rfl⟩ : x = [] ∧ y = [] := by simpa using h.symm
    exact ⟨ha, hb⟩
  · rintro ⟨ha, hb⟩; exact ⟨[], [], rfl, ha, hb⟩
theorem hasE_any {E : Words → Bool} (hE : TellsE E) (ts : List Tr) : E (Wany (ts.map (·.L))) = ts.any fun t => E t.L := by
  rw [Bool.eq_iff_iff, hE, List.any_eq_true]
  constructor
  · rintro ⟨A, hA, h⟩
    obtain ⟨t, ht, rfl⟩ := List.mem_map.1 hA
    exact ⟨t, ht, (hE _).2 h⟩
  · rintro ⟨t, ht, h⟩; exact ⟨_, List.mem_map.2 ⟨t, ht, rfl⟩, (hE _).1 h⟩
theorem hasE_all {E : Words → Bool} (hE : TellsE E) (ts : List Tr) : E (Wall (ts.map (·.L))) = ts.all fun t => E t.L := by
  rw [Bool.eq_iff_iff, hE, List.all_eq_true]
  constructor
  · intro h t ht; exact (hE _).2 (h _ (List.mem_map.2 ⟨t, ht, rfl⟩))
  · intro h A hA
    obtain ⟨t, ht, rfl⟩ := List.mem_map.1 hA
    exact (hE _).1 (h t ht)
theorem hasE_not {E : Words → Bool} (hE : TellsE E) (A : Words) : E (Wnot A) = !E A := by
  cases h : E A with
  | true =>
    rw [hE] at h
    cases h' : E (Wnot A) with
    | false => rfl
    | true => rw [hE] at h'; exact absurd h h'
  | false =>
    have : ¬ A [] := by intro hh; rw [(hE A).2 hh] at h; cases h
    rw [(hE (Wnot A)).2 this]; rfl
theorem pow_nil (L : Words) : ∀ (k : Nat), 0 < k → Pow L k [] → L [] := by
  intro k
  induction k with
  | zero => intro h; omega
  | succ k ih =>
    rintro _ ⟨u, v, h, hu, _⟩
    obtain ⟨rfl, rfl⟩ : u = [] ∧ v = [] := by simpa using h.symm
    exact hu
theorem hasE_times {E : Words → Bool} (hE : TellsE E) (L : Words) (lo hi : Int) (h0 : 0 ≤ lo) (_h1 : -1 ≤ hi) (he : L [] → lo = 0) : E (Times L lo hi) = decide (lo = 0) := by
  rw [Bool.eq_iff_iff, hE, decide_eq_true_iff]
  constructor
  · rintro ⟨k, h2, h3, h4⟩
    by_cases hk : k = 0
    · subst hk; omega
    · exact he (pow_nil L k (by omega) h4)
  · rintro rfl
    exact ⟨0, by omega, by omega, rfl⟩

theorem hasEmpty_f {E : Words → Bool} (hE : TellsE E) {w : World} {ok : Nat → Prop} : ∀ (d : Nat) (t : Tr), TreeF w ok d t → Emptied w ok t.v (E t.L) := by
  intro d
  induction d with
  | zero => intro t h; exact h.elim
  | succ d ih =>
    intro t h
    rcases h with ⟨h1, h2, h3, _⟩ | ⟨S, f, key, h1, h2, h3, _, _, h6, _⟩ | ⟨a, b, key, h1, h2, h3, h4, _, h6, _⟩ | ⟨ts, sv, key, h1, h2, h3, h4, _, h6, _⟩ | ⟨ts, sv, key, h1, h2, h3, h4, _, h6, _⟩ | ⟨b, lo, hi, key, h1, h2, h3, h4, _, h6, h7, _⟩ | ⟨b, key, h1, h2, h3, _, h5, _⟩
    · rw [h3, show E Wempty = true from (hE _).2 rfl]
      exact ⟨_, _, _, h1, heM_empty _, heE_empty, fun w' _ => he_empty w'⟩
    · have e : E (Wbytes S) = false := by
        cases hh : E (Wbytes S) with
        | false => rfl
        | true => rw [hE] at hh; obtain ⟨c, hc, _⟩ := hh; cases hc
      rw [h6, e]
      obtain ⟨fn, caps, rfl⟩ := h3.notAgg
      exact ⟨_, _, _, h1, heM_byte _, heE_byte, fun w' _ => he_byte fn caps key w'⟩
    · rw [h6, hasE_cat hE]
      exact ⟨_, _, _, h1, heM_row _, heE_row, fun w' hw => he_row _ _ _ _ key w' (ih a h3) (ih b h4) hw⟩
    · rw [h6, hasE_any hE]
      exact ⟨_, _, _, h1, heM_choice _, heE_choice, fun w' hw => he_choice sv ts (fun t => E t.L) key w' h3 (fun t ht => ih t (h4 t ht)) hw⟩
    · rw [h6, hasE_all hE]
      exact ⟨_, _, _, h1, heM_meet _, heE_meet, fun w' hw => he_meet sv ts (fun t => E t.L) key w' h3 (fun t ht => ih t (h4 t ht)) hw⟩
    · rw [h6, hasE_times hE b.L lo hi h4.1 h4.2.2.1 h7]
      obtain ⟨T, p, hv⟩ := TreeOk.shape ⟨d, h3⟩
      exact ⟨_, _, _, h1, heM_repeat _, heE_repeat, fun w' _ => he_repeat _ T p lo hi key w' hv⟩
    · rw [h5, hasE_not hE]
      exact ⟨_, _, _, h1, heM_not _, heE_not, fun w' hw => he_not _ _ key w' (ih b h3) hw⟩
theorem TreeOk.emptied {E : Words → Bool} (hE : TellsE E) {w : World} {ok : Nat → Prop} {t : Tr} (h : TreeOk w ok t) : Emptied w ok t.v (E t.L) := by
  obtain ⟨d, h⟩ := h; exact hasEmpty_f hE d t h
end Go.Proofs.YtkoaeojdlanolaaGreatDoor
/-
  strconv.Itoa of the counts.
-/
namespace Go.Proofs.YtkoaeojdlanolaaGreatDoor
open Go.RowKit
open Munch (numText)

theorem tab_of {P : Program} {w : World} {name : String} {k : IntKind} {zs : List Int} {g : Nat} {t : TypeId} {fr : Nat × Nat} (hb : w.heap[g]? = some (.cells (zs.map fun z => Value.int k z).toArray t fr)) (hg : P.globalNamed name = some g) : Lib.TabIs P w name k zs := by
  unfold Lib.TabIs World.var?
  rw [hg]
  simp [hb]

/-- What the walks ask of the library's tables. -/
structure LaidT (w : World) : Prop where
  laid : Laid w
  pow : ∃ t fr, w.heap[1]? = some (.cells (Lib.pow10Tab.map fun z => Value.int .u64 z).toArray t fr)
theorem LaidT.keep {w w' : World} (h : LaidT w) (hb : Below w.heap.size w w') : LaidT w' := by
  refine ⟨h.laid.keep hb, ?_⟩
  obtain ⟨t, fr, hp⟩ := h.pow
  exact ⟨t, fr, by rw [hb.block 1 (lt_of_block hp)]; exact hp⟩

theorem below_grow_drew (w : World) (k : Nat) (os : Array Obj) : Below w.heap.size w (Sort.grow (w.drewN k) os) := by
  have h := below_grows (w := w.drewN k) os
  exact ⟨h.os, h.tape, h.output, h.size, h.block⟩

theorem itoa_any (n : Int) (h0 : -1 ≤ n) (h1 : n ≤ 9) (w : World) (h : LaidT w) : Calls Tryz.prog 98 #[.int .i64 n] w fun e w' => ∃ x : ByteArray, e = .returned (.string x) ∧ x.data.toList = numText n ∧ x.size ≤ 2 ∧ Below w.heap.size w w' := by
  obtain ⟨t, fr, hp⟩ := h.pow
  refine (Any.strconv_Itoa Tryz.laysM171 n (by omega) (by omega) w (tab_of hp (by kernel_rfl))).mono ?_
  rintro e w' ⟨rfl, k, os, rfl⟩
  have e1 : Lib.itoa n = numText n := by
    rcases Munch.num_cases n h0 h1 with rfl | rfl | rfl | rfl | rfl | rfl | rfl | rfl | rfl | rfl | rfl <;> decide +kernel
  refine ⟨_, rfl, e1, ?_, below_grow_drew w k os⟩
  have := numText_len n
  rw [← e1] at this
  show (Lib.itoa n).toArray.size ≤ 2
  simpa using this
end Go.Proofs.YtkoaeojdlanolaaGreatDoor
/-
  tree.Not, tree.endless.
-/
namespace Go.Proofs.YtkoaeojdlanolaaGreatDoor
open Go.RowKit
open Munch (Words Wempty Wbytes Wcat Wany Wall Wnot KeyF Times numText Pow)

theorem not_none : Wnot (Wany []) = Wall [] := by
  funext u; apply propext
  constructor
  · intro _ A hA; cases hA
  · rintro _ ⟨A, hA, _⟩; cases hA
theorem not_every : Wnot (Wall []) = Wany [] := by
  funext u; apply propext
  constructor
  · intro h; exact absurd (fun A hA => by cases hA) h
  · rintro ⟨A, hA, _⟩; cases hA
theorem not_not_ (A : Words) : Wnot (Wnot A) = A := by
  funext u; apply propext
  constructor
  · intro h; exact Classical.byContradiction h
  · intro h h'; exact h' h

set_option maxHeartbeats 2000000 in
set_option maxRecDepth 100000 in
theorem not_any (b : Tr) (w : World) (ok : Nat → Prop) (hb : TreeOk w ok b) (hn : b.n ≤ 1000000) :
    Calls Tryz.prog 79 #[b.v] w fun e w' => Gives w ok (Wnot b.L) (b.n + 1) e w' := by
  obtain ⟨Tb, pb, fb, kb, hbv, hkb, hmb, hentb, hcallb⟩ := hb.keyed.call
  have hlb := hb.len
  have hkb' : kb.size = b.k.length := by rw [← show kb.data.toList = b.k from hkb]; simp
  by_cases h1 : b.k = [60, 62]
  · have e1 := key_is hkb _ h1
    have HL : Hid _ := none_of_key hb h1
    rw [hbv]
    clear h1
    go_enter Tryz.func79, Tryz.ntmps79
    go_wp2_with fail
    rw [hentb, Oper.upon_enter]
    refine (hcallb _).mono ?_
    rintro e w1 ⟨rfl, hb1⟩
    go_wp2_with fail
    refine (allOf_none w1).mono ?_
    rintro e w2 ⟨r, rfl, hrk, hrL, hrn, hrok, hb2⟩
    obtain ⟨T, p, hv⟩ := (hrok w2 (fun _ => True)).shape
    rw [hv]
    go_wp2_with fail
    go_ret
    exact ⟨r, congrArg Ending.returned hv.symm, hrok _ _, by rw [hrL, HL.out, not_none], by omega, hb1.trans (hb2.mono hb1.size)⟩
  · have e1 := key_isnt hkb _ h1
    by_cases h2 : b.k = [38, 60, 62]
    · have e2 := key_is hkb _ h2
      have HL : Hid _ := every_of_key hb h2
      rw [hbv]
      clear h1 h2
      go_enter Tryz.func79, Tryz.ntmps79
      go_wp2_with fail
      rw [hentb, Oper.upon_enter]
      refine (hcallb _).mono ?_
      rintro e w1 ⟨rfl, hb1⟩
      go_wp2_with fail
      refine (oneOf_none w1).mono ?_
      rintro e w2 ⟨r, rfl, hrk, hrL, hrn, hrok, hb2⟩
      obtain ⟨T, p, hv⟩ := (hrok w2 (fun _ => True)).shape
      rw [hv]
      go_wp2_with fail
      go_ret
      exact ⟨r, congrArg Ending.returned hv.symm, hrok _ _, by rw [hrL, HL.out, not_every], by omega, hb1.trans (hb2.mono hb1.size)⟩
    · have e2 := key_isnt hkb _ h2
      clear h1 h2
      rcases hb.notCase with ⟨c, key, hv, _, hc, _, hL, hcn⟩ | ⟨T, p, hv, hT⟩
      · obtain ⟨Tc, pc, hcv⟩ := hc.shape
        have HL : Hid _ := hL
        have HC : Hid (TreeOk w ok c) := hc
        rw [hbv] at hv
        cases hv
        rw [hcv] at hmb hcallb hbv
        rw [hbv]
        clear hb hc hL
        go_enter Tryz.func79, Tryz.ntmps79
        go_wp2_with fail
        rw [hentb, Oper.upon_enter]
        refine (hcallb _).mono ?_
        rintro e w1 ⟨rfl, hb1⟩
        have hta := ta_not (.agg #[.iface Tc pc, .string key]) w1
        have hb2 := hb1.alloc hb1.size (.cells #[.iface Tc pc, .string key] 172)
        go_wp2_with fail
        go_ret
        exact ⟨c, congrArg Ending.returned hcv.symm, (show TreeOk w ok c from HC.out).keep (keeps_below hb2), by rw [HL.out, not_not_], by omega, hb2⟩
      · rw [hbv] at hv
        cases hv
        rw [hbv]
        go_enter Tryz.func79, Tryz.ntmps79
        go_wp2_with fail
        rw [hentb, Oper.upon_enter]
        refine (hcallb _).mono ?_
        rintro e w1 ⟨rfl, hb1⟩
        have hta := ta_not_miss Tb hT pb w1
        have hb2 := hb1.alloc hb1.size (.cells #[.nilIface, .string ByteArray.empty] 172)
        clear hT
        go_wp2_with fail
        rw [hentb, Oper.upon_enter]
        refine (hcallb _).mono ?_
        rintro e w2 ⟨rfl, hb3⟩
        have hb4 := hb2.trans (hb3.mono hb2.size)
        go_wp2_with fail
        go_ret
        obtain ⟨d, hd⟩ := hb
        exact ⟨⟨.iface 172 (.agg #[.iface Tb pb, .string ((⟨#[33]⟩ : ByteArray) ++ kb)]), 33 :: b.k, Wnot b.L, b.n + 1⟩, rfl, ⟨d + 1, Or.inr (Or.inr (Or.inr (Or.inr (Or.inr (Or.inr ⟨b, _, by rw [hbv], by unfold IsKey at *; simp [hkb], TreeF.keep (keeps_below hb4) _ _ hd, rfl, rfl, Nat.le_refl _⟩)))))⟩, rfl, Nat.le_refl _, hb4⟩

/-- A tree is a repeat, or of another kind. -/
theorem TreeOk.repCase {w : World} {ok : Nat → Prop} {t : Tr} (h : TreeOk w ok t) :
    (∃ (b : Tr) (lo hi : Int) (key : ByteArray), t.v = .iface 170 (.agg #[b.v, .int .i64 lo, .int .i64 hi, .string key]) ∧ TreeOk w ok b ∧ (0 ≤ lo ∧ lo ≤ 9 ∧ -1 ≤ hi ∧ hi ≤ 9) ∧ t.L = Times b.L lo hi) ∨
    ∃ T p, t.v = .iface T p ∧ (T = 200 ∨ T = 181 ∨ T = 223 ∨ T = 186 ∨ T = 140 ∨ T = 172) := by
  obtain ⟨d, h⟩ := h
  cases d with
  | zero => exact h.elim
  | succ d =>
    rcases h with ⟨h1, h2, _⟩ | ⟨S, f, key, h1, h2, _⟩ | ⟨a, b, key, h1, h2, _⟩ | ⟨ts, sv, key, h1, h2, _⟩ | ⟨ts, sv, key, h1, h2, _⟩ | ⟨b, lo, hi, key, h1, h2, h3, h4, h5, h6, _⟩ | ⟨b, key, h1, h2, h3, h4⟩
    · exact Or.inr ⟨_, _, h1, by simp⟩
    · exact Or.inr ⟨_, _, h1, by simp⟩
    · exact Or.inr ⟨_, _, h1, by simp⟩
    · exact Or.inr ⟨_, _, h1, by simp⟩
    · exact Or.inr ⟨_, _, h1, by simp⟩
    · exact Or.inl ⟨b, lo, hi, key, h1, ⟨d, h3⟩, h4, h6⟩
    · exact Or.inr ⟨_, _, h1, by simp⟩
theorem ta_rep : ∀ (p : Value) (w : World), (Instr.typeAssert (.iface 170 p) 72 170 true).run Tryz.prog w = .ok (.tuple #[p, .bool true]) w := fun _ _ => by kernel_rfl
set_option maxRecDepth 100000 in
theorem ta_rep_miss (T : TypeId) (hT : T = 200 ∨ T = 181 ∨ T = 223 ∨ T = 186 ∨ T = 140 ∨ T = 172) : ∀ (p : Value) (w : World), (Instr.typeAssert (.iface T p) 72 170 true).run Tryz.prog w = .ok (.tuple #[.agg #[.nilIface, .int .i64 0, .int .i64 0, .string ByteArray.empty], .bool false]) w := by
  rcases hT with rfl | rfl | rfl | rfl | rfl | rfl <;> exact fun _ _ => by kernel_rfl

theorem pow_add (L : Words) : ∀ (j k : Nat) (u v : List UInt8), Pow L j u → Pow L k v → Pow L (j + k) (u ++ v) := by
  intro j
  induction j with
  | zero => intro k u v hu hv; rw [show u = [] from hu]; simpa using hv
  | succ j ih =>
    rintro k u v ⟨a, b, rfl, ha, hb⟩ hv
    have e : j + 1 + k = (j + k) + 1 := by omega
    rw [e]
    exact ⟨a, b ++ v, by simp, ha, ih k b v hb hv⟩

/-- Words of it, one behind the other, are a word of it, and the empty text is one. -/
def Endless (L : Words) : Prop := L [] ∧ ∀ u v, L u → L v → L (u ++ v)
theorem endless_every : Endless (Wall []) := ⟨(fun A hA => by cases hA), (fun u v _ _ A hA => by cases hA)⟩
theorem endless_star (B : Words) : Endless (Times B 0 (-1)) := by
  refine ⟨⟨0, by omega, by omega, rfl⟩, ?_⟩
  rintro u v ⟨j, _, _, hj⟩ ⟨k, _, _, hk⟩
  exact ⟨j + k, by omega, by omega, pow_add B j k u v hj hk⟩

set_option maxHeartbeats 2000000 in
set_option maxRecDepth 100000 in
theorem endless_any (b : Tr) (w : World) (ok : Nat → Prop) (hb : TreeOk w ok b) :
    Calls Tryz.prog 97 #[b.v] w fun e w' => ∃ r : Bool, e = .returned (.bool r) ∧ (r = true → Endless b.L) ∧ Below w.heap.size w w' := by
  obtain ⟨Tb, pb, fb, kb, hbv, hkb, hmb, hentb, hcallb⟩ := hb.keyed.call
  by_cases h2 : b.k = [38, 60, 62]
  · have e2 := key_is hkb _ h2
    have HL : Hid _ := every_of_key hb h2
    rw [hbv]
    clear h2
    go_enter Tryz.func97, Tryz.ntmps97
    go_wp2_with fail
    rw [hentb, Oper.upon_enter]
    refine (hcallb _).mono ?_
    rintro e w1 ⟨rfl, hb1⟩
    go_wp2_with fail
    go_ret
    exact ⟨true, rfl, (fun _ => by rw [HL.out]; exact endless_every), hb1⟩
  · have e2 := key_isnt hkb _ h2
    clear h2
    rcases hb.repCase with ⟨c, lo, hi, key, hv, hc, hbd, hL⟩ | ⟨T, p, hv, hT⟩
    · obtain ⟨Tc, pc, hcv⟩ := hc.shape
      have HL : Hid _ := hL
      rw [hbv] at hv
      cases hv
      rw [hcv] at hmb hcallb hbv
      rw [hbv]
      clear hb hc hL
      go_enter Tryz.func97, Tryz.ntmps97
      go_wp2_with fail
      rw [hentb, Oper.upon_enter]
      refine (hcallb _).mono ?_
      rintro e w1 ⟨rfl, hb1⟩
      have hta := ta_rep (.agg #[.iface Tc pc, .int .i64 lo, .int .i64 hi, .string key]) w1
      have hb2 := hb1.alloc hb1.size (.cells #[.iface Tc pc, .int .i64 lo, .int .i64 hi, .string key] 170)
      by_cases hlo : lo = 0
      · subst hlo
        go_wp2_with fail
        go_ret
        refine ⟨_, rfl, fun hr => ?_, hb2⟩
        have : hi = -1 := by simpa using hr
        rw [HL.out, this]; exact endless_star _
      · go_wp2_with fail
        go_ret
        exact ⟨false, rfl, (fun h => by cases h), hb2⟩
    · rw [hbv] at hv
      cases hv
      rw [hbv]
      go_enter Tryz.func97, Tryz.ntmps97
      go_wp2_with fail
      rw [hentb, Oper.upon_enter]
      refine (hcallb _).mono ?_
      rintro e w1 ⟨rfl, hb1⟩
      have hta := ta_rep_miss Tb hT pb w1
      have hb2 := hb1.alloc hb1.size (.cells #[.nilIface, .int .i64 0, .int .i64 0, .string ByteArray.empty] 170)
      clear hT
      go_wp2_with fail
      go_ret
      exact ⟨false, rfl, (fun h => by cases h), hb2⟩
end Go.Proofs.YtkoaeojdlanolaaGreatDoor
