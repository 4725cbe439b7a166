import Derived.Test.YtkoaeojdlanolaaGreatDoorCc10
import Derived.Test.YtkoaeojdlanolaaGreatDoorCc09
import Derived.Test.YtkoaeojdlanolaaGreatDoorCc11
import Derived.Laws.AppendOwnNone
/-
  tree.mergeBytes.
-/
namespace Go.Proofs.YtkoaeojdlanolaaGreatDoor
open Go.RowKit
open Munch (Words Wempty Wbytes Wcat Wany Wall Wnot KeyF Times numText)

structure MB (w : World) (ok : Nat → Prop) (ts : List Tr) (k : Nat) (out : List Tr) (Ss : List (Nat → Bool)) (vs : List Value) : Prop where
  from_ : ∀ t ∈ out, t ∈ ts
  sets : ∀ (i : Nat) (S : Nat → Bool), Ss[i]? = some S → ∃ x, vs[i]? = some x ∧ SetOk w ok x S
  slen : vs.length = Ss.length
  words : ∀ u, ((∀ t ∈ out, t.L u) ∧ ∀ S ∈ Ss, Wbytes S u) ↔ ∀ t ∈ ts.take k, t.L u
  sum : (out.map (·.n)).sum + Ss.length ≤ ((ts.take k).map (·.n)).sum
  len : out.length + Ss.length ≤ k

theorem MB.start (w : World) (ok : Nat → Prop) (ts : List Tr) : MB w ok ts 0 [] [] [] := ⟨(fun t h => by cases h), (fun i S h => by simp at h), rfl, (fun u => by simp), by simp, by simp⟩
theorem MB.addOut {w : World} {ok : Nat → Prop} {ts : List Tr} {k : Nat} {out : List Tr} {Ss : List (Nat → Bool)} {vs : List Value} (h : MB w ok ts k out Ss vs) (hk : k < ts.length) : MB w ok ts (k + 1) (out ++ [ts[k]]) Ss vs := by
  refine ⟨fun t ht => ?_, h.sets, h.slen, fun u => ?_, ?_, ?_⟩
  · rcases List.mem_append.1 ht with ht | ht
    · exact h.from_ t ht
    · simp at ht; subst ht; exact List.getElem_mem hk
  · have := h.words u
    rw [List.take_succ_eq_append_getElem hk]
    constructor
    · rintro ⟨h1, h2⟩ t ht
      rcases List.mem_append.1 ht with ht | ht
      · exact this.1 ⟨fun x hx => h1 x (List.mem_append.2 (Or.inl hx)), h2⟩ t ht
      · simp at ht; subst ht; exact h1 _ (by simp)
    · intro h1
      have h2 := this.2 (fun t ht => h1 t (List.mem_append.2 (Or.inl ht)))
      refine ⟨fun t ht => ?_, h2.2⟩
      rcases List.mem_append.1 ht with ht | ht
      · exact h2.1 t ht
      · simp at ht; subst ht; exact h1 _ (List.mem_append.2 (Or.inr (by simp)))
  · have := h.sum
    rw [List.take_succ_eq_append_getElem hk]
    simp only [List.map_append, List.sum_append, List.map_cons, List.map_nil, List.sum_cons, List.sum_nil]
    omega
  · have := h.len; simp; omega
theorem MB.addSet {w : World} {ok : Nat → Prop} {ts : List Tr} {k : Nat} {out : List Tr} {Ss : List (Nat → Bool)} {vs : List Value} (h : MB w ok ts k out Ss vs) (hk : k < ts.length) (S : Nat → Bool) (x : Value) (hx : SetOk w ok x S) (hL : ts[k].L = Wbytes S) (hn : 1 ≤ ts[k].n) : MB w ok ts (k + 1) out (Ss ++ [S]) (vs ++ [x]) := by
  refine ⟨h.from_, fun i S' hi => ?_, by simp [h.slen], fun u => ?_, ?_, ?_⟩
  · rcases snoc_case hi with hi | ⟨rfl, rfl⟩
    · obtain ⟨y, hy, hs⟩ := h.sets i S' hi
      exact ⟨y, by rw [List.getElem?_append_left (lt_of_at hy)]; exact hy, hs⟩
    · exact ⟨x, by rw [← h.slen, List.getElem?_append_right (Nat.le_refl _)]; simp, hx⟩
  · have := h.words u
    rw [List.take_succ_eq_append_getElem hk]
    constructor
    · rintro ⟨h1, h2⟩ t ht
      rcases List.mem_append.1 ht with ht | ht
      · exact this.1 ⟨h1, fun S' hS => h2 S' (List.mem_append.2 (Or.inl hS))⟩ t ht
      · simp at ht; subst ht; rw [hL]; exact h2 S (by simp)
    · intro h1
      have h2 := this.2 (fun t ht => h1 t (List.mem_append.2 (Or.inl ht)))
      refine ⟨h2.1, fun S' hS => ?_⟩
      rcases List.mem_append.1 hS with hS | hS
      · exact h2.2 S' hS
      · simp at hS; subst hS; rw [← hL]; exact h1 _ (List.mem_append.2 (Or.inr (by simp)))
  · have := h.sum
    rw [List.take_succ_eq_append_getElem hk]
    simp only [List.map_append, List.sum_append, List.map_cons, List.map_nil, List.sum_cons, List.sum_nil, List.length_append, List.length_cons, List.length_nil]
    omega
  · have := h.len; simp; omega

theorem bytes_all (Ss : List (Nat → Bool)) (hne : Ss ≠ []) (u : List UInt8) : Wbytes (allV Ss) u ↔ ∀ S ∈ Ss, Wbytes S u := by
  constructor
  · rintro ⟨c, rfl, hc⟩ S hS
    unfold allV at hc
    rw [List.all_eq_true] at hc
    exact ⟨c, rfl, hc S hS⟩
  · intro h
    cases Ss with
    | nil => exact absurd rfl hne
    | cons S r =>
      obtain ⟨c, rfl, hc⟩ := h S (by simp)
      refine ⟨c, rfl, ?_⟩
      unfold allV
      rw [List.all_eq_true]
      intro S' hS'
      obtain ⟨c', he, hc'⟩ := h S' hS'
      simp at he; subst he; exact hc'

/-- What a merge leaves: a slice of the call's own. -/
def Merged (w : World) (ok : Nat → Prop) (ts : List Tr) (same : List Tr → List Tr → Prop) (e : Ending) (w' : World) : Prop :=
  ∃ (ov : Value) (us : List Tr), e = .returned ov ∧ w'.ownsRow w.heap.size 72 1 ov us.length (us.map (·.v)) ∧ (∀ t ∈ us, TreeOk w' (Apart ok w.heap.size ov) t) ∧ same us ts ∧ (us.map (·.n)).sum ≤ (ts.map (·.n)).sum ∧ us.length ≤ ts.length ∧ Below w.heap.size w w'
def SameAll (us ts : List Tr) : Prop := ∀ u, (∀ t ∈ us, t.L u) ↔ ∀ t ∈ ts, t.L u
def SameAny (us ts : List Tr) : Prop := ∀ u, (∃ t ∈ us, t.L u) ↔ ∃ t ∈ ts, t.L u

theorem sum_len (l : List Tr) (h : ∀ x ∈ l, 1 ≤ x.n) : l.length ≤ (l.map (·.n)).sum := by
  induction l with
  | nil => simp
  | cons x r ih => have := ih (fun y hy => h y (by simp [hy])); have := h x (by simp); simp; omega

set_option maxHeartbeats 4000000 in
set_option maxRecDepth 100000 in
theorem mergeBytes_any (sv : Value) (ts : List Tr) (w : World) (ok : Nat → Prop) (hS : TreesOk w ok sv ts) (hok : ∀ b, ok b → b < w.heap.size) (hn : (ts.map (·.n)).sum ≤ 1000000) (hl : Laid w) :
    Calls Tryz.prog 81 #[sv] w fun e w' => Merged w ok ts SameAll e w' := by
  obtain ⟨i1, hi1, hi10, hi11, hi12⟩ := info_parts infoTree
  obtain ⟨i2, hi2, hi20, hi21, hi22⟩ := info_parts infoSet
  obtain ⟨ao, cap, rfl, hmax⟩ := hS.held.shape
  have hlen : ts.length ≤ 1000000 := by
    have := sum_len ts (fun x hx => (hS.trees x hx).pos)
    omega
  have HS0 : Hid _ := MB.start w ok ts
  go_enter Tryz.func81, Tryz.ntmps81
  go_wp2_with fail
  go_loopw [3, 4, 11] (fun ov zv i wr => ∃ (k : Nat) (out : List Tr) (Ss : List (Nat → Bool)) (vs : List Value) (oa : Option Addr) (oc : Nat) (za : Option Addr) (zc : Nat), k ≤ ts.length ∧ i = .int .i64 k ∧ ov = .slice oa out.length oc ∧ zv = .slice za vs.length zc ∧
      wr.ownsRow w.heap.size 72 1 (.slice oa out.length oc) out.length (out.map (·.v)) ∧ wr.ownsRow w.heap.size 149 1 (.slice za vs.length zc) vs.length vs ∧ Below w.heap.size w wr ∧ Hid (MB w ok ts k out Ss vs)) (fun _ _ i _ => ts.length - (intOf i).toNat)
  case atStart => exact ⟨0, [], [], [], none, 0, none, 0, Nat.zero_le _, rfl, rfl, rfl, World.ownsRow_nil _ _ _ _, World.ownsRow_nil _ _ _ _, Below.refl _ _, HS0⟩
  case round =>
    obtain ⟨k, out, Ss, vs, oa, oc, za, zc, hk, rfl, rfl, rfl, hO, hZ, hnx, H⟩ := hrel
    clear HS0
    have hsz := hnx.size
    have hul := H.out.len
    have HSL : Hid _ := H.out.slen
    have hvl : vs.length ≤ k := by have := H.out.slen; omega
    by_cases hlt : k < ts.length
    · obtain ⟨g0, rfl, hx, hg0⟩ := hS.held.at_ k hlt
      have htk := hS.trees ts[k] (List.getElem_mem hlt)
      have hx' : wr.cell? ⟨g0, k, none⟩ = some ts[k].v := by rw [hnx.cell (p := ⟨g0, k, none⟩) hg0]; exact hx
      clear hx
      rcases htk.headCase with ⟨S, f, key, hv, hs, hL, hn1⟩ | hoth
      · obtain ⟨fn, caps, rfl⟩ := hs.notAgg
        rw [hv] at hx'
        have hta := ta_byte (.agg #[.func (.func fn) #[] caps, .string key]) wr
        have hb1 : Below wr.heap.size wr (wr.alloc (.cells #[.func (.func fn) #[] caps, .string key] 181)) := (Below.refl _ _).alloc (Nat.le_refl _) _
        have hb2 := hb1.alloc (by simp) (.cells #[.func (.func fn) #[] caps] 149)
        have hZ2 := ownsRow_keep hZ hb2
        have hbase : w.heap.size ≤ ((wr.alloc (.cells #[.func (.func fn) #[] caps, .string key] 181)).alloc (.cells #[.func (.func fn) #[] caps] 149)).heap.size := by simp; omega
        have H5 : Hid _ := H.out.addSet hlt S _ hs hL hn1
        have hO2 := ownsRow_keep hO hb2
        clear hs hL
        go_wp2_with (at_builtin; go_must (refine wpList_append_lies _ rfl (.tmp 21) (.tmp 24) 179 rfl w.heap.size 149 i2 .nilFunc 1 8 Tryz.underlying179 hi2 hi20 hi21 hi22 rfl (by decide) _ _ _ rfl hZ2 ⟨wr.heap.size + 1, 0, none⟩ 1 1 [.func (.func fn) #[] caps] (by simp [Act.eval]) rfl (World.news_of_block (by have := Blk.new (wr.alloc (.cells #[.func (.func fn) #[] caps, .string key] 181)) #[.func (.func fn) #[] caps] 149; rwa [size_alloc] at this)) (by intro u hu; simp at hu; subst hu; rfl) (by decide) (by unfold maxLen; omega) (by omega) hbase _ rfl ?_))
        intro g2 cap2 w5 hown5 hgrow5 hat5 hlt5
        have hO5 := ownsRow_keeps hO2 (keeps_grown hgrow5) (fun x hxv => rows_ne hO2 hZ2 (by decide) hxv)
        have hb5 : Below w.heap.size w w5 := (hnx.trans (hb2.mono hsz)).grown hgrow5 hbase (fun x hx => (hZ2.lt x hx).1)
        clear hgrow5 hat5 hlt5 hO hO2 hZ hZ2 hb1 hb2 hta hx'
        go_wp2_with fail
        go_roundw
        case rel => exact ⟨k + 1, out, Ss ++ [S], vs ++ [.func (.func fn) #[] caps], oa, oc, some ⟨g2, 0, none⟩, cap2, by omega, by go_num, rfl, by simp, hO5, by simpa using hown5, hb5, H5⟩
        case measure => simp [intOf]; omega
      · obtain ⟨Tk, pk, hv, hT⟩ : ∃ Tk pk, ts[k].v = .iface Tk pk ∧ (Tk = 223 ∨ Tk = 200 ∨ Tk = 172 ∨ Tk = 186 ∨ Tk = 140 ∨ Tk = 170) := by
          rcases hoth with ⟨_, _, _, h, _⟩ | ⟨T, p, h, hT⟩
          · exact ⟨_, _, h, Or.inl rfl⟩
          · exact ⟨T, p, h, Or.inr hT⟩
        rw [hv] at hx'
        have hta := ta_byte_miss Tk hT pk wr
        have hb1 : Below wr.heap.size wr (wr.alloc (.cells #[.nilFunc, .string ByteArray.empty] 181)) := (Below.refl _ _).alloc (Nat.le_refl _) _
        have hb2 := hb1.alloc (by simp) (.cells #[.iface Tk pk] 72)
        have hO2 := ownsRow_keep hO hb2
        have hZ2 := ownsRow_keep hZ hb2
        have hbase : w.heap.size ≤ ((wr.alloc (.cells #[.nilFunc, .string ByteArray.empty] 181)).alloc (.cells #[.iface Tk pk] 72)).heap.size := by simp; omega
        have H5 : Hid _ := H.out.addOut hlt
        clear hT hoth
        go_wp2_with (at_builtin; go_must (refine wpList_append_lies _ rfl (.tmp 26) (.tmp 28) 34 rfl w.heap.size 72 i1 .nilIface 1 16 Tryz.underlying34 hi1 hi10 hi11 hi12 rfl (by decide) _ _ _ rfl hO2 ⟨wr.heap.size + 1, 0, none⟩ 1 1 [.iface Tk pk] (by simp [Act.eval]) rfl (World.news_of_block (by have := Blk.new (wr.alloc (.cells #[.nilFunc, .string ByteArray.empty] 181)) #[.iface Tk pk] 72; rwa [size_alloc] at this)) (by intro u hu; simp at hu; subst hu; rfl) (by decide) (by unfold maxLen; omega) (by omega) hbase _ rfl ?_))
        intro g2 cap2 w5 hown5 hgrow5 hat5 hlt5
        have hZ5 := ownsRow_keeps hZ2 (keeps_grown hgrow5) (fun x hxv => rows_ne hZ2 hO2 (by decide) hxv)
        have hb5 : Below w.heap.size w w5 := (hnx.trans (hb2.mono hsz)).grown hgrow5 hbase (fun x hx => (hO2.lt x hx).1)
        rw [← hv] at hown5
        clear hgrow5 hat5 hlt5 hO hO2 hZ hZ2 hb1 hb2 hta hx'
        go_wp2_with fail
        go_roundw
        case rel => exact ⟨k + 1, out ++ [ts[k]], Ss, vs, some ⟨g2, 0, none⟩, cap2, za, zc, by omega, by go_num, by simp, rfl, by simpa using hown5, hZ5, hb5, H5⟩
        case measure => simp [intOf]; omega
    · obtain rfl : k = ts.length := by omega
      have hout : ∀ t ∈ out, TreeOk wr (Apart ok w.heap.size (.slice oa out.length oc)) t := fun t ht => ((hS.trees t (H.out.from_ t ht)).keep (keeps_below hnx)).mono (fun x _ hx => ⟨Or.inl hx, fun e => by have := (hO.lt x e).1; have := hok x hx; omega⟩)
      by_cases h0 : vs.length = 0
      · have h0' : ¬ (0 : Int) < (vs.length : Int) := by omega
        have HF : Hid (Merged w ok ts SameAll (.returned (.slice oa out.length oc)) wr) := by
          have hSs : Ss = [] := List.eq_nil_of_length_eq_zero (by have := HSL.out; omega)
          have h1 := H.out.sum
          have h2 := H.out.len
          rw [List.take_of_length_le (Nat.le_refl _)] at h1
          refine ⟨_, out, rfl, hO, hout, fun u => ?_, by omega, by omega, hnx⟩
          have := H.out.words u
          rw [List.take_of_length_le (Nat.le_refl _), hSs] at this
          rw [← this]; simp
        clear hout
        go_wp2_with fail
        go_ret
        exact HF.out
      · have h0' : (0 : Int) < (vs.length : Int) := by omega
        have hSn : Ss ≠ [] := by intro e; have hsl := HSL.out; rw [e] at hsl; simp at hsl; rw [hsl] at h0; exact h0 rfl
        have hSs : SetsOk wr (fun _ => True) (.slice za vs.length zc) Ss :=
          ⟨vs, w.heap.size, by rw [← HSL.out]; exact hZ, fun _ _ => trivial, fun i S hi => by obtain ⟨x, hx, hs⟩ := H.out.sets i S hi; exact ⟨x, hx, (hs.keep (keeps_below hnx)).mono (fun _ _ _ => trivial)⟩⟩
        have hall := allOf_any _ Ss wr _ hSs
        clear hSs
        go_wp2_with fail
        refine hall.mono ?_
        rintro e w2 ⟨v2, rfl, hs2, hb2⟩
        clear hall
        have hby := bytes_any v2 _ w2 _ hs2 (hl.keep (hnx.trans (hb2.mono hsz)))
        obtain ⟨f2, c2, rfl⟩ := hs2.notAgg
        go_wp2_with fail
        refine hby.mono ?_
        rintro e w3 ⟨r, rfl, hrok, hrL, hrn, hb3⟩
        clear hby
        obtain ⟨Tr_, pr, hrv⟩ := hrok.shape
        rw [hrv]
        have hb3' : Below wr.heap.size wr w3 := hb2.trans (hb3.mono hb2.size)
        have hb4 := hb3'.alloc hb3'.size (.cells #[.iface Tr_ pr] 72)
        have hO4 := ownsRow_keep hO hb4
        have hbase : w.heap.size ≤ (w3.alloc (.cells #[.iface Tr_ pr] 72)).heap.size := by have := hb3'.size; simp; omega
        go_wp2_with (at_builtin; go_must (refine wpList_append_lies _ rfl (.tmp 34) (.tmp 38) 34 rfl w.heap.size 72 i1 .nilIface 1 16 Tryz.underlying34 hi1 hi10 hi11 hi12 rfl (by decide) _ _ _ rfl hO4 ⟨w3.heap.size, 0, none⟩ 1 1 [.iface Tr_ pr] rfl rfl (World.news_of_block (Blk.new _ _ _)) (by intro u hu; simp at hu; subst hu; rfl) (by decide) (by unfold maxLen; omega) (by omega) hbase _ rfl ?_))
        intro g2 cap2 w5 hown5 hgrow5 hat5 hlt5
        rw [← hrv] at hown5
        have HF : Hid (Merged w ok ts SameAll (.returned (.slice (some ⟨g2, 0, none⟩) (out.length + 1) cap2)) w5) := by
          have h1 := H.out.sum
          have h2 := H.out.len
          have h7 : 1 ≤ Ss.length := by have := HSL.out; omega
          rw [List.take_of_length_le (Nat.le_refl _)] at h1
          have hat : (Value.slice (some ⟨g2, 0, none⟩) (out.length + 1) cap2).ownBlock = (Value.slice oa out.length oc).ownBlock ∨ (Value.slice (some ⟨g2, 0, none⟩) (out.length + 1) cap2).ownBlock = some (w3.alloc (.cells #[.iface Tr_ pr] 72)).heap.size := by
            rcases hat5 with h | h
            · left; rw [h]; rfl
            · right; rw [h]; simp [Value.ownBlock]
          refine ⟨_, out ++ [r], rfl, by simpa using hown5, fun t ht => ?_, fun u => ?_, ?_, ?_, (hnx.trans (hb4.mono hsz)).grown hgrow5 hbase (fun x hx => (hO4.lt x hx).1)⟩
          · rcases List.mem_append.1 ht with ht | ht
            · exact trees_snoc ((hout t ht).keep (keeps_below hb4)) hgrow5 hat
            · simp at ht; subst ht
              refine trees_snoc ((hrok.mono (ok' := Apart ok w.heap.size (.slice oa out.length oc)) (fun x _ hx => ⟨Or.inr (by have := hb2.size; omega), fun e => ?_⟩)).keep (keeps_below ((Below.refl _ _).alloc (Nat.le_refl _) _))) hgrow5 hat
              have := (hO.lt x e).2
              have := hb2.size
              omega
          · have := H.out.words u
            rw [List.take_of_length_le (Nat.le_refl _)] at this
            rw [← this, ← bytes_all Ss hSn u, ← hrL]
            constructor
            · intro hh; exact ⟨fun t ht => hh t (by simp [ht]), hh r (by simp)⟩
            · rintro ⟨ha, hb⟩ t ht
              rcases List.mem_append.1 ht with ht | ht
              · exact ha t ht
              · simp at ht; subst ht; exact hb
          · simp only [List.map_append, List.sum_append, List.map_cons, List.map_nil, List.sum_cons, List.sum_nil]
            omega
          · simp; omega
        clear hout hown5 hgrow5 hat5
        go_wp2_with fail
        go_ret
        exact HF.out
end Go.Proofs.YtkoaeojdlanolaaGreatDoor
/-
  tree.OneOf.
-/
namespace Go.Proofs.YtkoaeojdlanolaaGreatDoor
open Go.RowKit
open Munch (Words Wempty Wbytes Wcat Wany Wall Wnot KeyF Times numText)

theorem wany_map (l : List Tr) (u : List UInt8) : Wany (l.map (·.L)) u ↔ ∃ t ∈ l, t.L u := by
  constructor
  · rintro ⟨A, hA, hu⟩
    obtain ⟨t, ht, rfl⟩ := List.mem_map.1 hA
    exact ⟨t, ht, hu⟩
  · rintro ⟨t, ht, hu⟩
    exact ⟨_, List.mem_map.2 ⟨t, ht, rfl⟩, hu⟩
theorem wall_map (l : List Tr) (u : List UInt8) : Wall (l.map (·.L)) u ↔ ∀ t ∈ l, t.L u := by
  constructor
  · intro h t ht
    exact h _ (List.mem_map.2 ⟨t, ht, rfl⟩)
  · intro h A hA
    obtain ⟨t, ht, rfl⟩ := List.mem_map.1 hA
    exact h t ht
theorem n_le_sum (l : List Tr) (t : Tr) (h : t ∈ l) : t.n ≤ (l.map (·.n)).sum := by
  induction l with
  | nil => cases h
  | cons x r ih =>
    rcases List.mem_cons.1 h with rfl | h
    · simp
    · have := ih h; simp; omega

/-- A tree is a choice, or of another kind. -/
theorem TreeOk.choiceCase {w : World} {ok : Nat → Prop} {t : Tr} (h : TreeOk w ok t) :
    (∃ (ks : List Tr) (sv : Value) (key : ByteArray), t.v = .iface 186 (.agg #[sv, .string key]) ∧ TreesOk w ok sv ks ∧ t.L = Wany (ks.map (·.L)) ∧ (ks.map (·.n)).sum ≤ t.n) ∨
    ∃ T p, t.v = .iface T p ∧ (T = 200 ∨ T = 181 ∨ T = 223 ∨ T = 140 ∨ T = 170 ∨ T = 172) := by
  obtain ⟨d, h⟩ := h
  cases d with
  | zero => exact h.elim
  | succ d =>
    rcases h with ⟨h1, h2, _⟩ | ⟨S, f, key, h1, h2, _⟩ | ⟨a, b, key, h1, h2, _⟩ | ⟨ts, sv, key, h1, h2, h3, h4, h5, h6, h7, _⟩ | ⟨ts, sv, key, h1, h2, h3, h4, h5, h6, h7, _⟩ | ⟨b, lo, hi, key, h1, h2, _⟩ | ⟨b, key, h1, h2, h3, h4⟩
    · exact Or.inr ⟨_, _, h1, by simp⟩
    · exact Or.inr ⟨_, _, h1, by simp⟩
    · exact Or.inr ⟨_, _, h1, by simp⟩
    · exact Or.inl ⟨ts, sv, key, h1, ⟨h3, fun x hx => ⟨d, h4 x hx⟩⟩, h6, h7⟩
    · exact Or.inr ⟨_, _, h1, by simp⟩
    · exact Or.inr ⟨_, _, h1, by simp⟩
    · exact Or.inr ⟨_, _, h1, by simp⟩

theorem ta_choice : ∀ (p : Value) (w : World), (Instr.typeAssert (.iface 186 p) 72 186 true).run Tryz.prog w = .ok (.tuple #[p, .bool true]) w := fun _ _ => by kernel_rfl
set_option maxRecDepth 100000 in
theorem ta_choice_miss (T : TypeId) (hT : T = 200 ∨ T = 181 ∨ T = 223 ∨ T = 140 ∨ T = 170 ∨ T = 172) : ∀ (p : Value) (w : World), (Instr.typeAssert (.iface T p) 72 186 true).run Tryz.prog w = .ok (.tuple #[.agg #[.slice none 0 0, .string ByteArray.empty], .bool false]) w := by
  rcases hT with rfl | rfl | rfl | rfl | rfl | rfl <;> exact fun _ _ => by kernel_rfl

/-- The trees of which a tree is made, one level laid open. -/
structure KidsAny (w : World) (ok : Nat → Prop) (ts : List Tr) (k : Nat) (ks : List Tr) : Prop where
  trees : ∀ t ∈ ks, TreeOk w ok t
  words : ∀ u, (∃ t ∈ ks, t.L u) ↔ ∃ t ∈ ts.take k, t.L u
  sum : (ks.map (·.n)).sum ≤ ((ts.take k).map (·.n)).sum
theorem KidsAny.start (w : World) (ok : Nat → Prop) (ts : List Tr) : KidsAny w ok ts 0 [] := ⟨(fun t h => by cases h), (fun u => by simp), by simp⟩
theorem KidsAny.add {w : World} {ok : Nat → Prop} {ts : List Tr} {k : Nat} {ks : List Tr} (h : KidsAny w ok ts k ks) (hk : k < ts.length) (l : List Tr) (hl : ∀ t ∈ l, TreeOk w ok t) (hw : ∀ u, (∃ t ∈ l, t.L u) ↔ ts[k].L u) (hs : (l.map (·.n)).sum ≤ ts[k].n) : KidsAny w ok ts (k + 1) (ks ++ l) := by
  refine ⟨fun t ht => ?_, fun u => ?_, ?_⟩
  · rcases List.mem_append.1 ht with ht | ht
    · exact h.trees t ht
    · exact hl t ht
  · have h1 := h.words u
    have h2 := hw u
    rw [List.take_succ_eq_append_getElem hk]
    constructor
    · rintro ⟨t, ht, hu⟩
      rcases List.mem_append.1 ht with ht | ht
      · obtain ⟨x, hx, hxu⟩ := h1.1 ⟨t, ht, hu⟩
        exact ⟨x, List.mem_append.2 (Or.inl hx), hxu⟩
      · exact ⟨ts[k], List.mem_append.2 (Or.inr (by simp)), h2.1 ⟨t, ht, hu⟩⟩
    · rintro ⟨t, ht, hu⟩
      rcases List.mem_append.1 ht with ht | ht
      · obtain ⟨x, hx, hxu⟩ := h1.2 ⟨t, ht, hu⟩
        exact ⟨x, List.mem_append.2 (Or.inl hx), hxu⟩
      · simp at ht; subst ht
        obtain ⟨x, hx, hxu⟩ := h2.2 hu
        exact ⟨x, List.mem_append.2 (Or.inr hx), hxu⟩
  · have := h.sum
    rw [List.take_succ_eq_append_getElem hk]
    simp only [List.map_append, List.sum_append, List.map_cons, List.map_nil, List.sum_cons, List.sum_nil]
    omega

/-- Sorted, each key once: the same words. -/
theorem Settled.any {w : World} {ok : Nat → Prop} {vs us : List Tr} (h : Settled vs us) (h1 : ∀ t ∈ us, TreeOk w ok t) (u : List UInt8) : (∃ t ∈ vs, t.L u) ↔ ∃ t ∈ us, t.L u := by
  constructor
  · rintro ⟨t, ht, hu⟩
    exact ⟨t, h.from_ t ht, hu⟩
  · rintro ⟨t, ht, hu⟩
    obtain ⟨v, hv, hk⟩ := h.all t ht
    exact ⟨v, hv, by rw [(h1 v (h.from_ v hv)).same (h1 t ht) hk]; exact hu⟩
set_option maxHeartbeats 1000000 in
theorem settled_call (ov : Value) (us : List Tr) (base : Nat) (w : World) (ok : Nat → Prop) (hO : w.ownsRow base 72 1 ov us.length (us.map (·.v))) (hT : ∀ t ∈ us, TreeOk w ok t) (hap : ∀ x, ok x → ov.ownBlock ≠ some x) (hlen : us.length ≤ 1000000) :
    Calls Tryz.prog 80 #[ov] w fun e w' => ∃ (va : Option Addr) (vc : Nat) (vs : List Tr), e = .returned (.slice va vs.length vc) ∧ Settled vs us ∧ TreesOk w' (fun x => ok x ∨ base ≤ x) (.slice va vs.length vc) vs ∧ Below base w w' := by
  by_cases hne : us = []
  · subst hne
    obtain ⟨oa, oc, rfl⟩ : ∃ oa oc, ov = .slice oa 0 oc := by
      rcases hO.2 with ⟨hh, h0⟩ | ⟨_, _, _, hh, _⟩
      · exact ⟨none, 0, hh⟩
      · exact ⟨_, _, hh⟩
    refine (settle_none oa oc w).mono ?_
    rintro e w' ⟨rfl, rfl⟩
    exact ⟨oa, oc, [], rfl, Settled.nil, ⟨⟨base, hO, fun g hg => Or.inr (hO.lt g hg).1⟩, (fun t ht => by cases ht)⟩, Below.refl _ _⟩
  · rcases hO.2 with ⟨_, h0⟩ | ⟨g, cap, cur, rfl, hg, hh, h1, h2, h3, h4⟩
    · exact absurd (List.eq_nil_of_length_eq_zero h0) hne
    · have hR : RowIs w g cap (us.map (·.v)) := ⟨cur, hh, by omega, by simpa using h1, h2, by simpa using h4⟩
      refine (settle_any us hne hlen g cap w (fun t ht => (hT t ht).keyed) hR).mono ?_
      rintro e w' ⟨vs, rfl, hst, ⟨cur', hb', r1, r2, r3, r4⟩, htu⟩
      refine ⟨_, cap, vs, rfl, hst, ⟨⟨base, ⟨by simp, Or.inr ⟨g, cap, cur', rfl, hg, hb', by simpa using r2, r3, by omega, by simpa using r4⟩⟩, fun g' hg' => Or.inr (by simp [Value.ownBlock] at hg'; omega)⟩, fun t ht => ?_⟩, htu.below.mono hg⟩
      exact ((hT t (hst.from_ t ht)).keep ⟨htu.keeps.1, fun b hb hok => htu.keeps.2 b hb (fun e => hap b hok (by rw [e]; rfl))⟩).mono (fun x _ h => Or.inl h)

set_option maxHeartbeats 4000000 in
set_option maxRecDepth 100000 in
theorem oneOf_any (sv : Value) (ts : List Tr) (w : World) (ok : Nat → Prop) (hS : TreesOk w ok sv ts) (hn : (ts.map (·.n)).sum ≤ 1000000) (hl : Laid w) :
    Calls Tryz.prog 84 #[sv] w fun e w' => Gives w (okN ok w.heap.size) (Wany (ts.map (·.L))) (max 1 (ts.map (·.n)).sum) e w' := by
  obtain ⟨i1, hi1, hi10, hi11, hi12⟩ := info_parts infoTree
  obtain ⟨ao, cap, rfl, hmax⟩ := hS.held.shape
  have HS0 : Hid _ := KidsAny.start w ok ts
  have hlen : ts.length ≤ 1000000 := by
    have := sum_len ts (fun x hx => (hS.trees x hx).pos)
    omega
  go_enter Tryz.func84, Tryz.ntmps84
  go_wp2_with fail
  go_loopw [3, 10] (fun kv i wr => ∃ (k : Nat) (ks : List Tr) (ka : Option Addr) (kc : Nat), k ≤ ts.length ∧ i = .int .i64 k ∧ kv = .slice ka ks.length kc ∧ wr.ownsRow w.heap.size 72 1 (.slice ka ks.length kc) ks.length (ks.map (·.v)) ∧ Below w.heap.size w wr ∧ Hid (KidsAny w ok ts k ks)) (fun _ i _ => ts.length - (intOf i).toNat)
  case atStart => exact ⟨0, [], none, 0, Nat.zero_le _, rfl, rfl, World.ownsRow_nil _ _ _ _, Below.refl _ _, HS0⟩
  case round =>
    obtain ⟨k, ks, ka, kc, hk, rfl, rfl, hK, hnx, H⟩ := hrel
    clear HS0
    have hsz := hnx.size
    have hkl : ks.length ≤ 1000000 := by
      have h1 := sum_len ks (fun x hx => (H.out.trees x hx).pos)
      have h2 := H.out.sum
      have h3 := sum_sublist (List.take_sublist k ts)
      omega
    by_cases hlt : k < ts.length
    · obtain ⟨g0, rfl, hx, hg0⟩ := hS.held.at_ k hlt
      have htk := hS.trees ts[k] (List.getElem_mem hlt)
      have hx' : wr.cell? ⟨g0, k, none⟩ = some ts[k].v := by rw [hnx.cell (p := ⟨g0, k, none⟩) hg0]; exact hx
      clear hx
      rcases htk.choiceCase with ⟨cs, cv, key, hv, hC, hL, hcn⟩ | ⟨Tk, pk, hv, hT⟩
      · obtain ⟨ca, cc, rfl, _⟩ := hC.held.shape
        rw [hv] at hx'
        have hta := ta_choice (.agg #[.slice ca cs.length cc, .string key]) wr
        have hb1 : Below wr.heap.size wr (wr.alloc (.cells #[.slice ca cs.length cc, .string key] 186)) := (Below.refl _ _).alloc (Nat.le_refl _) _
        have hK1 := ownsRow_keep hK hb1
        have hbase : w.heap.size ≤ (wr.alloc (.cells #[.slice ca cs.length cc, .string key] 186)).heap.size := by simp; omega
        have H5 : Hid _ := H.out.add hlt cs hC.trees (fun u => by rw [hL]; exact (wany_map cs u).symm) hcn
        have hcl : cs.length ≤ 1000000 := by
          have h1 := sum_len cs (fun x hx => (hC.trees x hx).pos)
          have h2 : ts[k].n ≤ (ts.map (·.n)).sum := n_le_sum ts _ (List.getElem_mem hlt)
          omega
        obtain ⟨base, hown, _⟩ := hC.held
        rcases hown.2 with ⟨hcv, h0⟩ | ⟨gc, ccap, ccur, hcv, _⟩
        · have hcs0 : cs = [] := List.eq_nil_of_length_eq_zero h0
          subst hcs0
          obtain ⟨rfl, rfl⟩ : ca = none ∧ cc = 0 := by simpa using hcv
          simp only [List.length_nil] at hx' hta hb1 hK1 hbase
          clear hC hL hown hcv
          go_wp2_with (at_builtin; go_must (refine wpList_append_own_none rfl (.tmp 20) (.tmp 22) 34 rfl w.heap.size 72 i1 1 Tryz.underlying34 hi1 _ _ _ rfl hK1 (by simp [Act.eval]) ?_))
          go_roundw
          case rel => exact ⟨k + 1, ks ++ [], ka, kc, by omega, by go_num, by simp, by simpa using hK1, (hnx.trans (hb1.mono hsz)), H5⟩
          case measure => simp [intOf]; omega
        · obtain ⟨rfl, rfl⟩ : ca = some ⟨gc, 0, none⟩ ∧ cc = ccap := by simpa using hcv
          have hgc := (hown.lt gc rfl).2
          have hnews : ∀ j u, (cs.map (·.v))[j]? = some u → (wr.alloc (.cells #[.slice (some ⟨gc, 0, none⟩) cs.length cc, .string key] 186)).cell? ((⟨gc, 0, none⟩ : Addr).add j) = some u := by
            intro j u hj
            have hcell := hown.cells (g := gc) rfl j u hj
            have hadd : (⟨gc, 0, none⟩ : Addr).add j = ⟨gc, j, none⟩ := by unfold Addr.add; split <;> simp_all
            rw [hadd] at hcell ⊢
            rw [(hnx.trans (hb1.mono hsz)).cell (p := ⟨gc, j, none⟩) hgc]
            exact hcell
          have hone : ∀ u ∈ cs.map (·.v), u.oneCell' = true := by
            intro u hu
            obtain ⟨t, ht, rfl⟩ := List.mem_map.1 hu
            obtain ⟨T, p, hv'⟩ := (hC.trees t ht).shape
            rw [hv']; rfl
          clear hC hL hown
          go_wp2_with (at_builtin; go_must (refine wpList_append_own _ rfl (.tmp 20) (.tmp 22) 34 rfl w.heap.size 72 i1 .nilIface 1 16 Tryz.underlying34 hi1 hi10 hi11 hi12 rfl (by decide) _ _ _ rfl hK1 ⟨gc, 0, none⟩ cs.length cc (cs.map (·.v)) (by simp [Act.eval]) (by simp) hnews hone (by unfold maxLen; omega) (by omega) hbase ?_))
          intro v' w5 hown5 hgrow5 _
          obtain ⟨va, vc, rfl⟩ : ∃ va vc, v' = .slice va (ks.length + cs.length) vc := by
            rcases hown5.2 with ⟨hh, h0⟩ | ⟨_, _, _, hh, _⟩
            · exact ⟨none, 0, by rw [hh, h0]⟩
            · exact ⟨_, _, hh⟩
          have hb5 : Below w.heap.size w w5 := (hnx.trans (hb1.mono hsz)).grown hgrow5 hbase (fun x hx => (hK1.lt x hx).1)
          clear hgrow5 hK hK1 hb1 hta hx' hnews hone
          go_wp2_with fail
          go_roundw
          case rel => exact ⟨k + 1, ks ++ cs, va, vc, by omega, by go_num, by simp, by simpa using hown5, hb5, H5⟩
          case measure => simp [intOf]; omega
      · rw [hv] at hx'
        have hta := ta_choice_miss Tk hT pk wr
        have hb1 : Below wr.heap.size wr (wr.alloc (.cells #[.slice none 0 0, .string ByteArray.empty] 186)) := (Below.refl _ _).alloc (Nat.le_refl _) _
        have hb2 := hb1.alloc (by simp) (.cells #[.iface Tk pk] 72)
        have hK2 := ownsRow_keep hK hb2
        have hbase : w.heap.size ≤ ((wr.alloc (.cells #[.slice none 0 0, .string ByteArray.empty] 186)).alloc (.cells #[.iface Tk pk] 72)).heap.size := by simp; omega
        have H5 : Hid _ := H.out.add hlt [ts[k]] (by intro t ht; simp at ht; subst ht; exact htk) (fun u => by simp) (by simp)
        clear hT
        go_wp2_with (at_builtin; go_must (refine wpList_append_lies _ rfl (.tmp 24) (.tmp 26) 34 rfl w.heap.size 72 i1 .nilIface 1 16 Tryz.underlying34 hi1 hi10 hi11 hi12 rfl (by decide) _ _ _ rfl hK2 ⟨wr.heap.size + 1, 0, none⟩ 1 1 [.iface Tk pk] (by simp [Act.eval]) rfl (World.news_of_block (by have := Blk.new (wr.alloc (.cells #[.slice none 0 0, .string ByteArray.empty] 186)) #[.iface Tk pk] 72; rwa [size_alloc] at this)) (by intro u hu; simp at hu; subst hu; rfl) (by decide) (by unfold maxLen; omega) (by omega) hbase _ rfl ?_))
        intro g2 cap2 w5 hown5 hgrow5 hat5 hlt5
        have hb5 : Below w.heap.size w w5 := (hnx.trans (hb2.mono hsz)).grown hgrow5 hbase (fun x hx => (hK2.lt x hx).1)
        rw [← hv] at hown5
        clear hgrow5 hat5 hlt5 hK hK2 hb1 hb2 hta hx'
        go_wp2_with fail
        go_roundw
        case rel => exact ⟨k + 1, ks ++ [ts[k]], some ⟨g2, 0, none⟩, cap2, by omega, by go_num, by simp, by simpa using hown5, hb5, H5⟩
        case measure => simp [intOf]; omega
    · obtain rfl : k = ts.length := by omega
      -- END
      have hKs : TreesOk wr (fun x => (ok x ∧ x < w.heap.size) ∨ (Value.slice ka ks.length kc).ownBlock = some x) (.slice ka ks.length kc) ks :=
        ⟨⟨w.heap.size, hK, fun g hg => Or.inr hg⟩, fun t ht => ((((H.out.trees t ht).mono (ok' := fun x => ok x ∧ x < w.heap.size) (fun x hx h => ⟨h, hx⟩)).keep (keeps_below hnx)).mono (fun x _ h => Or.inl h))⟩
      have hsm := H.out.sum
      rw [List.take_of_length_le (Nat.le_refl _)] at hsm
      have hm : Calls Tryz.prog 109 #[.slice ka ks.length kc] wr fun e w' => Merged wr (fun x => (ok x ∧ x < w.heap.size) ∨ (Value.slice ka ks.length kc).ownBlock = some x) ks SameAny e w' :=
        mergeHeads_any _ ks wr _ hKs (fun x hx => by
          rcases hx with hx | hx
          · omega
          · exact (hK.lt x hx).2) (by omega) (hl.keep hnx)
      have hkge : ∀ x, (Value.slice ka ks.length kc).ownBlock = some x → w.heap.size ≤ x := fun x hx => (hK.lt x hx).1
      have HKW : Hid (∀ u, (∃ t ∈ ks, t.L u) ↔ ∃ t ∈ ts, t.L u) := by
        intro u
        have := H.out.words u
        rwa [List.take_of_length_le (Nat.le_refl _)] at this
      clear hKs hK H
      go_wp2_with fail
      refine hm.mono ?_
      clear hm
      rintro e w2 ⟨ov, us, rfl, hO, hT, hSame, hsum, hul, hb2⟩
      have hb02 : Below w.heap.size w w2 := hnx.trans (hb2.mono hsz)
      have hset := settled_call ov us wr.heap.size w2 (Apart (fun x => (ok x ∧ x < w.heap.size) ∨ (Value.slice ka ks.length kc).ownBlock = some x) wr.heap.size ov) hO hT (fun x hx => hx.2) (by omega)
      obtain ⟨oa, oc, rfl⟩ : ∃ oa oc, ov = .slice oa us.length oc := by
        rcases hO.2 with ⟨hh, h0⟩ | ⟨_, _, _, hh, _⟩
        · exact ⟨none, 0, by rw [hh, h0]⟩
        · exact ⟨_, _, hh⟩
      have HUW : Hid (∀ u, (∃ t ∈ us, t.L u) ↔ ∃ t ∈ ts, t.L u) := fun u => (hSame u).trans (HKW.out u)
      have HTT : Hid _ := hT
      clear hSame HKW hO hT
      go_wp2_with fail
      refine hset.mono ?_
      clear hset
      rintro e w3 ⟨va, vc, vs, rfl, hst, hV, hb3⟩
      have hb03 : Below w.heap.size w w3 := hb02.trans (hb3.mono (by have := hnx.size; omega))
      have hVo : TreesOk w3 (okN ok w.heap.size) (.slice va vs.length vc) vs := hV.mono (fun x _ hx => by
        rcases hx with hx | hx
        · rcases hx.1 with hx | hx
          · rcases hx with hx | hx
            · exact Or.inl hx.1
            · exact Or.inr (hkge x hx)
          · exact Or.inr (by have := hnx.size; omega)
        · exact Or.inr (by have := hnx.size; omega))
      have HW : Hid (∀ u, (∃ t ∈ vs, t.L u) ↔ ∃ t ∈ ts, t.L u) := fun u => (Settled.any hst HTT.out u).trans (HUW.out u)
      have hvn : (vs.map (·.n)).sum ≤ (ts.map (·.n)).sum := by have := hst.sum; omega
      clear hV hst HTT HUW
      have hop := opposed_any _ vs w3 hVo
      go_wp2_with fail
      refine hop.mono ?_
      clear hop
      rintro e w4 ⟨o, rfl, hno, hb4⟩
      have hb04 := hb03.trans (hb4.mono hb03.size)
      cases o with
      | true =>
        have hfull : (∃ t ∈ vs, ∃ y ∈ vs, t.L = Wnot y.L) ∨ ∃ t ∈ vs, t.L = Wall [] := Or.inl (hno rfl)
        have HE : Hid (Wall [] = Wany (ts.map (·.L))) := by
          funext u; apply propext
          rw [wany_map ts u]
          constructor
          · intro _
            rcases hfull with ⟨t, ht, y, hy, he⟩ | ⟨t, ht, he⟩
            · by_cases h : y.L u
              · exact (HW.out u).1 ⟨y, hy, h⟩
              · exact (HW.out u).1 ⟨t, ht, by rw [he]; exact h⟩
            · exact (HW.out u).1 ⟨t, ht, by rw [he]; intro A hA; cases hA⟩
          · intro _ A hA; cases hA
        have hal := allOf_none w4
        clear hno hfull
        go_wp2_with fail
        refine hal.mono ?_
        rintro e w5 ⟨r, rfl, hrk, hrL, hrn, hrok, hb5⟩
        obtain ⟨T, p, hv⟩ := (hrok w5 (fun _ => True)).shape
        rw [hv]
        clear hal
        go_wp2_with fail
        go_ret
        exact ⟨r, congrArg Ending.returned hv.symm, hrok _ _, by rw [hrL]; exact HE.out, by omega, hb04.trans (hb5.mono hb04.size)⟩
      | false =>
        clear hno
        have hhas := has_any _ vs ⟨#[38, 60, 62]⟩ w4 (hVo.keep (keeps_below hb4))
        go_wp2_with fail
        refine hhas.mono ?_
        clear hhas
        rintro e w5 ⟨rfl, hb5⟩
        have hb05 := hb04.trans (hb5.mono hb04.size)
        have hV5 := (hVo.keep (keeps_below hb4)).keep (keeps_below hb5)
        cases hany : (vs.any fun t => t.k == (⟨#[38, 60, 62]⟩ : ByteArray).data.toList) with
        | true =>
          have hfull : (∃ t ∈ vs, ∃ y ∈ vs, t.L = Wnot y.L) ∨ ∃ t ∈ vs, t.L = Wall [] := by
            obtain ⟨t, ht, hk⟩ := List.any_eq_true.1 hany
            exact Or.inr ⟨t, ht, every_of_key (hVo.trees t ht) (by simpa using hk)⟩
          have HE : Hid (Wall [] = Wany (ts.map (·.L))) := by
            funext u; apply propext
            rw [wany_map ts u]
            constructor
            · intro _
              rcases hfull with ⟨t, ht, y, hy, he⟩ | ⟨t, ht, he⟩
              · by_cases h : y.L u
                · exact (HW.out u).1 ⟨y, hy, h⟩
                · exact (HW.out u).1 ⟨t, ht, by rw [he]; exact h⟩
              · exact (HW.out u).1 ⟨t, ht, by rw [he]; intro A hA; cases hA⟩
            · intro _ A hA; cases hA
          have hal := allOf_none w5
          clear hfull hany
          go_wp2_with fail
          refine hal.mono ?_
          rintro e w6 ⟨r, rfl, hrk, hrL, hrn, hrok, hb6⟩
          obtain ⟨T, p, hv⟩ := (hrok w6 (fun _ => True)).shape
          rw [hv]
          clear hal
          go_wp2_with fail
          go_ret
          exact ⟨r, congrArg Ending.returned hv.symm, hrok _ _, by rw [hrL]; exact HE.out, by omega, hb05.trans (hb6.mono hb05.size)⟩
        | false =>
          clear hany
          by_cases h1 : vs.length = 1
          · obtain ⟨t, rfl⟩ := List.length_eq_one_iff.1 h1
            obtain ⟨g, rfl, hcg, _⟩ := hV5.held.at_ 0 (by simp)
            have htok := hV5.trees t (by simp)
            obtain ⟨T, p, hv⟩ := htok.shape
            have hcg' : w5.cell? ⟨g, 0, none⟩ = some (.iface T p) := by rw [← hv]; simpa using hcg
            have HR : Hid (Gives w (okN ok w.heap.size) (Wany (ts.map (·.L))) (max 1 (ts.map (·.n)).sum) (.returned (.iface T p)) w5) := by
              refine ⟨t, congrArg Ending.returned hv.symm, htok, ?_, by simp at hvn; omega, hb05⟩
              funext u; apply propext
              rw [wany_map ts u, ← HW.out u]
              simp
            clear hcg hV5 hVo htok
            go_wp2_with fail
            go_ret
            exact HR.out
          · have h1' : ¬ (vs.length : Int) = 1 := by omega
            have hj := joinKeys_any _ vs w5 hV5 (by omega)
            go_wp2_with fail
            refine hj.mono ?_
            clear hj
            rintro e w6 ⟨x, rfl, hx5, hb6⟩
            have hb06 := hb05.trans (hb6.mono hb05.size)
            have hxl : x.size ≤ 2000000000 := by
              have h2 := flat_len vs (fun y hy => (hV5.trees y hy).len)
              have : x.size = x.data.toList.length := by simp
              rw [hx5] at this
              omega
            have HR : Hid (Gives w (okN ok w.heap.size) (Wany (ts.map (·.L))) (max 1 (ts.map (·.n)).sum) (.returned (.iface 186 (.agg #[.slice va vs.length vc, .string ((⟨#[60]⟩ : ByteArray) ++ x ++ (⟨#[62]⟩ : ByteArray))]))) w6) := by
              have hV6 := hV5.keep (keeps_below hb6)
              obtain ⟨d, hd⟩ := TreeOk.deep vs hV6.trees
              refine ⟨⟨.iface 186 (.agg #[.slice va vs.length vc, .string ((⟨#[60]⟩ : ByteArray) ++ x ++ (⟨#[62]⟩ : ByteArray))]), 60 :: ((vs.map (·.k)).flatten ++ [62]), Wany (vs.map (·.L)), max 1 (ts.map (·.n)).sum⟩, rfl, ⟨d + 1, Or.inr (Or.inr (Or.inr (Or.inl ⟨vs, _, _, rfl, key_round 60 62 x _ hx5, hV6.held, hd, rfl, rfl, by simp only; omega, by simp only; omega, h1⟩)))⟩, ?_, Nat.le_refl _, hb06⟩
              funext u; apply propext
              rw [wany_map ts u, ← HW.out u]
              exact wany_map vs u
            clear hV5 hVo
            go_wp2_with fail
            go_ret
            exact HR.out
end Go.Proofs.YtkoaeojdlanolaaGreatDoor
/-
  tree.AllOf.
-/
namespace Go.Proofs.YtkoaeojdlanolaaGreatDoor
open Go.RowKit
open Munch (Words Wempty Wbytes Wcat Wany Wall Wnot KeyF Times numText)

/-- A tree is a meet, or of another kind. -/
theorem TreeOk.meetCase {w : World} {ok : Nat → Prop} {t : Tr} (h : TreeOk w ok t) :
    (∃ (ks : List Tr) (sv : Value) (key : ByteArray), t.v = .iface 140 (.agg #[sv, .string key]) ∧ TreesOk w ok sv ks ∧ t.L = Wall (ks.map (·.L)) ∧ (ks.map (·.n)).sum ≤ t.n) ∨
    ∃ T p, t.v = .iface T p ∧ (T = 200 ∨ T = 181 ∨ T = 223 ∨ T = 186 ∨ T = 170 ∨ T = 172) := by
  obtain ⟨d, h⟩ := h
  cases d with
  | zero => exact h.elim
  | succ d =>
    rcases h with ⟨h1, h2, _⟩ | ⟨S, f, key, h1, h2, _⟩ | ⟨a, b, key, h1, h2, _⟩ | ⟨ts, sv, key, h1, h2, h3, h4, h5, h6, h7, _⟩ | ⟨ts, sv, key, h1, h2, h3, h4, h5, h6, h7, _⟩ | ⟨b, lo, hi, key, h1, h2, _⟩ | ⟨b, key, h1, h2, h3, h4⟩
    · exact Or.inr ⟨_, _, h1, by simp⟩
    · exact Or.inr ⟨_, _, h1, by simp⟩
    · exact Or.inr ⟨_, _, h1, by simp⟩
    · exact Or.inr ⟨_, _, h1, by simp⟩
    · exact Or.inl ⟨ts, sv, key, h1, ⟨h3, fun x hx => ⟨d, h4 x hx⟩⟩, h6, h7⟩
    · exact Or.inr ⟨_, _, h1, by simp⟩
    · exact Or.inr ⟨_, _, h1, by simp⟩

theorem ta_meet : ∀ (p : Value) (w : World), (Instr.typeAssert (.iface 140 p) 72 140 true).run Tryz.prog w = .ok (.tuple #[p, .bool true]) w := fun _ _ => by kernel_rfl
set_option maxRecDepth 100000 in
theorem ta_meet_miss (T : TypeId) (hT : T = 200 ∨ T = 181 ∨ T = 223 ∨ T = 186 ∨ T = 170 ∨ T = 172) : ∀ (p : Value) (w : World), (Instr.typeAssert (.iface T p) 72 140 true).run Tryz.prog w = .ok (.tuple #[.agg #[.slice none 0 0, .string ByteArray.empty], .bool false]) w := by
  rcases hT with rfl | rfl | rfl | rfl | rfl | rfl <;> exact fun _ _ => by kernel_rfl

/-- The trees of which a tree is made, one level laid open. -/
structure KidsAll (w : World) (ok : Nat → Prop) (ts : List Tr) (k : Nat) (ks : List Tr) : Prop where
  trees : ∀ t ∈ ks, TreeOk w ok t
  words : ∀ u, (∀ t ∈ ks, t.L u) ↔ ∀ t ∈ ts.take k, t.L u
  sum : (ks.map (·.n)).sum ≤ ((ts.take k).map (·.n)).sum
theorem KidsAll.start (w : World) (ok : Nat → Prop) (ts : List Tr) : KidsAll w ok ts 0 [] := ⟨(fun t h => by cases h), (fun u => by simp), by simp⟩
theorem KidsAll.add {w : World} {ok : Nat → Prop} {ts : List Tr} {k : Nat} {ks : List Tr} (h : KidsAll w ok ts k ks) (hk : k < ts.length) (l : List Tr) (hl : ∀ t ∈ l, TreeOk w ok t) (hw : ∀ u, (∀ t ∈ l, t.L u) ↔ ts[k].L u) (hs : (l.map (·.n)).sum ≤ ts[k].n) : KidsAll w ok ts (k + 1) (ks ++ l) := by
  refine ⟨fun t ht => ?_, fun u => ?_, ?_⟩
  · rcases List.mem_append.1 ht with ht | ht
    · exact h.trees t ht
    · exact hl t ht
  · have h1 := h.words u
    have h2 := hw u
    rw [List.take_succ_eq_append_getElem hk]
    constructor
    · intro hh t ht
      rcases List.mem_append.1 ht with ht | ht
      · exact h1.1 (fun x hx => hh x (List.mem_append.2 (Or.inl hx))) t ht
      · simp at ht; subst ht
        exact h2.1 (fun x hx => hh x (List.mem_append.2 (Or.inr hx)))
    · intro hh t ht
      rcases List.mem_append.1 ht with ht | ht
      · exact h1.2 (fun x hx => hh x (List.mem_append.2 (Or.inl hx))) t ht
      · exact h2.2 (hh _ (List.mem_append.2 (Or.inr (by simp)))) t ht
  · have := h.sum
    rw [List.take_succ_eq_append_getElem hk]
    simp only [List.map_append, List.sum_append, List.map_cons, List.map_nil, List.sum_cons, List.sum_nil]
    omega

/-- Sorted, each key once: the same words. -/
theorem Settled.all_ {w : World} {ok : Nat → Prop} {vs us : List Tr} (h : Settled vs us) (h1 : ∀ t ∈ us, TreeOk w ok t) (u : List UInt8) : (∀ t ∈ vs, t.L u) ↔ ∀ t ∈ us, t.L u := by
  constructor
  · intro hh t ht
    obtain ⟨v, hv, hk⟩ := h.all t ht
    rw [← (h1 v (h.from_ v hv)).same (h1 t ht) hk]
    exact hh v hv
  · intro hh t ht
    exact hh t (h.from_ t ht)
set_option maxHeartbeats 4000000 in
set_option maxRecDepth 100000 in
theorem allOfT_any (sv : Value) (ts : List Tr) (w : World) (ok : Nat → Prop) (hS : TreesOk w ok sv ts) (hn : (ts.map (·.n)).sum ≤ 1000000) (hl : Laid w) :
    Calls Tryz.prog 59 #[sv] w fun e w' => Gives w (okN ok w.heap.size) (Wall (ts.map (·.L))) (max 1 (ts.map (·.n)).sum) e w' := by
  obtain ⟨i1, hi1, hi10, hi11, hi12⟩ := info_parts infoTree
  obtain ⟨ao, cap, rfl, hmax⟩ := hS.held.shape
  have HS0 : Hid _ := KidsAll.start w ok ts
  have hlen : ts.length ≤ 1000000 := by
    have := sum_len ts (fun x hx => (hS.trees x hx).pos)
    omega
  go_enter Tryz.func59, Tryz.ntmps59
  go_wp2_with fail
  go_loopw [3, 10] (fun kv i wr => ∃ (k : Nat) (ks : List Tr) (ka : Option Addr) (kc : Nat), k ≤ ts.length ∧ i = .int .i64 k ∧ kv = .slice ka ks.length kc ∧ wr.ownsRow w.heap.size 72 1 (.slice ka ks.length kc) ks.length (ks.map (·.v)) ∧ Below w.heap.size w wr ∧ Hid (KidsAll w ok ts k ks)) (fun _ i _ => ts.length - (intOf i).toNat)
  case atStart => exact ⟨0, [], none, 0, Nat.zero_le _, rfl, rfl, World.ownsRow_nil _ _ _ _, Below.refl _ _, HS0⟩
  case round =>
    obtain ⟨k, ks, ka, kc, hk, rfl, rfl, hK, hnx, H⟩ := hrel
    clear HS0
    have hsz := hnx.size
    have hkl : ks.length ≤ 1000000 := by
      have h1 := sum_len ks (fun x hx => (H.out.trees x hx).pos)
      have h2 := H.out.sum
      have h3 := sum_sublist (List.take_sublist k ts)
      omega
    by_cases hlt : k < ts.length
    · obtain ⟨g0, rfl, hx, hg0⟩ := hS.held.at_ k hlt
      have htk := hS.trees ts[k] (List.getElem_mem hlt)
      have hx' : wr.cell? ⟨g0, k, none⟩ = some ts[k].v := by rw [hnx.cell (p := ⟨g0, k, none⟩) hg0]; exact hx
      clear hx
      rcases htk.meetCase with ⟨cs, cv, key, hv, hC, hL, hcn⟩ | ⟨Tk, pk, hv, hT⟩
      · obtain ⟨ca, cc, rfl, _⟩ := hC.held.shape
        rw [hv] at hx'
        have hta := ta_meet (.agg #[.slice ca cs.length cc, .string key]) wr
        have hb1 : Below wr.heap.size wr (wr.alloc (.cells #[.slice ca cs.length cc, .string key] 140)) := (Below.refl _ _).alloc (Nat.le_refl _) _
        have hK1 := ownsRow_keep hK hb1
        have hbase : w.heap.size ≤ (wr.alloc (.cells #[.slice ca cs.length cc, .string key] 140)).heap.size := by simp; omega
        have H5 : Hid _ := H.out.add hlt cs hC.trees (fun u => by rw [hL]; exact (wall_map cs u).symm) hcn
        have hcl : cs.length ≤ 1000000 := by
          have h1 := sum_len cs (fun x hx => (hC.trees x hx).pos)
          have h2 : ts[k].n ≤ (ts.map (·.n)).sum := n_le_sum ts _ (List.getElem_mem hlt)
          omega
        obtain ⟨base, hown, _⟩ := hC.held
        rcases hown.2 with ⟨hcv, h0⟩ | ⟨gc, ccap, ccur, hcv, _⟩
        · have hcs0 : cs = [] := List.eq_nil_of_length_eq_zero h0
          subst hcs0
          obtain ⟨rfl, rfl⟩ : ca = none ∧ cc = 0 := by simpa using hcv
          simp only [List.length_nil] at hx' hta hb1 hK1 hbase
          clear hC hL hown hcv
          go_wp2_with (at_builtin; go_must (refine wpList_append_own_none rfl (.tmp 20) (.tmp 22) 34 rfl w.heap.size 72 i1 1 Tryz.underlying34 hi1 _ _ _ rfl hK1 (by simp [Act.eval]) ?_))
          go_roundw
          case rel => exact ⟨k + 1, ks ++ [], ka, kc, by omega, by go_num, by simp, by simpa using hK1, (hnx.trans (hb1.mono hsz)), H5⟩
          case measure => simp [intOf]; omega
        · obtain ⟨rfl, rfl⟩ : ca = some ⟨gc, 0, none⟩ ∧ cc = ccap := by simpa using hcv
          have hgc := (hown.lt gc rfl).2
          have hnews : ∀ j u, (cs.map (·.v))[j]? = some u → (wr.alloc (.cells #[.slice (some ⟨gc, 0, none⟩) cs.length cc, .string key] 140)).cell? ((⟨gc, 0, none⟩ : Addr).add j) = some u := by
            intro j u hj
            have hcell := hown.cells (g := gc) rfl j u hj
            have hadd : (⟨gc, 0, none⟩ : Addr).add j = ⟨gc, j, none⟩ := by unfold Addr.add; split <;> simp_all
            rw [hadd] at hcell ⊢
            rw [(hnx.trans (hb1.mono hsz)).cell (p := ⟨gc, j, none⟩) hgc]
            exact hcell
          have hone : ∀ u ∈ cs.map (·.v), u.oneCell' = true := by
            intro u hu
            obtain ⟨t, ht, rfl⟩ := List.mem_map.1 hu
            obtain ⟨T, p, hv'⟩ := (hC.trees t ht).shape
            rw [hv']; rfl
          clear hC hL hown
          go_wp2_with (at_builtin; go_must (refine wpList_append_own _ rfl (.tmp 20) (.tmp 22) 34 rfl w.heap.size 72 i1 .nilIface 1 16 Tryz.underlying34 hi1 hi10 hi11 hi12 rfl (by decide) _ _ _ rfl hK1 ⟨gc, 0, none⟩ cs.length cc (cs.map (·.v)) (by simp [Act.eval]) (by simp) hnews hone (by unfold maxLen; omega) (by omega) hbase ?_))
          intro v' w5 hown5 hgrow5 _
          obtain ⟨va, vc, rfl⟩ : ∃ va vc, v' = .slice va (ks.length + cs.length) vc := by
            rcases hown5.2 with ⟨hh, h0⟩ | ⟨_, _, _, hh, _⟩
            · exact ⟨none, 0, by rw [hh, h0]⟩
            · exact ⟨_, _, hh⟩
          have hb5 : Below w.heap.size w w5 := (hnx.trans (hb1.mono hsz)).grown hgrow5 hbase (fun x hx => (hK1.lt x hx).1)
          clear hgrow5 hK hK1 hb1 hta hx' hnews hone
          go_wp2_with fail
          go_roundw
          case rel => exact ⟨k + 1, ks ++ cs, va, vc, by omega, by go_num, by simp, by simpa using hown5, hb5, H5⟩
          case measure => simp [intOf]; omega
      · rw [hv] at hx'
        have hta := ta_meet_miss Tk hT pk wr
        have hb1 : Below wr.heap.size wr (wr.alloc (.cells #[.slice none 0 0, .string ByteArray.empty] 140)) := (Below.refl _ _).alloc (Nat.le_refl _) _
        have hb2 := hb1.alloc (by simp) (.cells #[.iface Tk pk] 72)
        have hK2 := ownsRow_keep hK hb2
        have hbase : w.heap.size ≤ ((wr.alloc (.cells #[.slice none 0 0, .string ByteArray.empty] 140)).alloc (.cells #[.iface Tk pk] 72)).heap.size := by simp; omega
        have H5 : Hid _ := H.out.add hlt [ts[k]] (by intro t ht; simp at ht; subst ht; exact htk) (fun u => by simp) (by simp)
        clear hT
        go_wp2_with (at_builtin; go_must (refine wpList_append_lies _ rfl (.tmp 24) (.tmp 26) 34 rfl w.heap.size 72 i1 .nilIface 1 16 Tryz.underlying34 hi1 hi10 hi11 hi12 rfl (by decide) _ _ _ rfl hK2 ⟨wr.heap.size + 1, 0, none⟩ 1 1 [.iface Tk pk] (by simp [Act.eval]) rfl (World.news_of_block (by have := Blk.new (wr.alloc (.cells #[.slice none 0 0, .string ByteArray.empty] 140)) #[.iface Tk pk] 72; rwa [size_alloc] at this)) (by intro u hu; simp at hu; subst hu; rfl) (by decide) (by unfold maxLen; omega) (by omega) hbase _ rfl ?_))
        intro g2 cap2 w5 hown5 hgrow5 hat5 hlt5
        have hb5 : Below w.heap.size w w5 := (hnx.trans (hb2.mono hsz)).grown hgrow5 hbase (fun x hx => (hK2.lt x hx).1)
        rw [← hv] at hown5
        clear hgrow5 hat5 hlt5 hK hK2 hb1 hb2 hta hx'
        go_wp2_with fail
        go_roundw
        case rel => exact ⟨k + 1, ks ++ [ts[k]], some ⟨g2, 0, none⟩, cap2, by omega, by go_num, by simp, by simpa using hown5, hb5, H5⟩
        case measure => simp [intOf]; omega
    · obtain rfl : k = ts.length := by omega
      -- END
      have hKs : TreesOk wr (fun x => (ok x ∧ x < w.heap.size) ∨ (Value.slice ka ks.length kc).ownBlock = some x) (.slice ka ks.length kc) ks :=
        ⟨⟨w.heap.size, hK, fun g hg => Or.inr hg⟩, fun t ht => ((((H.out.trees t ht).mono (ok' := fun x => ok x ∧ x < w.heap.size) (fun x hx h => ⟨h, hx⟩)).keep (keeps_below hnx)).mono (fun x _ h => Or.inl h))⟩
      have hsm := H.out.sum
      rw [List.take_of_length_le (Nat.le_refl _)] at hsm
      have hm : Calls Tryz.prog 81 #[.slice ka ks.length kc] wr fun e w' => Merged wr (fun x => (ok x ∧ x < w.heap.size) ∨ (Value.slice ka ks.length kc).ownBlock = some x) ks SameAll e w' :=
        mergeBytes_any _ ks wr _ hKs (fun x hx => by
          rcases hx with hx | hx
          · omega
          · exact (hK.lt x hx).2) (by omega) (hl.keep hnx)
      have hkge : ∀ x, (Value.slice ka ks.length kc).ownBlock = some x → w.heap.size ≤ x := fun x hx => (hK.lt x hx).1
      have HKW : Hid (∀ u, (∀ t ∈ ks, t.L u) ↔ ∀ t ∈ ts, t.L u) := by
        intro u
        have := H.out.words u
        rwa [List.take_of_length_le (Nat.le_refl _)] at this
      clear hKs hK H
      go_wp2_with fail
      refine hm.mono ?_
      clear hm
      rintro e w2 ⟨ov, us, rfl, hO, hT, hSame, hsum, hul, hb2⟩
      have hb02 : Below w.heap.size w w2 := hnx.trans (hb2.mono hsz)
      have hset := settled_call ov us wr.heap.size w2 (Apart (fun x => (ok x ∧ x < w.heap.size) ∨ (Value.slice ka ks.length kc).ownBlock = some x) wr.heap.size ov) hO hT (fun x hx => hx.2) (by omega)
      obtain ⟨oa, oc, rfl⟩ : ∃ oa oc, ov = .slice oa us.length oc := by
        rcases hO.2 with ⟨hh, h0⟩ | ⟨_, _, _, hh, _⟩
        · exact ⟨none, 0, by rw [hh, h0]⟩
        · exact ⟨_, _, hh⟩
      have HUW : Hid (∀ u, (∀ t ∈ us, t.L u) ↔ ∀ t ∈ ts, t.L u) := fun u => (hSame u).trans (HKW.out u)
      have HTT : Hid _ := hT
      clear hSame HKW hO hT
      go_wp2_with fail
      refine hset.mono ?_
      clear hset
      rintro e w3 ⟨va, vc, vs, rfl, hst, hV, hb3⟩
      have hb03 : Below w.heap.size w w3 := hb02.trans (hb3.mono (by have := hnx.size; omega))
      have hVo : TreesOk w3 (okN ok w.heap.size) (.slice va vs.length vc) vs := hV.mono (fun x _ hx => by
        rcases hx with hx | hx
        · rcases hx.1 with hx | hx
          · rcases hx with hx | hx
            · exact Or.inl hx.1
            · exact Or.inr (hkge x hx)
          · exact Or.inr (by have := hnx.size; omega)
        · exact Or.inr (by have := hnx.size; omega))
      have HW : Hid (∀ u, (∀ t ∈ vs, t.L u) ↔ ∀ t ∈ ts, t.L u) := fun u => (Settled.all_ hst HTT.out u).trans (HUW.out u)
      have hvn : (vs.map (·.n)).sum ≤ (ts.map (·.n)).sum := by have := hst.sum; omega
      clear hV hst HTT HUW
      have hop := opposed_any _ vs w3 hVo
      go_wp2_with fail
      refine hop.mono ?_
      clear hop
      rintro e w4 ⟨o, rfl, hno, hb4⟩
      have hb04 := hb03.trans (hb4.mono hb03.size)
      cases o with
      | true =>
        have hfull : (∃ t ∈ vs, ∃ y ∈ vs, t.L = Wnot y.L) ∨ ∃ t ∈ vs, t.L = Wany [] := Or.inl (hno rfl)
        have HE : Hid (Wany [] = Wall (ts.map (·.L))) := by
          funext u; apply propext
          rw [wall_map ts u]
          constructor
          · rintro ⟨A, hA, _⟩; cases hA
          · intro hall
            exfalso
            have hall' := (HW.out u).2 hall
            rcases hfull with ⟨t, ht, y, hy, he⟩ | ⟨t, ht, he⟩
            · have h1 := hall' t ht
              rw [he] at h1
              exact h1 (hall' y hy)
            · have h1 := hall' t ht
              rw [he] at h1
              obtain ⟨A, hA, _⟩ := h1
              cases hA
        have hal := oneOf_none w4
        clear hno hfull
        go_wp2_with fail
        refine hal.mono ?_
        rintro e w5 ⟨r, rfl, hrk, hrL, hrn, hrok, hb5⟩
        obtain ⟨T, p, hv⟩ := (hrok w5 (fun _ => True)).shape
        rw [hv]
        clear hal
        go_wp2_with fail
        go_ret
        exact ⟨r, congrArg Ending.returned hv.symm, hrok _ _, by rw [hrL]; exact HE.out, by omega, hb04.trans (hb5.mono hb04.size)⟩
      | false =>
        clear hno
        have hhas := has_any _ vs ⟨#[60, 62]⟩ w4 (hVo.keep (keeps_below hb4))
        go_wp2_with fail
        refine hhas.mono ?_
        clear hhas
        rintro e w5 ⟨rfl, hb5⟩
        have hb05 := hb04.trans (hb5.mono hb04.size)
        have hV5 := (hVo.keep (keeps_below hb4)).keep (keeps_below hb5)
        cases hany : (vs.any fun t => t.k == (⟨#[60, 62]⟩ : ByteArray).data.toList) with
        | true =>
          have hfull : (∃ t ∈ vs, ∃ y ∈ vs, t.L = Wnot y.L) ∨ ∃ t ∈ vs, t.L = Wany [] := by
            obtain ⟨t, ht, hk⟩ := List.any_eq_true.1 hany
            exact Or.inr ⟨t, ht, none_of_key (hVo.trees t ht) (by simpa using hk)⟩
          have HE : Hid (Wany [] = Wall (ts.map (·.L))) := by
            funext u; apply propext
            rw [wall_map ts u]
            constructor
            · rintro ⟨A, hA, _⟩; cases hA
            · intro hall
              exfalso
              have hall' := (HW.out u).2 hall
              rcases hfull with ⟨t, ht, y, hy, he⟩ | ⟨t, ht, he⟩
              · have h1 := hall' t ht
                rw [he] at h1
                exact h1 (hall' y hy)
              · have h1 := hall' t ht
                rw [he] at h1
                obtain ⟨A, hA, _⟩ := h1
                cases hA
          have hal := oneOf_none w5
          clear hfull hany
          go_wp2_with fail
          refine hal.mono ?_
          rintro e w6 ⟨r, rfl, hrk, hrL, hrn, hrok, hb6⟩
          obtain ⟨T, p, hv⟩ := (hrok w6 (fun _ => True)).shape
          rw [hv]
          clear hal
          go_wp2_with fail
          go_ret
          exact ⟨r, congrArg Ending.returned hv.symm, hrok _ _, by rw [hrL]; exact HE.out, by omega, hb05.trans (hb6.mono hb05.size)⟩
        | false =>
          clear hany
          by_cases h1 : vs.length = 1
          · obtain ⟨t, rfl⟩ := List.length_eq_one_iff.1 h1
            obtain ⟨g, rfl, hcg, _⟩ := hV5.held.at_ 0 (by simp)
            have htok := hV5.trees t (by simp)
            obtain ⟨T, p, hv⟩ := htok.shape
            have hcg' : w5.cell? ⟨g, 0, none⟩ = some (.iface T p) := by rw [← hv]; simpa using hcg
            have HR : Hid (Gives w (okN ok w.heap.size) (Wall (ts.map (·.L))) (max 1 (ts.map (·.n)).sum) (.returned (.iface T p)) w5) := by
              refine ⟨t, congrArg Ending.returned hv.symm, htok, ?_, by simp at hvn; omega, hb05⟩
              funext u; apply propext
              rw [wall_map ts u, ← HW.out u]
              simp
            clear hcg hV5 hVo htok
            go_wp2_with fail
            go_ret
            exact HR.out
          · have h1' : ¬ (vs.length : Int) = 1 := by omega
            have hj := joinKeys_any _ vs w5 hV5 (by omega)
            go_wp2_with fail
            refine hj.mono ?_
            clear hj
            rintro e w6 ⟨x, rfl, hx5, hb6⟩
            have hb06 := hb05.trans (hb6.mono hb05.size)
            have hxl : x.size ≤ 2000000000 := by
              have h2 := flat_len vs (fun y hy => (hV5.trees y hy).len)
              have : x.size = x.data.toList.length := by simp
              rw [hx5] at this
              omega
            have HR : Hid (Gives w (okN ok w.heap.size) (Wall (ts.map (·.L))) (max 1 (ts.map (·.n)).sum) (.returned (.iface 140 (.agg #[.slice va vs.length vc, .string ((⟨#[38, 60]⟩ : ByteArray) ++ x ++ (⟨#[62]⟩ : ByteArray))]))) w6) := by
              have hV6 := hV5.keep (keeps_below hb6)
              obtain ⟨d, hd⟩ := TreeOk.deep vs hV6.trees
              refine ⟨⟨.iface 140 (.agg #[.slice va vs.length vc, .string ((⟨#[38, 60]⟩ : ByteArray) ++ x ++ (⟨#[62]⟩ : ByteArray))]), 38 :: 60 :: ((vs.map (·.k)).flatten ++ [62]), Wall (vs.map (·.L)), max 1 (ts.map (·.n)).sum⟩, rfl, ⟨d + 1, Or.inr (Or.inr (Or.inr (Or.inr (Or.inl ⟨vs, _, _, rfl, by unfold IsKey; simp [hx5], hV6.held, hd, rfl, rfl, by simp only; omega, by simp only; omega, h1⟩))))⟩, ?_, Nat.le_refl _, hb06⟩
              funext u; apply propext
              rw [wall_map ts u, ← HW.out u]
              exact wall_map vs u
            clear hV5 hVo
            go_wp2_with fail
            go_ret
            exact HR.out
end Go.Proofs.YtkoaeojdlanolaaGreatDoor
