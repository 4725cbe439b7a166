import Derived.Test.YtkoaeojdlanolaaGreatDoorCc02
import Derived.Test.YtkoaeojdlanolaaGreatDoorShelf
import Derived.Test.YtkoaeojdlanolaaGreatDoorCa02
/-
  set.Text.
-/
namespace Munch
/-- Where the run of bytes ends that begins at t. -/
def runEnd (S : Nat → Bool) : Nat → Nat → Nat
  | 0, t => t
  | k + 1, t => if decide (t < 255) && S (t + 1) then runEnd S k (t + 1) else t
def runTo (S : Nat → Bool) (t : Nat) : Nat := runEnd S (256 - t) t
theorem runTo_more (S : Nat → Bool) (t : Nat) (h : t < 255) (hs : S (t + 1) = true) : runTo S t = runTo S (t + 1) := by
  unfold runTo
  rw [show 256 - t = (256 - (t + 1)) + 1 by omega, runEnd, if_pos (by simp [h, hs])]
theorem runTo_stop (S : Nat → Bool) (t : Nat) (h : ¬ (t < 255 ∧ S (t + 1) = true)) : runTo S t = t := by
  unfold runTo
  cases hk : 256 - t with
  | zero => rfl
  | succ k => rw [runEnd, if_neg (by simpa using h)]
theorem runEnd_le (S : Nat → Bool) : ∀ (k t : Nat), t ≤ runEnd S k t ∧ (t ≤ 255 → runEnd S k t ≤ 255) := by
  intro k
  induction k with
  | zero => intro t; exact ⟨Nat.le_refl _, id⟩
  | succ k ih =>
    intro t
    rw [runEnd]
    split
    · rename_i h
      simp at h
      have := ih (t + 1)
      exact ⟨by omega, fun _ => this.2 (by omega)⟩
    · exact ⟨Nat.le_refl _, id⟩
theorem runTo_le (S : Nat → Bool) (t : Nat) (h : t ≤ 255) : t ≤ runTo S t ∧ runTo S t ≤ 255 := ⟨(runEnd_le S _ t).1, (runEnd_le S _ t).2 h⟩

/-- The spans of a set from f on. -/
def spansF (S : Nat → Bool) : Nat → Nat → List (Nat × Nat)
  | 0, _ => []
  | k + 1, f => if f < 256 then (if S f then (f, runTo S f) :: spansF S k (runTo S f + 1) else spansF S k (f + 1)) else []
theorem spansF_fuel (S : Nat → Bool) : ∀ (k m f : Nat), 256 - f ≤ k → 256 - f ≤ m → spansF S k f = spansF S m f := by
  intro k
  induction k with
  | zero =>
    intro m f h _
    cases m with
    | zero => rfl
    | succ m => rw [spansF, spansF, if_neg (by omega)]
  | succ k ih =>
    intro m f h hm
    cases m with
    | zero => rw [spansF, spansF, if_neg (by omega)]
    | succ m =>
      rw [spansF, spansF]
      by_cases hf : f < 256
      · have := runTo_le S f (by omega)
        rw [if_pos hf, if_pos hf, ih m (runTo S f + 1) (by omega) (by omega), ih m (f + 1) (by omega) (by omega)]
      · rw [if_neg hf, if_neg hf]
def spansFrom (S : Nat → Bool) (f : Nat) : List (Nat × Nat) := spansF S (256 - f) f
theorem spansFrom_in (S : Nat → Bool) (f : Nat) (h : f < 256) (hs : S f = true) : spansFrom S f = (f, runTo S f) :: spansFrom S (runTo S f + 1) := by
  have := runTo_le S f (by omega)
  unfold spansFrom
  rw [show 256 - f = (255 - f) + 1 by omega, spansF, if_pos h, if_pos hs, spansF_fuel S (255 - f) (256 - (runTo S f + 1)) _ (by omega) (by omega)]
theorem spansFrom_not (S : Nat → Bool) (f : Nat) (h : f < 256) (hs : S f = false) : spansFrom S f = spansFrom S (f + 1) := by
  unfold spansFrom
  rw [show 256 - f = (256 - (f + 1)) + 1 by omega, spansF, if_pos h, if_neg (by rw [hs]; decide)]
theorem spansFrom_end (S : Nat → Bool) (f : Nat) (h : 256 ≤ f) : spansFrom S f = [] := by
  unfold spansFrom
  rw [show 256 - f = 0 by omega]; rfl
end Munch
namespace Go.Proofs.YtkoaeojdlanolaaGreatDoor
open Go.RowKit

/-- The text of a span. -/
def spanText (x : Nat × Nat) : List UInt8 := hexText x.1 ++ 45 :: hexText x.2
def spanBytes (x : Nat × Nat) : ByteArray := ⟨(spanText x).toArray⟩
theorem hexText_len (n : Nat) : 1 ≤ (hexText n).length ∧ (hexText n).length ≤ 2 := by unfold hexText; split <;> simp
theorem spanText_len (x : Nat × Nat) : 3 ≤ (spanText x).length ∧ (spanText x).length ≤ 5 := by
  have := hexText_len x.1
  have := hexText_len x.2
  simp [spanText]; omega
theorem infoStringD : (Tryz.prog.info? 9).map (fun i => (i.zero, i.size, i.bytes)) = some (some (.string ByteArray.empty), 1, 16) := by kernel_rfl

/-- The text of a set. -/
def setText (S : Nat → Bool) : List UInt8 := Lib.join ((Munch.spansFrom S 0).map spanText) [44]
theorem joinTail_len (L : List (Nat × Nat)) : (Lib.joinTail [44] (L.map spanText)).length ≤ 6 * L.length := by
  induction L with
  | nil => simp [Lib.joinTail]
  | cons x r ih =>
    have := spanText_len x
    simp [Lib.joinTail] at ih ⊢
    omega
theorem joinText_len (L : List (Nat × Nat)) : (Lib.join (L.map spanText) [44]).length ≤ 6 * L.length := by
  cases L with
  | nil => simp [Lib.join_nil]
  | cons x r =>
    have h1 := joinTail_len r
    have := spanText_len x
    rw [List.map_cons, Lib.join_cons]
    simp at h1 ⊢
    omega
theorem below_grow {B : Nat} {w wr w1 : World} {e : TypeId} {size : Nat} {v : Value} {n : Nat} {xs : List Value} (hnx : Below B w wr) (hB : B ≤ wr.heap.size) (hown : wr.ownsRow B e size v n xs) (o : Obj) (hg : (wr.alloc o).grownBy w1 v.ownBlock) : Below B w w1 :=
  (hnx.alloc hB o).grown hg (by simp; omega) (fun k hk => (hown.lt k hk).1)
theorem span_join (a t : Nat) (xa xt : ByteArray) (h1 : xa.data.toList = hexText a) (h2 : xt.data.toList = hexText t) : xa ++ ({ data := #[45] } : ByteArray) ++ xt = spanBytes (a, t) := by
  apply ByteArray.ext
  apply Array.toList_inj.1
  simp [spanBytes, spanText, ByteArray.data_append, h1, h2]

theorem hex_x (n : Nat) (hn : n < 256) (w : World) (h : Laid w) : Calls Tryz.prog 148 #[.int .i64 n] w fun e w' => ∃ x : ByteArray, e = .returned (.string x) ∧ x.data.toList = hexText n ∧ x.size ≤ 2 ∧ Below w.heap.size w w' :=
  (hex_any n hn w h).mono fun e w' ⟨he, hb⟩ => ⟨_, he, rfl, by show (hexText n).toArray.size ≤ 2; have := hexText_len n; simp; omega, hb⟩

set_option maxHeartbeats 4000000 in
set_option maxRecDepth 100000 in
theorem text_any (v : Value) (S : Nat → Bool) (w : World) (ok : Nat → Prop) (hS : SetOk w ok v S) (hl : Laid w) :
    Calls Tryz.prog 124 #[v] w fun e w' => ∃ x : ByteArray, e = .returned (.string x) ∧ x.data.toList = setText S ∧ x.size ≤ 1600 ∧ Below w.heap.size w w' := by
  obtain ⟨i0, hi, hz0, hz1, hz2⟩ := info_parts infoStringD
  obtain ⟨f, caps, rfl, hent, hcall⟩ := hS
  have HC : Hid _ := hcall; clear hcall
  go_enter Tryz.func124, Tryz.ntmps124
  go_wp2_with fail
  go_loopw [3, 4] (fun sp i wr => ∃ (a : Nat) (L : List (Nat × Nat)), a ≤ 256 ∧ L.length ≤ a ∧ i = .int .i64 a ∧ wr.ownsRow w.heap.size 9 1 sp L.length (L.map fun x => .string (spanBytes x)) ∧ Below w.heap.size w wr ∧ L ++ Munch.spansFrom S a = Munch.spansFrom S 0) (fun _ i _ => 256 - (intOf i).toNat)
  case atStart => exact ⟨0, [], by omega, by simp, rfl, World.ownsRow_nil _ _ _ _, Below.refl _ _, rfl⟩
  case round =>
    obtain ⟨a, L, ha, hLa, rfl, hown, hnx, hV⟩ := hrel
    have H : Hid _ := hV; clear hV
    have hsz := hnx.size
    have hlr := hl.keep hnx
    by_cases hlt : a < 256
    · have hcl := HC.out a wr hlt (keeps_below hnx)
      have hwr : IntKind.u8.wrap (a : Int) = (a : Int) := by rw [IntKind.wrap_u8]; omega
      cases hsa : S a with
      | false =>
        have HN : Hid _ := Munch.spansFrom_not S a hlt hsa
        rw [hsa] at hcl
        go_wp2_with fail
        rw [hent, Oper.upon_enter]
        refine hcl.mono ?_
        rintro e w1 ⟨rfl, hb1⟩
        clear hcl
        have hown1 := ownsRow_keep hown hb1
        go_wp2_with fail
        go_roundw
        case rel => exact ⟨a + 1, L, by omega, by omega, by go_num, hown1, hnx.trans (hb1.mono hsz), by rw [← H.out, HN.out]⟩
        case measure => simp [intOf]; omega
      | true =>
        have HN : Hid _ := Munch.spansFrom_in S a hlt hsa
        rw [hsa] at hcl
        go_wp2_with fail
        rw [hent, Oper.upon_enter]
        refine hcl.mono ?_
        rintro e w1 ⟨rfl, hb1⟩
        clear hcl
        have hown1 := ownsRow_keep hown hb1
        have hnx1 := hnx.trans (hb1.mono hsz)
        go_wp2_with fail
        go_loopw [5] (fun i wi => ∃ t : Nat, a ≤ t ∧ t ≤ 255 ∧ i = .int .i64 t ∧ Below w1.heap.size w1 wi ∧ Munch.runTo S t = Munch.runTo S a) (fun i _ => 256 - (intOf i).toNat)
        case atStart => exact ⟨a, Nat.le_refl _, by omega, rfl, Below.refl _ _, rfl⟩
        case round =>
          obtain ⟨t, hat, ht, rfl, hni, hT⟩ := hrel
          have HT : Hid _ := hT; clear hT
          have hbr := hnx1.trans (hni.mono hnx1.size)
          by_cases h255 : t < 255
          · have h255' : (t : Int) < 255 := by omega
            have hcl := HC.out (t + 1) wr (by omega) (keeps_below hbr)
            have hwr2 : IntKind.u8.wrap ((t : Int) + 1) = (t : Int) + 1 := by rw [IntKind.wrap_u8]; omega
            have hcast : (((t + 1 : Nat)) : Int) = (t : Int) + 1 := by omega
            rw [hcast] at hcl
            cases hst : S (t + 1) with
            | true =>
              have HN2 : Hid _ := Munch.runTo_more S t h255 hst
              rw [hst] at hcl
              go_wp2_with fail
              rw [hent, Oper.upon_enter]
              refine hcl.mono ?_
              rintro e w2 ⟨rfl, hb2⟩
              clear hcl
              go_wp2_with fail
              go_roundw
              case rel => exact ⟨t + 1, by omega, by omega, by go_num, hni.trans (hb2.mono hni.size), by rw [← HT.out, HN2.out]⟩
              case measure => simp [intOf]; omega
            | false =>
              have hto : Munch.runTo S a = t := by rw [← HT.out]; exact Munch.runTo_stop S t (by rw [hst]; simp)
              have HTO : Hid _ := hto; clear hto
              rw [hst] at hcl
              go_wp2_with fail
              rw [hent, Oper.upon_enter]
              refine hcl.mono ?_
              rintro e w2 ⟨rfl, hb2⟩
              clear hcl
              have hni2 := hni.trans (hb2.mono hni.size)
              have hbw2 := hnx1.trans (hni2.mono hnx1.size)
              have hown2 := ownsRow_keep hown1 hni2
              have hh := hex_x a hlt w2 (hl.keep hbw2)
              go_wp2_with fail
              refine hh.mono ?_
              rintro e w3 ⟨xa, rfl, hxa, hxs, hb3⟩
              have HXA : Hid _ := hxa; clear hxa
              clear hh
              have hbw3 := hbw2.trans (hb3.mono hbw2.size)
              have hown3 := ownsRow_keep hown2 hb3
              have hh := hex_x t (by omega) w3 (hl.keep hbw3)
              go_wp2_with fail
              refine hh.mono ?_
              rintro e w4 ⟨xt, rfl, hxt, hxs2, hb4⟩
              have HXT : Hid _ := hxt; clear hxt
              clear hh
              have hbw4 := hbw3.trans (hb4.mono hbw3.size)
              have hown4 := ownsRow_keep hown3 hb4
              have hsz4 := hbw4.size
              go_wp2_with (at_builtin; refine wpList_append_own _ rfl (.tmp 27) (.tmp 34) 235 rfl w.heap.size 9 i0 (.string ByteArray.empty) 1 16 Tryz.underlying235 hi hz0 hz1 hz2 rfl (by decide) _ _ _ rfl (hown4.alloc _) ⟨w4.heap.size, 0, none⟩ 1 1 [.string (xa ++ { data := #[45] } ++ xt)] rfl rfl (cell_one_new _ _ _) (by intro u hu; simp at hu; subst hu; rfl) (by unfold maxLen; omega) (by omega) (by simp; omega) ?_)
              intro v' w5 hown5 hgrow _
              have hb5 := below_grow hbw4 hsz4 hown4 _ hgrow
              rw [span_join a t xa xt HXA.out HXT.out] at hown5
              clear hgrow
              go_wp2_with fail
              go_roundw
              case rel => exact ⟨t + 1, L ++ [(a, t)], by omega, by simp; omega, by go_num, by simpa using hown5, hb5, by rw [← H.out, HN.out, HTO.out]; simp⟩
              case measure => simp [intOf]; omega
          · obtain rfl : t = 255 := by omega
            have hto : Munch.runTo S a = 255 := by rw [← HT.out]; exact Munch.runTo_stop S 255 (by omega)
            have HTO : Hid _ := hto; clear hto
            have hni2 := hni
            have hbw2 := hnx1.trans (hni2.mono hnx1.size)
            have hown2 := ownsRow_keep hown1 hni2
            have hh := hex_x a hlt wr (hl.keep hbw2)
            go_wp2_with fail
            refine hh.mono ?_
            rintro e w3 ⟨xa, rfl, hxa, hxs, hb3⟩
            have HXA : Hid _ := hxa; clear hxa
            clear hh
            have hbw3 := hbw2.trans (hb3.mono hbw2.size)
            have hown3 := ownsRow_keep hown2 hb3
            have hh := hex_x 255 (by omega) w3 (hl.keep hbw3)
            go_wp2_with fail
            refine hh.mono ?_
            rintro e w4 ⟨xt, rfl, hxt, hxs2, hb4⟩
            have HXT : Hid _ := hxt; clear hxt
            clear hh
            have hbw4 := hbw3.trans (hb4.mono hbw3.size)
            have hown4 := ownsRow_keep hown3 hb4
            have hsz4 := hbw4.size
            go_wp2_with (at_builtin; refine wpList_append_own _ rfl (.tmp 27) (.tmp 34) 235 rfl w.heap.size 9 i0 (.string ByteArray.empty) 1 16 Tryz.underlying235 hi hz0 hz1 hz2 rfl (by decide) _ _ _ rfl (hown4.alloc _) ⟨w4.heap.size, 0, none⟩ 1 1 [.string (xa ++ { data := #[45] } ++ xt)] rfl rfl (cell_one_new _ _ _) (by intro u hu; simp at hu; subst hu; rfl) (by unfold maxLen; omega) (by omega) (by simp; omega) ?_)
            intro v' w5 hown5 hgrow _
            have hb5 := below_grow hbw4 hsz4 hown4 _ hgrow
            rw [span_join a 255 xa xt HXA.out HXT.out] at hown5
            clear hgrow
            go_wp2_with fail
            go_roundw
            case rel => exact ⟨256, L ++ [(a, 255)], by omega, by simp; omega, by first | rfl | go_num, by simpa using hown5, hb5, by rw [← H.out, HN.out, HTO.out]; simp⟩
            case measure => simp [intOf]; omega
    · obtain rfl : a = 256 := by omega
      have hL : L = Munch.spansFrom S 0 := by rw [← H.out, Munch.spansFrom_end S 256 (Nat.le_refl _), List.append_nil]
      have hxs : (L.map spanBytes).length = L.length := by simp
      have hmp : (L.map spanBytes).map (fun x => x.data.toList) = L.map spanText := by simp [spanBytes]
      have hlen := joinText_len L
      have HL : Hid (setText S = Lib.join (L.map spanText) [44]) := by show _ = _; rw [hL]; rfl
      clear hL
      rcases hown.2 with ⟨rfl, h0⟩ | ⟨g, cap, cur, rfl, hg, _, hcap, hmax, _⟩
      · have hLe : L = [] := List.eq_nil_of_length_eq_zero h0
        have hj := Tryz.strings_Join_none none 0 ⟨#[44]⟩ wr
        subst hLe
        go_wp2_with fail
        refine hj.mono ?_
        rintro e w1 ⟨rfl, rfl⟩
        go_wp2_with fail
        go_ret
        exact ⟨⟨#[]⟩, rfl, by rw [HL.out]; rfl, by decide, hnx⟩
      · have hgl := (hown.lt g rfl).2
        have hj := Tryz.strings_Join g 0 cap (L.map spanBytes) ⟨#[44]⟩ wr (by
          intro j x hx
          rw [Nat.zero_add, hown.cellAt j (by have := (List.getElem?_eq_some_iff.1 hx).1; simp at this; omega)]
          simp at hx ⊢
          obtain ⟨y, z, hy, rfl⟩ := hx
          exact ⟨y, z, hy, rfl⟩) hgl (by omega) (by omega) (by rw [hmp]; show (Lib.join (L.map spanText) [44]).length ≤ _; omega)
        rw [hxs, hmp] at hj
        have hjl : (Lib.join (L.map spanText) (⟨#[44]⟩ : ByteArray).data.toList) = setText S := by rw [HL.out]
        rw [hjl] at hj
        have hsl : (setText S).length ≤ 1600 := by rw [HL.out]; omega
        clear hmp hxs hlen hjl
        go_wp2_with fail
        refine hj.mono ?_
        rintro e w1 ⟨rfl, hb1⟩
        go_wp2_with fail
        go_ret
        exact ⟨⟨(setText S).toArray⟩, rfl, rfl, by show (setText S).toArray.size ≤ _; simpa using hsl, hnx.trans (hb1.mono hsz)⟩
end Go.Proofs.YtkoaeojdlanolaaGreatDoor
/-
  PLAIN: the keys of trees: a key says the words.
-/
namespace Munch

abbrev Words := List UInt8 → Prop
def Wempty : Words := fun u => u = []
def Wbytes (S : Nat → Bool) : Words := fun u => ∃ c : UInt8, u = [c] ∧ S c.toNat = true
def Wcat (A B : Words) : Words := fun u => ∃ x y, u = x ++ y ∧ A x ∧ B y
def Wany (Ls : List Words) : Words := fun u => ∃ A ∈ Ls, A u
def Wall (Ls : List Words) : Words := fun u => ∀ A ∈ Ls, A u
def Wnot (A : Words) : Words := fun u => ¬ A u

/-- A key, and the words that it stands for: so deep at most. 'txt': the text of a set, 'num': of a number. -/
def KeyF (txt : (Nat → Bool) → List UInt8) (num : Int → List UInt8) : Nat → List UInt8 → Words → Prop
  | 0, _, _ => False
  | d + 1, k, L =>
    (k = [40, 41] ∧ L = Wempty) ∨
    (∃ S : Nat → Bool, k = 91 :: (txt S ++ [93]) ∧ L = Wbytes S) ∨
    (∃ ka kb A B, KeyF txt num d ka A ∧ KeyF txt num d kb B ∧ k = 40 :: (ka ++ (kb ++ [41])) ∧ L = Wcat A B) ∨
    (∃ ts : List (List UInt8 × Words), (∀ t ∈ ts, KeyF txt num d t.1 t.2) ∧ k = 60 :: ((ts.map (·.1)).flatten ++ [62]) ∧ L = Wany (ts.map (·.2))) ∨
    (∃ ts : List (List UInt8 × Words), (∀ t ∈ ts, KeyF txt num d t.1 t.2) ∧ k = 38 :: 60 :: ((ts.map (·.1)).flatten ++ [62]) ∧ L = Wall (ts.map (·.2))) ∨
    (∃ kb B lo hi, KeyF txt num d kb B ∧ (-1 ≤ lo ∧ lo ≤ 9 ∧ -1 ≤ hi ∧ hi ≤ 9) ∧ k = 123 :: (num lo ++ (44 :: (num hi ++ (58 :: (kb ++ [125]))))) ∧ L = Times B lo hi) ∨
    (∃ kb B, KeyF txt num d kb B ∧ k = 33 :: kb ∧ L = Wnot B)

/-- What the texts of sets and numbers must be. -/
structure Clear (txt : (Nat → Bool) → List UInt8) (num : Int → List UInt8) : Prop where
  txt : ∀ S S' x y, txt S ++ (93 :: x) = txt S' ++ (93 :: y) → Wbytes S = Wbytes S' ∧ x = y
  lo : ∀ a b x y, -1 ≤ a → a ≤ 9 → -1 ≤ b → b ≤ 9 → num a ++ (44 :: x) = num b ++ (44 :: y) → a = b ∧ x = y
  hi : ∀ a b x y, -1 ≤ a → a ≤ 9 → -1 ≤ b → b ≤ 9 → num a ++ (58 :: x) = num b ++ (58 :: y) → a = b ∧ x = y

theorem KeyF.head {txt : (Nat → Bool) → List UInt8} {num : Int → List UInt8} : ∀ (d : Nat) (k : List UInt8) (L : Words), KeyF txt num d k L → ∃ c r, k = c :: r ∧ (c = 40 ∨ c = 91 ∨ c = 60 ∨ c = 38 ∨ c = 123 ∨ c = 33) := by
  intro d k L h
  cases d with
  | zero => exact h.elim
  | succ d =>
    rcases h with ⟨rfl, _⟩ | ⟨S, rfl, _⟩ | ⟨ka, kb, A, B, _, _, rfl, _⟩ | ⟨ts, _, rfl, _⟩ | ⟨ts, _, rfl, _⟩ | ⟨kb, B, lo, hi, _, _, rfl, _⟩ | ⟨kb, B, _, rfl, _⟩
    · exact ⟨40, _, rfl, by simp⟩
    · exact ⟨91, _, rfl, by simp⟩
    · exact ⟨40, _, rfl, by simp⟩
    · exact ⟨60, _, rfl, by simp⟩
    · exact ⟨38, _, rfl, by simp⟩
    · exact ⟨123, _, rfl, by simp⟩
    · exact ⟨33, _, rfl, by simp⟩

theorem KeyF.headNe {txt : (Nat → Bool) → List UInt8} {num : Int → List UInt8} {d : Nat} (k : List UInt8) (L : Words) (h : KeyF txt num d k L) : ∃ c r, k = c :: r ∧ c ≠ 62 := by
  obtain ⟨c, r, hk, hc⟩ := KeyF.head d k L h
  exact ⟨c, r, hk, by rcases hc with rfl | rfl | rfl | rfl | rfl | rfl <;> decide⟩

/-- Keys one behind the other, up to a '>'. -/
theorem keys_same {P Q : List UInt8 → Words → Prop} (hp : ∀ k L k' L' x y, P k L → Q k' L' → k ++ x = k' ++ y → L = L' ∧ x = y)
    (hh : ∀ k L, P k L → ∃ c r, k = c :: r ∧ c ≠ 62) (hq : ∀ k L, Q k L → ∃ c r, k = c :: r ∧ c ≠ 62) : ∀ (ts us : List (List UInt8 × Words)) (x y : List UInt8), (∀ t ∈ ts, P t.1 t.2) → (∀ t ∈ us, Q t.1 t.2) → (ts.map (·.1)).flatten ++ (62 :: x) = (us.map (·.1)).flatten ++ (62 :: y) → ts.map (·.2) = us.map (·.2) ∧ x = y := by
  intro ts
  induction ts with
  | nil =>
    intro us x y _ hu h
    cases us with
    | nil => simp at h; exact ⟨rfl, h⟩
    | cons u us =>
      exfalso
      obtain ⟨c, r, hc, hne⟩ := hq u.1 u.2 (hu u (by simp))
      simp only [List.map_nil, List.flatten_nil, List.nil_append, List.map_cons, List.flatten_cons, hc, List.cons_append, List.cons.injEq] at h
      exact hne h.1.symm
  | cons t ts ih =>
    intro us x y ht hu h
    cases us with
    | nil =>
      exfalso
      obtain ⟨c, r, hc, hne⟩ := hh t.1 t.2 (ht t (by simp))
      simp only [List.map_nil, List.flatten_nil, List.nil_append, List.map_cons, List.flatten_cons, hc, List.cons_append, List.cons.injEq] at h
      exact hne h.1
    | cons u us =>
      simp only [List.map_cons, List.flatten_cons, List.append_assoc] at h
      obtain ⟨h1, h2⟩ := hp t.1 t.2 u.1 u.2 _ _ (ht t (by simp)) (hu u (by simp)) h
      obtain ⟨h3, h4⟩ := ih us x y (fun a ha => ht a (by simp [ha])) (fun a ha => hu a (by simp [ha])) h2
      exact ⟨by simp [h1, h3], h4⟩

theorem KeyF.same {txt : (Nat → Bool) → List UInt8} {num : Int → List UInt8} (hc : Clear txt num) : ∀ (d e : Nat) (k k' : List UInt8) (L L' : Words) (x y : List UInt8), KeyF txt num d k L → KeyF txt num e k' L' → k ++ x = k' ++ y → L = L' ∧ x = y := by
  intro d
  induction d with
  | zero => intro e k k' L L' x y h; exact h.elim
  | succ d ih =>
    intro e k k' L L' x y h h' hk
    cases e with
    | zero => exact h'.elim
    | succ e =>
      rcases h with ⟨rfl, rfl⟩ | ⟨S, rfl, rfl⟩ | ⟨ka, kb, A, B, ha, hb, rfl, rfl⟩ | ⟨ts, ht, rfl, rfl⟩ | ⟨ts, ht, rfl, rfl⟩ | ⟨kb, B, lo, hi, hb, hbd, rfl, rfl⟩ | ⟨kb, B, hb, rfl, rfl⟩ <;>
      rcases h' with ⟨rfl, rfl⟩ | ⟨S', rfl, rfl⟩ | ⟨ka', kb', A', B', ha', hb', rfl, rfl⟩ | ⟨us, hu, rfl, rfl⟩ | ⟨us, hu, rfl, rfl⟩ | ⟨kb', B', lo', hi', hb', hbd', rfl, rfl⟩ | ⟨kb', B', hb', rfl, rfl⟩ <;>
      simp only [List.cons_append, List.append_assoc, List.nil_append, List.cons.injEq] at hk <;>
      first | (exfalso; exact absurd hk.1 (by decide)) | skip
      · exact ⟨rfl, hk.2.2⟩
      · exfalso
        obtain ⟨c, r, rfl, hc'⟩ := KeyF.head _ _ _ ha'
        simp only [List.cons_append, List.cons.injEq] at hk
        rcases hc' with rfl | rfl | rfl | rfl | rfl | rfl <;> exact absurd hk.2.1 (by decide)
      · obtain ⟨h1, h2⟩ := hc.txt S S' x y hk.2
        exact ⟨h1, h2⟩
      · exfalso
        obtain ⟨c, r, rfl, hc'⟩ := KeyF.head _ _ _ ha
        simp only [List.cons_append, List.cons.injEq] at hk
        rcases hc' with rfl | rfl | rfl | rfl | rfl | rfl <;> exact absurd hk.2.1 (by decide)
      · obtain ⟨rfl, h2⟩ := ih e _ _ _ _ _ _ ha ha' hk.2
        obtain ⟨rfl, h4⟩ := ih e _ _ _ _ _ _ hb hb' h2
        simp only [List.cons.injEq] at h4
        exact ⟨rfl, h4.2⟩
      · have := keys_same (P := KeyF txt num d) (Q := KeyF txt num e) (fun k L k' L' x y h h' => ih e k k' L L' x y h h') KeyF.headNe KeyF.headNe ts us x y ht hu hk.2
        exact ⟨by rw [this.1], this.2⟩
      · have := keys_same (P := KeyF txt num d) (Q := KeyF txt num e) (fun k L k' L' x y h h' => ih e k k' L L' x y h h') KeyF.headNe KeyF.headNe ts us x y ht hu hk.2.2
        exact ⟨by rw [this.1], this.2⟩
      · obtain ⟨rfl, h2⟩ := hc.lo _ _ _ _ hbd.1 hbd.2.1 hbd'.1 hbd'.2.1 hk.2
        obtain ⟨rfl, h3⟩ := hc.hi _ _ _ _ hbd.2.2.1 hbd.2.2.2 hbd'.2.2.1 hbd'.2.2.2 h2
        obtain ⟨rfl, h4⟩ := ih e _ _ _ _ _ _ hb hb' h3
        simp only [List.cons.injEq] at h4
        exact ⟨rfl, h4.2⟩
      · obtain ⟨rfl, h2⟩ := ih e _ _ _ _ _ _ hb hb' hk.2
        exact ⟨rfl, h2⟩
end Munch
/-
  PLAIN: the texts of sets and numbers are clear.
-/
namespace Munch

theorem split_at (c : UInt8) : ∀ (a b x y : List UInt8), c ∉ a → c ∉ b → a ++ (c :: x) = b ++ (c :: y) → a = b ∧ x = y := by
  intro a
  induction a with
  | nil =>
    intro b x y _ hb h
    cases b with
    | nil => simp at h; exact ⟨rfl, h⟩
    | cons d b =>
      simp only [List.nil_append, List.cons_append, List.cons.injEq] at h
      exact absurd (by simp [h.1]) hb
  | cons d a ih =>
    intro b x y ha hb h
    cases b with
    | nil =>
      simp only [List.nil_append, List.cons_append, List.cons.injEq] at h
      exact absurd (by simp [h.1]) ha
    | cons e b =>
      simp only [List.cons_append, List.cons.injEq] at h
      obtain ⟨rfl, h2⟩ := h
      obtain ⟨h3, h4⟩ := ih b x y (fun hh => ha (by simp [hh])) (fun hh => hb (by simp [hh])) h2
      exact ⟨by rw [h3], h4⟩

/-- A number from -1 to 9. -/
def numText (n : Int) : List UInt8 := if n = -1 then [45, 49] else [UInt8.ofNat (48 + n.toNat)]
theorem num_cases (n : Int) (h0 : -1 ≤ n) (h1 : n ≤ 9) : n = -1 ∨ n = 0 ∨ n = 1 ∨ n = 2 ∨ n = 3 ∨ n = 4 ∨ n = 5 ∨ n = 6 ∨ n = 7 ∨ n = 8 ∨ n = 9 := by omega
theorem numText_no (n : Int) (h0 : -1 ≤ n) (h1 : n ≤ 9) : (44 : UInt8) ∉ numText n ∧ (58 : UInt8) ∉ numText n := by
  rcases num_cases n h0 h1 with rfl | rfl | rfl | rfl | rfl | rfl | rfl | rfl | rfl | rfl | rfl <;> decide
def numBack (l : List UInt8) : Int := match l with
  | [c] => (c.toNat : Int) - 48
  | _ => -1
theorem numBack_text (n : Int) (h0 : -1 ≤ n) (h1 : n ≤ 9) : numBack (numText n) = n := by
  rcases num_cases n h0 h1 with rfl | rfl | rfl | rfl | rfl | rfl | rfl | rfl | rfl | rfl | rfl <;> decide
theorem numText_inj (a b : Int) (ha : -1 ≤ a) (ha' : a ≤ 9) (hb : -1 ≤ b) (hb' : b ≤ 9) (h : numText a = numText b) : a = b := by
  rw [← numBack_text a ha ha', ← numBack_text b hb hb', h]
end Munch
namespace Go.Proofs.YtkoaeojdlanolaaGreatDoor
open Munch

def hexBack (l : List UInt8) : Nat := l.foldl (fun v c => 16 * v + (if c.toNat < 58 then c.toNat - 48 else c.toNat - 87)) 0
theorem hexText_all (n : Nat) (hn : n < 256) : hexBack (hexText n) = n ∧ (∀ c ∈ hexText n, c ≠ 44 ∧ c ≠ 45 ∧ c ≠ 93) :=
  of_decide_eq_true (below256 (fun n => decide (hexBack (hexText n) = n ∧ (∀ c ∈ hexText n, c ≠ 44 ∧ c ≠ 45 ∧ c ≠ 93))) (by decide +kernel) n hn)

/-- The spans' bounds are bytes. -/
theorem spansF_le (S : Nat → Bool) : ∀ (k f : Nat) (x : Nat × Nat), x ∈ spansF S k f → f ≤ x.1 ∧ x.1 ≤ x.2 ∧ x.2 ≤ 255 := by
  intro k
  induction k with
  | zero => intro f x h; cases h
  | succ k ih =>
    intro f x h
    rw [spansF] at h
    split at h
    · rename_i hf
      have hr := runTo_le S f (by omega)
      split at h
      · rcases List.mem_cons.1 h with rfl | h
        · exact ⟨Nat.le_refl _, hr.1, hr.2⟩
        · have := ih _ _ h; omega
      · have := ih _ _ h; omega
    · cases h
theorem runEnd_all (S : Nat → Bool) : ∀ (k t c : Nat), S t = true → t ≤ c → c ≤ runEnd S k t → S c = true := by
  intro k
  induction k with
  | zero =>
    intro t c ht h1 h2
    rw [runEnd] at h2
    obtain rfl : t = c := by omega
    exact ht
  | succ k ih =>
    intro t c ht h1 h2
    rw [runEnd] at h2
    split at h2
    · rename_i h
      simp at h
      by_cases he : t = c
      · subst he; exact ht
      · exact ih (t + 1) c h.2 (by omega) h2
    · obtain rfl : t = c := by omega
      exact ht
theorem spansF_in (S : Nat → Bool) : ∀ (k f c : Nat), 256 - f ≤ k → f ≤ c → c < 256 → (S c = true ↔ ∃ x ∈ spansF S k f, x.1 ≤ c ∧ c ≤ x.2) := by
  intro k
  induction k with
  | zero => intro f c h h1 h2; omega
  | succ k ih =>
    intro f c h h1 h2
    rw [spansF, if_pos (by omega)]
    have hr := runTo_le S f (by omega)
    by_cases hs : S f = true
    · rw [if_pos hs]
      by_cases hc : c ≤ runTo S f
      · constructor
        · intro _; exact ⟨_, List.mem_cons_self, h1, hc⟩
        · intro _; exact runEnd_all S _ f c hs h1 hc
      · rw [ih (runTo S f + 1) c (by omega) (by omega) h2]
        constructor
        · rintro ⟨x, hx, h3⟩; exact ⟨x, List.mem_cons_of_mem _ hx, h3⟩
        · rintro ⟨x, hx, h3, h4⟩
          rcases List.mem_cons.1 hx with rfl | hx
          · exact absurd h4 (by simpa using hc)
          · exact ⟨x, hx, h3, h4⟩
    · rw [if_neg hs]
      by_cases he : f = c
      · subst he
        constructor
        · intro hh; exact absurd hh hs
        · rintro ⟨x, hx, h3, _⟩
          have := spansF_le S _ _ _ hx
          omega
      · exact ih (f + 1) c (by omega) (by omega) h2

theorem spanText_no (x : Nat × Nat) (h1 : x.1 < 256) (h2 : x.2 < 256) : (44 : UInt8) ∉ spanText x ∧ (93 : UInt8) ∉ spanText x := by
  have a := (hexText_all x.1 h1).2
  have b := (hexText_all x.2 h2).2
  unfold spanText
  constructor <;> (intro h; rcases List.mem_append.1 h with h | h)
  · exact (a _ h).1 rfl
  · rcases List.mem_cons.1 h with h | h
    · exact absurd h (by decide)
    · exact (b _ h).1 rfl
  · exact (a _ h).2.2 rfl
  · rcases List.mem_cons.1 h with h | h
    · exact absurd h (by decide)
    · exact (b _ h).2.2 rfl
theorem spanText_inj (x y : Nat × Nat) (h1 : x.1 < 256) (h2 : x.2 < 256) (h3 : y.1 < 256) (h4 : y.2 < 256) (h : spanText x = spanText y) : x = y := by
  unfold spanText at h
  have hx := hexText_all x.1 h1
  have hy := hexText_all y.1 h3
  obtain ⟨e1, e2⟩ := split_at 45 _ _ _ _ (fun hh => (hx.2 _ hh).2.1 rfl) (fun hh => (hy.2 _ hh).2.1 rfl) h
  have hx2 := hexText_all x.2 h2
  have hy2 := hexText_all y.2 h4
  have f1 : x.1 = y.1 := by rw [← hx.1, ← hy.1, e1]
  have f2 : x.2 = y.2 := by rw [← hx2.1, ← hy2.1, e2]
  exact Prod.ext f1 f2

/-- Texts with commas between them. -/
theorem joinTail_inj : ∀ (A B : List (Nat × Nat)), (∀ x ∈ A, x.1 < 256 ∧ x.2 < 256) → (∀ x ∈ B, x.1 < 256 ∧ x.2 < 256) → ∀ (x y : Nat × Nat), x.1 < 256 ∧ x.2 < 256 → y.1 < 256 ∧ y.2 < 256 → spanText x ++ Lib.joinTail [44] (A.map spanText) = spanText y ++ Lib.joinTail [44] (B.map spanText) → x = y ∧ A = B := by
  intro A
  induction A with
  | nil =>
    intro B _ hB x y hx hy h
    cases B with
    | nil => simp [Lib.joinTail] at h; exact ⟨spanText_inj x y hx.1 hx.2 hy.1 hy.2 h, rfl⟩
    | cons b B =>
      exfalso
      have : (44 : UInt8) ∈ spanText x := by
        have e : spanText x = spanText y ++ Lib.joinTail [44] ((b :: B).map spanText) := by rw [← h]; simp [Lib.joinTail]
        rw [e]; simp [Lib.joinTail]
      exact (spanText_no x hx.1 hx.2).1 this
  | cons a A ih =>
    intro B hA hB x y hx hy h
    cases B with
    | nil =>
      exfalso
      have : (44 : UInt8) ∈ spanText y := by
        have e : spanText y = spanText x ++ Lib.joinTail [44] ((a :: A).map spanText) := by rw [h]; simp [Lib.joinTail]
        rw [e]; simp [Lib.joinTail]
      exact (spanText_no y hy.1 hy.2).1 this
    | cons b B =>
      have e : ∀ (z : Nat × Nat) (Z : List (Nat × Nat)), Lib.joinTail [44] ((z :: Z).map spanText) = 44 :: (spanText z ++ Lib.joinTail [44] (Z.map spanText)) := by intro z Z; simp [Lib.joinTail]
      rw [e, e] at h
      obtain ⟨h1, h2⟩ := split_at 44 _ _ _ _ (spanText_no x hx.1 hx.2).1 (spanText_no y hy.1 hy.2).1 h
      obtain ⟨h3, h4⟩ := ih B (fun z hz => hA z (by simp [hz])) (fun z hz => hB z (by simp [hz])) a b (hA a (by simp)) (hB b (by simp)) h2
      exact ⟨spanText_inj x y hx.1 hx.2 hy.1 hy.2 h1, by rw [h3, h4]⟩
theorem setText_inj (S S' : Nat → Bool) (h : setText S = setText S') : ∀ c, c < 256 → S c = S' c := by
  have hb : ∀ (T : Nat → Bool), ∀ x ∈ spansFrom T 0, x.1 < 256 ∧ x.2 < 256 := fun T x hx => by have := spansF_le T _ _ _ hx; omega
  have hs : spansFrom S 0 = spansFrom S' 0 := by
    unfold setText at h
    have hbS := hb S
    have hbS' := hb S'
    generalize spansFrom S 0 = A at *
    generalize spansFrom S' 0 = B at *
    cases A with
    | nil =>
      cases B with
      | nil => rfl
      | cons b B =>
        exfalso
        rw [List.map_nil, Lib.join_nil, List.map_cons, Lib.join_cons] at h
        have := spanText_len b
        have h2 := congrArg List.length h
        simp only [List.length_append, List.length_nil] at h2
        omega
    | cons a A =>
      cases B with
      | nil =>
        exfalso
        rw [List.map_nil, Lib.join_nil, List.map_cons, Lib.join_cons] at h
        have := spanText_len a
        have h2 := congrArg List.length h
        simp only [List.length_append, List.length_nil] at h2
        omega
      | cons b B =>
        rw [List.map_cons, Lib.join_cons, List.map_cons, Lib.join_cons] at h
        obtain ⟨h1, h2⟩ := joinTail_inj A B (fun x hx => hbS x (by simp [hx])) (fun x hx => hbS' x (by simp [hx])) a b (hbS a (by simp)) (hbS' b (by simp)) h
        rw [h1, h2]
  intro c hc
  have h1 := spansF_in S 256 0 c (by omega) (by omega) hc
  have h2 := spansF_in S' 256 0 c (by omega) (by omega) hc
  have e1 : spansF S 256 0 = spansFrom S 0 := rfl
  have e2 : spansF S' 256 0 = spansFrom S' 0 := rfl
  rw [e1] at h1
  rw [e2, ← hs] at h2
  rw [Bool.eq_iff_iff, h1, h2]
theorem setText_no (S : Nat → Bool) : (93 : UInt8) ∉ setText S := by
  have hb : ∀ x ∈ spansFrom S 0, x.1 < 256 ∧ x.2 < 256 := fun x hx => by have := spansF_le S _ _ _ hx; omega
  unfold setText
  generalize spansFrom S 0 = A at *
  cases A with
  | nil => simp [Lib.join_nil]
  | cons a A =>
    rw [List.map_cons, Lib.join_cons]
    intro h
    rcases List.mem_append.1 h with h | h
    · exact (spanText_no a (hb a (by simp)).1 (hb a (by simp)).2).2 h
    · have : ∀ (B : List (Nat × Nat)), (∀ x ∈ B, x.1 < 256 ∧ x.2 < 256) → (93 : UInt8) ∉ Lib.joinTail [44] (B.map spanText) := by
        intro B
        induction B with
        | nil => intro _; simp [Lib.joinTail]
        | cons z Z ih =>
          intro hB hh
          have e : Lib.joinTail [44] ((z :: Z).map spanText) = 44 :: (spanText z ++ Lib.joinTail [44] (Z.map spanText)) := by simp [Lib.joinTail]
          rw [e] at hh
          rcases List.mem_cons.1 hh with hh | hh
          · exact absurd hh (by decide)
          · rcases List.mem_append.1 hh with hh | hh
            · exact (spanText_no z (hB z (by simp)).1 (hB z (by simp)).2).2 hh
            · exact ih (fun x hx => hB x (by simp [hx])) hh
      exact this A (fun x hx => hb x (by simp [hx])) h

theorem clear_texts : Clear setText numText := ⟨fun S S' x y h => by
    obtain ⟨h1, h2⟩ := split_at 93 _ _ _ _ (setText_no S) (setText_no S') h
    refine ⟨?_, h2⟩
    have h3 := setText_inj S S' h1
    funext u
    apply propext
    constructor
    · rintro ⟨c, e, hc⟩; exact ⟨c, e, by rw [← h3 _ c.toNat_lt]; exact hc⟩
    · rintro ⟨c, e, hc⟩; exact ⟨c, e, by rw [h3 _ c.toNat_lt]; exact hc⟩,
  fun a b x y h0 h1 h2 h3 h => by
    obtain ⟨e, h4⟩ := split_at 44 _ _ _ _ (numText_no a h0 h1).1 (numText_no b h2 h3).1 h
    exact ⟨numText_inj a b h0 h1 h2 h3 e, h4⟩,
  fun a b x y h0 h1 h2 h3 h => by
    obtain ⟨e, h4⟩ := split_at 58 _ _ _ _ (numText_no a h0 h1).2 (numText_no b h2 h3).2 h
    exact ⟨numText_inj a b h0 h1 h2 h3 e, h4⟩⟩
end Go.Proofs.YtkoaeojdlanolaaGreatDoor
