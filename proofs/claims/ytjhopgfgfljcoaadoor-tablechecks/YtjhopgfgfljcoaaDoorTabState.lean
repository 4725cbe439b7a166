/-
  THE WALK of munchref.state.
-/
import Derived.Test.YtjhopgfgfljcoaaDoorTabPieces
import Derived.Test.YtjhopgfgfljcoaaDoorBlk
namespace Go.Proofs.YtjhopgfgfljcoaaDoor
open Go.RowKit

theorem infoEdge : (Tryd.prog.info? 55).map (fun i => (i.zero, i.size, i.bytes)) = some (some (.agg #[.int .i64 0, .int .i64 0, .int .i64 0]), 3, 24) := by kernel_rfl

def edgeCells (E : List Munch.Edge) : List Value := E.flatMap fun x => [.int .i64 x.1, .int .i64 x.2.1, .int .i64 x.2.2]
theorem edgeCells_snoc (E : List Munch.Edge) (a b c : Int) : edgeCells (E ++ [(a, b, c)]) = edgeCells E ++ [.int .i64 a, .int .i64 b, .int .i64 c] := by simp [edgeCells]

theorem cell_three_new (w : World) (x y z : Value) (t : TypeId) : ∀ j u, [x, y, z][j]? = some u → (w.alloc (.cells #[x, y, z] t)).cell? ((⟨w.heap.size, 0, none⟩ : Addr).add j) = some u := by
  intro j u hj
  match j, hj with
  | 0, hj => simp at hj; subst hj; simp [Addr.add]
  | 1, hj => simp at hj; subst hj; simp [Addr.add]
  | 2, hj => simp at hj; subst hj; simp [Addr.add]

theorem ownsRow_shape {w : World} {base : Nat} {e : TypeId} {size : Nat} {v : Value} {n : Nat} {xs : List Value} (h : w.ownsRow base e size v n xs) : ∃ ao cap, v = .slice ao n cap := by
  rcases h.2 with ⟨hv, hn⟩ | ⟨g, cap, cur, hv, _⟩
  · exact ⟨none, 0, by rw [hv, hn]⟩
  · exact ⟨_, _, hv⟩

/-- What munchref.state answers, by its specification. -/
def StatePost (R : Option (Int × List Munch.Edge)) (w : World) (e : Ending) (w' : World) : Prop :=
  (R = none ∧ e = .returned (.tuple #[.agg #[.int .i64 0, .slice none 0 0], .bool false]) ∧ Below w.heap.size w w') ∨
  (∃ tag E v, R = some (tag, E) ∧ e = .returned (.tuple #[.agg #[.int .i64 tag, v], .bool true]) ∧ w'.ownsRow w.heap.size 55 3 v E.length (edgeCells E) ∧ Below w.heap.size w w')

theorem toList_nil (s : ByteArray) (h : s.size = 0) : s.data.toList = [] := by
  have : s.data.toList.length = 0 := by simpa using h
  exact List.eq_nil_of_length_eq_zero this
theorem toList_cons (s : ByteArray) (h : 0 < s.size) : s.data.toList = s[0] :: s.data.toList.drop 1 := by
  have := Munch.drop_cons s 0 h; simpa using this

set_option maxHeartbeats 1000000 in
theorem state_empty (s : ByteArray) (n : Int) (w : World) (hs : s.size = 0) :
    Calls Tryd.prog 16 #[.string s, .int .i64 n] w fun e w' => StatePost (Munch.stateV s.data.toList n) w e w' := by
  obtain rfl : s = ByteArray.empty := by
    apply ByteArray.ext; apply Array.eq_empty_of_size_eq_zero; simpa using hs
  go_enter Tryd.func16, Tryd.ntmps16
  go_wp2_with fail
  exact bodyPost_ret (v := .tuple #[.agg #[.int .i64 0, .slice none 0 0], .bool false]) (by simp [results, Tryd.results16, go_sem]) rfl (Or.inl ⟨rfl, rfl, (Below.refl _ _).alloc (Nat.le_refl _) _⟩)

set_option maxHeartbeats 1000000 in
theorem state_bad (s : ByteArray) (n : Int) (w : World) (hs : 0 < s.size) (hb : Munch.badTag s[0] = true) :
    Calls Tryd.prog 16 #[.string s, .int .i64 n] w fun e w' => StatePost (Munch.stateV s.data.toList n) w e w' := by
  have hR : Munch.stateV s.data.toList n = none := by rw [toList_cons s hs, Munch.stateV, if_pos hb]
  rw [hR]
  have hne : s.toList.isEmpty = false := by rw [ByteArray.toList_eq, toList_cons s hs]; rfl
  unfold Munch.badTag at hb
  have h45 : ((s[0].toNat : Int) != 45) = true := by simp at hb; rw [bne_iff_ne]; omega
  have hlt : (s[0].toNat : Int) < 48 ∨ 52 < (s[0].toNat : Int) := by simp at hb; omega
  clear hb hR
  by_cases h48 : (s[0].toNat : Int) < 48
  · go_enter Tryd.func16, Tryd.ntmps16
    go_wp2_with fail
    exact bodyPost_ret (v := .tuple #[.agg #[.int .i64 0, .slice none 0 0], .bool false]) (by simp [results, Tryd.results16, go_sem]) rfl (Or.inl ⟨rfl, rfl, (Below.refl _ _).alloc (Nat.le_refl _) _⟩)
  · have h52 : 52 < (s[0].toNat : Int) := by omega
    clear hlt
    go_enter Tryd.func16, Tryd.ntmps16
    go_wp2_with fail
    exact bodyPost_ret (v := .tuple #[.agg #[.int .i64 0, .slice none 0 0], .bool false]) (by simp [results, Tryd.results16, go_sem]) rfl (Or.inl ⟨rfl, rfl, (Below.refl _ _).alloc (Nat.le_refl _) _⟩)

/-- The state of the loop in memory: the result's block, the block of x, the row of its edges. -/
structure StInv (B : Nat) (w : World) (tag : Int) (L : List Munch.Edge) (ao : Option Addr) (cap : Nat) (wr : World) : Prop where
  res : Blk wr B 45 #[.int .i64 0, .slice none 0 0]
  x : Blk wr (B + 1) 45 #[.int .i64 tag, .slice ao L.length cap]
  own : wr.ownsRow (B + 2) 55 3 (.slice ao L.length cap) L.length (edgeCells L)
  below : Below B w wr

theorem StInv.size {B : Nat} {w : World} {tag : Int} {L : List Munch.Edge} {ao : Option Addr} {cap : Nat} {wr : World} (h : StInv B w tag L ao cap wr) : B + 2 ≤ wr.heap.size := by
  have := h.x.lt; omega

theorem StInv.step {B : Nat} {w : World} {tag : Int} {L : List Munch.Edge} {ao : Option Addr} {cap : Nat} {wr w1 : World} {v' : Value} {a b c : Int} (o : Obj) (h : StInv B w tag L ao cap wr)
    (hown : w1.ownsRow (B + 2) 55 3 v' (L.length + 1) (edgeCells L ++ [.int .i64 a, .int .i64 b, .int .i64 c])) (hg : (wr.alloc o).grownBy w1 (Value.slice ao L.length cap).ownBlock) :
    ∃ ao' cap', v' = .slice ao' (L.length + 1) cap' ∧ Blk w1 (B + 1) 45 #[.int .i64 tag, .slice ao L.length cap] ∧ StInv B w tag (L ++ [(a, b, c)]) ao' cap' (w1.setCell ⟨B + 1, 1, none⟩ v') := by
  obtain ⟨ao', cap', rfl⟩ := ownsRow_shape hown
  have hb : Below (B + 2) wr w1 := below_append (Below.refl _ _) h.size h.own o hg
  have hx1 := h.x.below hb (by omega)
  refine ⟨ao', cap', rfl, hx1, ?_, ?_, ?_, ?_⟩
  · exact (h.res.below hb (by omega)).setOther (by simp) _
  · have := hx1.set 1 (.slice ao' (L.length + 1) cap'); simpa using this
  · rw [edgeCells_snoc]
    have := ownsRow_setCell_below hown (a := ⟨B + 1, 1, none⟩) (by simp) (.slice ao' (L.length + 1) cap')
    simpa using this
  · exact (h.below.trans (hb.mono (by omega))).setCell (by simp) _

set_option maxHeartbeats 2000000 in
theorem state_good (s : ByteArray) (n : Int) (w : World) (hs : 0 < s.size) (hb : Munch.badTag s[0] = false) (hs' : s.size ≤ 200000) (hn0 : 0 ≤ n) (hn1 : n ≤ 300000) :
    Calls Tryd.prog 16 #[.string s, .int .i64 n] w fun e w' => StatePost (Munch.stateV s.data.toList n) w e w' := by
  have hR : Munch.stateV s.data.toList n = (Munch.edges n (s.data.toList.drop 1) (-1) []).map fun E => (Munch.tagV s[0], E) := by rw [toList_cons s hs, Munch.stateV, if_neg (by rw [hb]; decide)]; rfl
  rw [hR]
  have hne : s.toList.isEmpty = false := by rw [ByteArray.toList_eq, toList_cons s hs]; rfl
  obtain ⟨i0, hi, hz0, hz1, hz2⟩ := info_parts infoEdge
  unfold Munch.badTag at hb
  clear hR
  have start : ∀ (X : Int), Munch.tagV s[0] = X → StInv w.heap.size w (Munch.tagV s[0]) [] none 0 ((w.alloc (.cells #[.int .i64 0, .slice none 0 0] 45)).alloc (.cells #[.int .i64 X, .slice none 0 0] 45)) := by
    intro X hX
    rw [hX]
    refine ⟨(Blk.new _ _ _).alloc _, ?_, World.ownsRow_nil _ _ _ _, ((Below.refl _ _).alloc (Nat.le_refl _) _).alloc (by simp) _⟩
    have := Blk.new (w.alloc (.cells #[.int .i64 0, .slice none 0 0] 45)) #[.int .i64 X, .slice none 0 0] 45
    simpa using this
  have START : Hid _ := start; clear start
  by_cases h45 : s[0].toNat = 45
  case' pos =>
    have ht : Munch.tagV s[0] = -1 := by unfold Munch.tagV; rw [if_pos h45]
    have h45' : ((s[0].toNat : Int) != 45) = false := by rw [h45]; rfl
    have HT : Hid _ := ht; clear ht
    clear hb h45
  case' neg =>
    have ht : Munch.tagV s[0] = (s[0].toNat : Int) - 48 := by unfold Munch.tagV; rw [if_neg h45]
    have h45' : ((s[0].toNat : Int) != 45) = true := by rw [bne_iff_ne]; omega
    have h48 : 48 ≤ (s[0].toNat : Int) := by simp [h45] at hb; omega
    have h52 : (s[0].toNat : Int) ≤ 52 := by simp [h45] at hb; omega
    have HT : Hid _ := ht; clear ht
    clear hb h45
  all_goals
    go_enter Tryd.func16, Tryd.ntmps16
    go_wp2_with fail
    go_loopw [7, 8] (fun l i wr => ∃ (i' : Nat) (x : Int) (L : List Munch.Edge) (ao : Option Addr) (cap : Nat), i = .int .i64 i' ∧ l = .int .i64 x ∧ -1 ≤ x ∧ x ≤ 255 ∧ L.length ≤ i' ∧ i' ≤ s.size + 9 ∧ StInv w.heap.size w (Munch.tagV s[0]) L ao cap wr ∧
      Munch.edges n (s.data.toList.drop i') x L = Munch.edges n (s.data.toList.drop 1) (-1) []) (fun _ i _ => s.size + 20 - (intOf i).toNat)
    case atStart => exact ⟨1, -1, [], none, 0, rfl, rfl, by omega, by omega, by simp, by omega, START.out _ HT.out, rfl⟩
    case round =>
      obtain ⟨i, x, L, ao, cap, rfl, rfl, hx0, hx1, hL, hk, inv, hE⟩ := hrel
      have H : Hid _ := hE; clear hE
      have hsz := inv.size
      have hb := inv.below
      have c0 := inv.res.cell 0
      have c1 := inv.res.cell 1
      have f0 := inv.res.frozen 0
      have f1 := inv.res.frozen 1
      have d0 := inv.x.cell 0
      have d1 := inv.x.cell 1
      have g0 := inv.x.frozen 0
      have g1 := inv.x.frozen 1
      simp at c0 c1 d0 d1
      by_cases hlt : i < s.size
      · have HB : Hid _ := Munch.edges_at_bad s i hlt n x L
        have HG : Hid _ := Munch.edges_at_good s i hlt n x L
        have HN : Hid _ := Munch.num4_len s i
        have hlo := Munch.num2 (s.data.toList.drop (i + 1))
        have hhi := Munch.num2 (s.data.toList.drop (i + 3))
        have hto := Munch.num4 (s.data.toList.drop (i + 6))
        go_wp2_with fail
        refine (number_any s _ _ _ _ (by omega) (by omega) (by omega) (by omega) (by omega) (by omega) (by omega)).mono ?_
        rintro e w' ⟨rfl, rfl⟩
        rw [show ((i : Int) + 1).toNat = i + 1 from by omega, show (2 : Int).toNat = 2 from rfl]
        generalize Munch.numV 16 0 (s.data.toList.drop (i + 1)) 2 = lo at *
        go_wp2_with fail
        refine (number_any s _ _ _ _ (by omega) (by omega) (by omega) (by omega) (by omega) (by omega) (by omega)).mono ?_
        rintro e w' ⟨rfl, rfl⟩
        rw [show ((i : Int) + 3).toNat = i + 3 from by omega, show (2 : Int).toNat = 2 from rfl]
        generalize Munch.numV 16 0 (s.data.toList.drop (i + 3)) 2 = hi' at *
        go_wp2_with fail
        refine (number_any s _ _ _ _ (by omega) (by omega) (by omega) (by omega) (by omega) (by omega) (by omega)).mono ?_
        rintro e w' ⟨rfl, rfl⟩
        rw [show ((i : Int) + 6).toNat = i + 6 from by omega, show (4 : Int).toNat = 4 from rfl]
        generalize Munch.numV 10 0 (s.data.toList.drop (i + 6)) 4 = to' at *
        have z0 := inv.res.set 0 (.int .i64 0)
        have z1 := (z0.set 1 (.slice none 0 0)).cell 1
        replace z0 := z0.cell 0
        simp at z0 z1
        have HC : Hid (Munch.edges n (s.data.toList.drop i) x L = none → StatePost ((Munch.edges n (s.data.toList.drop 1) (-1) []).map fun E => (Munch.tagV s[0], E)) w (.returned (.tuple #[.agg #[.int .i64 0, .slice none 0 0], .bool false]))
            ((w'.setCell ⟨w.heap.size, 0, none⟩ (.int .i64 0)).setCell ⟨w.heap.size, 1, none⟩ (.slice none 0 0))) := fun hn => Or.inl ⟨by rw [← H.out, hn]; rfl, rfl, (hb.setCell (by simp) _).setCell (by simp) _⟩
        have hcase : s[i].toNat ≠ 44 ∨ (s[i].toNat = 44 ∧ lo ≤ x) ∨ (s[i].toNat = 44 ∧ x < lo ∧ hi' < lo) ∨ (s[i].toNat = 44 ∧ x < lo ∧ lo ≤ hi' ∧ to' < 0) ∨ (s[i].toNat = 44 ∧ x < lo ∧ lo ≤ hi' ∧ 0 ≤ to' ∧ n ≤ to') ∨
            (s[i].toNat = 44 ∧ x < lo ∧ lo ≤ hi' ∧ 0 ≤ to' ∧ to' < n) := by omega
        rcases hcase with h44 | ⟨h44, h1⟩ | ⟨h44, h1, h2⟩ | ⟨h44, h1, h2, h3⟩ | ⟨h44, h1, h2, h3, h4⟩ | ⟨h44, h1, h2, h3, h4⟩
        · have FIN := HC.out (HB.out (Or.inl h44))
          have h44' : ((s[i].toNat : Int) != 44) = true := by rw [bne_iff_ne]; omega
          clear HB HG HN HC h44
          go_wp2_with fail
          exact bodyPost_ret (v := .tuple #[.agg #[.int .i64 0, .slice none 0 0], .bool false]) (by simp [results, Tryd.results16, go_sem, z0, z1]) rfl FIN
        · have FIN := HC.out (HB.out (Or.inr (Or.inl h1)))
          have h44' : ((s[i].toNat : Int) != 44) = false := by rw [h44]; rfl
          clear HB HG HN HC h44
          go_wp2_with fail
          exact bodyPost_ret (v := .tuple #[.agg #[.int .i64 0, .slice none 0 0], .bool false]) (by simp [results, Tryd.results16, go_sem, z0, z1]) rfl FIN
        · have FIN := HC.out (HB.out (Or.inr (Or.inr (Or.inl h2))))
          have h44' : ((s[i].toNat : Int) != 44) = false := by rw [h44]; rfl
          clear HB HG HN HC h44
          go_wp2_with fail
          exact bodyPost_ret (v := .tuple #[.agg #[.int .i64 0, .slice none 0 0], .bool false]) (by simp [results, Tryd.results16, go_sem, z0, z1]) rfl FIN
        · have FIN := HC.out (HB.out (Or.inr (Or.inr (Or.inr (Or.inl h3)))))
          have h44' : ((s[i].toNat : Int) != 44) = false := by rw [h44]; rfl
          clear HB HG HN HC h44
          go_wp2_with fail
          exact bodyPost_ret (v := .tuple #[.agg #[.int .i64 0, .slice none 0 0], .bool false]) (by simp [results, Tryd.results16, go_sem, z0, z1]) rfl FIN
        · have FIN := HC.out (HB.out (Or.inr (Or.inr (Or.inr (Or.inr (Or.inl h4))))))
          have h44' : ((s[i].toNat : Int) != 44) = false := by rw [h44]; rfl
          clear HB HG HN HC h44
          go_wp2_with fail
          exact bodyPost_ret (v := .tuple #[.agg #[.int .i64 0, .slice none 0 0], .bool false]) (by simp [results, Tryd.results16, go_sem, z0, z1]) rfl FIN
        · have h10 : i + 10 ≤ s.size := HN.out h3
          have h5 : i + 5 < s.size := by omega
          have h44' : ((s[i].toNat : Int) != 44) = false := by rw [h44]; rfl
          by_cases h62 : s[i + 5].toNat = 62
          · have h62' : ((s[i + 5].toNat : Int) != 62) = false := by rw [h62]; rfl
            have GO : Hid _ := HG.out h5 ⟨h44, by omega, by omega, by omega, by omega, h62⟩
            clear HB HG HN HC h44 h62
            go_wp2_with (at_builtin; refine wpList_append_own _ rfl (.tmp 89) (.tmp 94) 43 rfl (w.heap.size + 2) 55 i0 (.agg #[.int .i64 0, .int .i64 0, .int .i64 0]) 3 24 Tryd.underlying43 hi hz0 hz1 hz2 rfl (by decide) _ _ _ rfl (inv.own.alloc _) ⟨w'.heap.size, 0, none⟩ 1 1 [.int .i64 lo, .int .i64 hi', .int .i64 to'] rfl rfl (cell_three_new _ _ _ _ _) (by intro u hu; simp at hu; rcases hu with rfl | rfl | rfl <;> rfl) (by unfold maxLen; omega) (by omega) (by simp; omega) ?_)
            intro v' w1 hown' hgrow _
            obtain ⟨ao', cap', rfl, hx1, inv'⟩ := inv.step _ hown' hgrow
            have q1 := hx1.cell 1
            have q2 := hx1.frozen 1
            simp at q1
            go_wp2_with fail
            go_roundw
            case rel => exact ⟨i + 10, hi', L ++ [(lo, hi', to')], ao', cap', by go_num, rfl, by omega, by omega, by simp; omega, by omega, inv', by rw [← H.out, GO.out]⟩
            case measure => simp [intOf]; omega
          · have FIN := HC.out (HB.out (Or.inr (Or.inr (Or.inr (Or.inr (Or.inr ⟨h5, h62⟩))))))
            have h62' : ((s[i + 5].toNat : Int) != 62) = true := by rw [bne_iff_ne]; omega
            clear HB HG HN HC h44 h62
            go_wp2_with fail
            exact bodyPost_ret (v := .tuple #[.agg #[.int .i64 0, .slice none 0 0], .bool false]) (by simp [results, Tryd.results16, go_sem, z0, z1]) rfl FIN
      · have hR : Munch.edges n (s.data.toList.drop 1) (-1) [] = some L := by rw [← H.out, Munch.drop_nil s _ (by omega), Munch.edges_nil]
        have HR : Hid _ := hR; clear hR
        have z0 := inv.res.set 0 (.int .i64 (Munch.tagV s[0]))
        have z1 := (z0.set 1 (.slice ao L.length cap)).cell 1
        replace z0 := z0.cell 0
        simp at z0 z1
        go_wp2_with fail
        refine bodyPost_ret (v := .tuple #[.agg #[.int .i64 (Munch.tagV s[0]), .slice ao L.length cap], .bool true]) ?_ rfl (Or.inr ⟨Munch.tagV s[0], L, .slice ao L.length cap, by rw [HR.out]; rfl, rfl, ?_, ?_⟩)
        · simp [results, Tryd.results16, go_sem, z0, z1]
        · exact ownsRow_base (ownsRow_setCell_below (ownsRow_setCell_below inv.own (by simp) _) (by simp) _) (by omega)
        · exact (hb.setCell (by simp) _).setCell (by simp) _

/-- munchref.state, at every text of a table. -/
theorem state_any (s : ByteArray) (n : Int) (w : World) (hs : s.size ≤ 200000) (hn0 : 0 ≤ n) (hn1 : n ≤ 300000) :
    Calls Tryd.prog 16 #[.string s, .int .i64 n] w fun e w' => StatePost (Munch.stateV s.data.toList n) w e w' := by
  by_cases h0 : s.size = 0
  · exact state_empty s n w h0
  · by_cases hb : Munch.badTag (s[0]'(by omega)) = true
    · exact state_bad s n w (by omega) hb
    · exact state_good s n w (by omega) (by simpa using hb) hs hn0 hn1
end Go.Proofs.YtjhopgfgfljcoaaDoor
