import Derived.Test.YtkoaeojdlanolaaGreatDoorCc10
import Derived.Test.YtkoaeojdlanolaaGreatDoorCc09
import Derived.Deep.DeepCutAuto
import Derived.Deep.Cut
import Derived.Deep.CutRange
/-
  tree.mergeHeads.
-/
namespace Go.Proofs.YtkoaeojdlanolaaGreatDoor
open Go.RowKit
open Munch (Words Wempty Wbytes Wcat Wany Wall Wnot KeyF Times numText)

set_option maxHeartbeats 4000000 in
set_option maxRecDepth 100000 in
theorem mergeHeads_any (sv : Value) (ts : List Tr) (w : World) (ok : Nat → Prop) (hS : TreesOk w ok sv ts) (hok : ∀ b, ok b → b < w.heap.size) (hn : (ts.map (·.n)).sum ≤ 1000000) (hl : Laid w) :
    Calls Tryz.prog 109 #[sv] w fun e w' => ∃ (ov : Value) (us : List Tr), e = .returned ov ∧ w'.ownsRow w.heap.size 72 1 ov us.length (us.map (·.v)) ∧ (∀ t ∈ us, TreeOk w' (fun b => okN ok w.heap.size b ∧ ov.ownBlock ≠ some b) t) ∧
      (∀ u, (∃ t ∈ us, t.L u) ↔ ∃ t ∈ ts, t.L u) ∧ (us.map (·.n)).sum ≤ (ts.map (·.n)).sum ∧ us.length ≤ ts.length ∧ Below w.heap.size w w' := by
  obtain ⟨i1, hi1, hi10, hi11, hi12⟩ := info_parts infoTree
  obtain ⟨i2, hi2, hi20, hi21, hi22⟩ := info_parts infoSet
  obtain ⟨ao, cap, rfl, hmax⟩ := hS.held.shape
  have hlen : ts.length ≤ 1000000 := by
    have : ∀ (l : List Tr), (∀ x ∈ l, 1 ≤ x.n) → l.length ≤ (l.map (·.n)).sum := by
      intro l
      induction l with
      | nil => intro _; simp
      | cons x r ih => intro h; have := ih (fun y hy => h y (by simp [hy])); have := h x (by simp); simp; omega
    have := this ts (fun x hx => (hS.trees x hx).pos)
    omega
  go_enter Tryz.func109, Tryz.ntmps109
  go_wp2_with fail
  have hb0 := (Below.refl w.heap.size w).alloc (Nat.le_refl _) (.cells #[.slice none 0 0] 211)
  have k0 : Blk (w.alloc (.cells #[.slice none 0 0] 211)) w.heap.size 211 #[.slice none 0 0] := Blk.new _ _ _
  refine (storeNew_any _).mono ?_
  rintro e w1 ⟨s, b, rfl, hSt, hs, hb, hb1⟩
  have hM0 : MH w w1 w.heap.size s b 0 (fun _ => 0) (.slice none 0 0) (.slice none 0 0) [] [] :=
    ⟨k0.below hb1 (by simp), World.ownsRow_nil _ _ _ _, (fun j g h => by simp at h), (fun j g h => by simp at h), (fun j g h => by simp at h), (fun j g h => by simp at h), World.ownsRow_nil _ _ _ _, (fun k h => by simp [Value.ownBlock] at h), hSt _, hb0.trans (hb1.mono (by simp)), Nat.le_refl _, by simp at hs; omega, by simp at hb; omega⟩
  have HS0 : Hid _ := MS.start w ok ts
  clear hSt k0 hs hb hb0 hb1
  go_wp2_with fail
  go_loopw [3, 17] (fun ov i wr => ∃ (k n : Nat) (out : List Tr) (gs : List Grp) (gv : Value) (own : Nat → Nat) (oa : Option Addr) (oc : Nat), k ≤ ts.length ∧ n ≤ k ∧ i = .int .i64 k ∧ ov = .slice oa out.length oc ∧ MH w wr w.heap.size s b n own (.slice oa out.length oc) gv out gs ∧ Hid (MS w ok ts k out gs)) (fun _ i _ => ts.length - (intOf i).toNat)
  case atStart => exact ⟨0, 0, [], [], _, _, none, 0, Nat.zero_le _, Nat.le_refl _, rfl, rfl, hM0, HS0⟩
  case round =>
    obtain ⟨k, n, out, gs, gv, own, oa, oc, hk, hnk, rfl, rfl, hM, HS⟩ := hrel
    clear hM0 HS0
    have hlo := HS.out.len
    have hwr := hM.below.size
    by_cases hlt : k < ts.length
    · obtain ⟨g0, rfl, hx, hg0⟩ := hS.held.at_ k hlt
      have htk := hS.trees ts[k] (List.getElem_mem hlt)
      obtain ⟨Tk, pk, hvk⟩ := htk.shape
      have hx' : wr.cell? ⟨g0, k, none⟩ = some (.iface Tk pk) := by rw [hM.below.cell (p := ⟨g0, k, none⟩) hg0, ← hvk]; exact hx
      have hsp := splitHead_any ts[k] w wr ok htk
      rw [hvk] at hsp
      clear hx
      go_wp2_with fail
      refine hsp.mono ?_
      rintro e w2 ⟨hspl, hb2⟩
      clear hsp
      have hM2 := hM.keep hb2
      rcases hspl with ⟨f, S, rest, rfl, hf, hrest, hL, hrn⟩ | rfl
      · obtain ⟨fn, caps, rfl⟩ := hf.notAgg
        obtain ⟨Tr_, pr, fr, kr, hrv, hkr, hmr, hentr, hcallr⟩ := hrest.keyed.call
        have hrl := hrest.len
        have hkn : ts[k].n ≤ 1000000 := by
          have : ∀ (l : List Tr) (i : Nat) (h : i < l.length), l[i].n ≤ (l.map (·.n)).sum := by
            intro l
            induction l with
            | nil => intro i h; simp at h
            | cons x r ih =>
              intro i h
              cases i with
              | zero => simp
              | succ i => have := ih i (by simpa using h); simp; omega
          have := this ts k hlt
          omega
        have hks : kr.size ≤ maxLen := by
          have : kr.size = rest.k.length := by rw [← show kr.data.toList = rest.k from hkr]; simp
          unfold maxLen; omega
        rw [hrv]
        have k3 : Blk (w2.alloc (.cells #[.iface Tr_ pr] 72)) w2.heap.size 72 #[.iface Tr_ pr] := Blk.new _ _ _
        have hM3 := hM2.keep ((Below.refl w2.heap.size w2).alloc (Nat.le_refl _) (.cells #[.iface Tr_ pr] 72))
        go_wp2_with fail
        rw [hentr, Oper.upon_enter]
        refine (hcallr _).mono ?_
        rintro e w4 ⟨rfl, hb4⟩
        have hM4 := hM3.keep hb4
        have hR : w4.cell? ⟨w2.heap.size, 0, none⟩ = some rest.v := by rw [hrv]; exact (k3.below hb4 (by simp)).cell 0
        have hfind := find_any s b n kr 128 #[.pointer (some ⟨w.heap.size, 0, none⟩), .pointer (some ⟨w2.heap.size, 0, none⟩)] w4 (places gs) (fun _ => places (gs ++ [newGrp rest])) (fun v w' => v = (gs.length : Int) ∧ ∃ gv', MH w w' w.heap.size s b n own (.slice oa out.length oc) gv' out (gs ++ [newGrp rest])) hks hM4.store (by unfold maxLen; omega) enters_grp
          ((grp_call hM4 w2.heap.size rest Tr_ pr hrv hR (by omega)).mono (by
            rintro e w' ⟨rfl, gv', hM'⟩
            exact ⟨gs.length, rfl, ⟨gs.length, newGrp rest, rfl, by simp, by rw [show kr.data.toList = rest.k from hkr]; rfl⟩, ⟨rfl, gv', hM'⟩, hM'.store⟩))
        have HRest : Hid _ := hrest
        have HF : Hid _ := hf
        have HL : Hid _ := hL
        clear hM hM2 hM3 k3 hR hentr hcallr hmr hrest hf hL
        go_wp2_with fail
        refine hfind.mono ?_
        clear hfind
        rintro e w5 ⟨v, rfl, hcase⟩
        obtain ⟨j, g, gs1, gv1, n1, hv, hj, hM5, hn1, hlen1, HSem⟩ : ∃ (j : Nat) (g : Grp) (gs1 : List Grp) (gv1 : Value) (n1 : Nat), v = (j : Int) ∧ gs1[j]? = some g ∧ MH w w5 w.heap.size s b n1 own (.slice oa out.length oc) gv1 out gs1 ∧ n1 ≤ k + 1 ∧ gs1.length ≤ 1000001 ∧
            Hid (g.rows.length ≤ 1000000 ∧ g.hvs.length ≤ 1000000 ∧ ∀ rv hv, MS w ok ts (k + 1) out (gs1.set j { g with rows := g.rows ++ [ts[k]], rv := rv, heads := g.heads ++ [S], hvs := g.hvs ++ [.func (.func fn) #[] caps], hv := hv })) := by
          rcases hcase with ⟨rfl, hpl⟩ | ⟨w', ⟨hv', gv', hM'⟩, hgr, hst⟩
          · obtain ⟨j, g, hv, hj, hk'⟩ := hpl
            have hg := HS.out.grp j g hj
            have hLs : g.rest.L = rest.L := hg.rest.same HRest.out (by rw [hk']; exact hkr)
            have hrl' : g.rows.length ≤ 1000000 := by
              have h1 : ∀ (l : List Tr), (∀ x ∈ l, 1 ≤ x.n) → l.length ≤ (l.map (·.n)).sum := by
                intro l
                induction l with
                | nil => intro _; simp
                | cons x r ih => intro h; have := ih (fun y hy => h y (by simp [hy])); have := h x (by simp); simp; omega
              have h2 := h1 g.rows (fun x hx => (hS.trees x (List.mem_of_mem_take ((HS.out.mem x).1 (Or.inr ⟨g, List.mem_of_getElem? hj, hx⟩)))).pos)
              have h3 := HS.out.sum
              have h4 : ∀ (l : List Grp) (x : Grp), x ∈ l → (x.rows.map (·.n)).sum ≤ (l.map fun g => (g.rows.map (·.n)).sum).sum := by
                intro l
                induction l with
                | nil => intro x h; cases h
                | cons y r ih =>
                  intro x h
                  rcases List.mem_cons.1 h with rfl | h
                  · simp
                  · have := ih x h; simp; omega
              have h5 := h4 gs g (List.mem_of_getElem? hj)
              have h6 := sum_sublist (List.take_sublist k ts)
              omega
            exact ⟨j, g, gs, gv, n, hv, hj, hM4, by omega, by omega, ⟨hrl', by rw [hg.hlen]; exact hrl', fun rv hv => HS.out.addOld hlt j g hj S _ rv hv HF.out (by rw [hLs]; exact HL.out)⟩⟩
          · refine ⟨gs.length, newGrp rest, gs ++ [newGrp rest], gv', n + 1, hv', by simp, hM'.stored hgr hst, by omega, by simp; omega, ⟨by simp [newGrp], by simp [newGrp], fun rv hv => ?_⟩⟩
            have := HS.out.addNew hlt S _ rest rv hv HF.out HRest.out HL.out hrn
            rw [List.set_append_right _ _ (Nat.le_refl _)]
            simpa [newGrp] using this
        subst hv
        clear hcase HS
        have hlj := lt_of_at hj
        obtain ⟨gB, gcap, rfl, hgB, hgB'⟩ := hM5.row.form (by omega)
        have hc1 : w5.cell? ⟨w.heap.size, 0, none⟩ = some (.slice (some ⟨gB, 0, none⟩) gs1.length gcap) := hM5.gblk.cell 0
        have hcs := grpCells_at gs1 j g hj
        have hgl := grpCells_len gs1
        have hc2 : w5.cell? ⟨gB, j * 3, none⟩ = some g.rv := by rw [hM5.row.cellAt (j * 3) (by omega)]; exact hcs.1
        obtain ⟨ra, rc, hrva⟩ : ∃ ra rc, g.rv = .slice ra g.rows.length rc := by
          rcases (hM5.rows j g hj).2 with ⟨hh, h0⟩ | ⟨_, _, _, hh, _⟩
          · exact ⟨none, 0, by rw [hh, h0]⟩
          · exact ⟨_, _, hh⟩
        have hM6 := hM5.keep ((Below.refl w5.heap.size w5).alloc (Nat.le_refl _) (.cells #[.iface Tk pk] 72))
        have hB6 := row_cells hM6.row (g := gB) rfl
        rw [hrva] at hc2
        have hj1 : (0 : Int) ≤ (j : Int) := by omega
        have hj2 : (j : Int) < (gs1.length : Int) := by omega
        obtain ⟨gcur, hB6⟩ := hB6
        have hrows := hM6.rows j g hj
        rw [hrva] at hrows
        have hbase6 : w.heap.size ≤ (w5.alloc (.cells #[.iface Tk pk] 72)).heap.size := hM6.below.size
        have hl6 := HSem.out.1
        have HM6 : Hid _ := hM6
        have HM5 : Hid _ := hM5
        clear hM6 hM5 hM4
        go_upto_region 11 with fail
        have hltB : gB < (w5.alloc (.cells #[.iface Tk pk] 72)).heap.size := by simp; omega
        have hneB : some gB ≠ (Value.slice ra g.rows.length rc).ownBlock := by
          have := rows_ne HM6.out.row (HM6.out.rows j g hj) (by decide) (g := gB) rfl
          rw [hrva] at this; exact this
        have hgj : gcur[j * 3]? = some (.slice ra g.rows.length rc) := by
          have := Blk.cell (w := w5.alloc (.cells #[.iface Tk pk] 72)) (t := 215) hB6 (j * 3)
          rw [← this, HM6.out.row.cellAt (j * 3) (by omega), hcs.1, hrva]
        have hc1' : (w5.alloc (.cells #[.iface Tk pk] 72)).cell? ⟨w.heap.size, 0, none⟩ = some (.slice (some ⟨gB, 0, none⟩) gs1.length gcap) := HM6.out.gblk.cell 0
        have hc2' : (w5.alloc (.cells #[.iface Tk pk] 72)).cell? ⟨gB, j * 3, none⟩ = some (.slice ra g.rows.length rc) := (Blk.cell (w := w5.alloc (.cells #[.iface Tk pk] 72)) (t := 215) hB6 (j * 3)).trans hgj
        have hG6 := HM6.out.gblk
        have hltG := hG6.lt
        have hneG : some w.heap.size ≠ (Value.slice ra g.rows.length rc).ownBlock := by
          intro e
          exact row_ne hrows hG6 (by decide) e.symm rfl
        go_cut [] (fun wx => ∃ g2 cap2 own7, MH w wx w.heap.size s b n1 own7 (.slice oa out.length oc) (.slice (some ⟨gB, 0, none⟩) gs1.length gcap) out (gs1.set j { g with rows := g.rows ++ [ts[k]], rv := .slice (some ⟨g2, 0, none⟩) (g.rows.length + 1) cap2 }))
        case first =>
          go_region_law (refine step_append_lies _ rfl (.tmp 44) (.tmp 46) 34 rfl w.heap.size 72 i1 .nilIface 1 16 Tryz.underlying34 hi1 hi10 hi11 hi12 rfl (by decide) (.slice ra g.rows.length rc) g.rows.length (g.rows.map (·.v)) (by simp [Act.eval]) (by exact hrows) ⟨w5.heap.size, 0, none⟩ 1 1 [.iface Tk pk] (by simp [Act.eval]) rfl (by exact World.news_of_block (Blk.new w5 #[.iface Tk pk] 72)) (by intro u hu; simp at hu; subst hu; rfl) (by decide) (by unfold maxLen; omega) (by omega) (by exact hbase6) _ rfl ?_; intro g2 cap2 w6 hown6 hgrow6 hat6 hlt6; have hBw6 : w6.heap[gB]? = some (.cells gcur 215 (0, 0)) := (hgrow6.block gB (by exact hltB) hneB).trans (by exact hB6); have hc6 : w6.cell? ⟨gB, j * 3, none⟩ = some (.slice ra g.rows.length rc) := (Blk.cell (w := w6) (t := 215) hBw6 (j * 3)).trans hgj; have hf6 : w6.frozen? ⟨gB, j * 3, none⟩ = false := Blk.frozen (w := w6) (t := 215) hBw6 (j * 3); have hcG6 : w6.cell? ⟨w.heap.size, 0, none⟩ = some (.slice (some ⟨gB, 0, none⟩) gs1.length gcap) := Blk.cell (w := w6) (b := w.heap.size) (t := 211) (c := #[.slice (some ⟨gB, 0, none⟩) gs1.length gcap]) ((hgrow6.block w.heap.size (by exact hltG) hneG).trans (by exact hG6)) 0)
          all_goals
            go_wp2_with fail
            go_meet
            rw [← hvk] at hown6
            rw [← hrva] at hgrow6 hat6
            obtain ⟨own7, hM7⟩ := HM6.out.addRow (t := ts[k]) (rv' := .slice (some ⟨g2, 0, none⟩) (g.rows.length + 1) cap2) hj hown6 ⟨hgrow6.os, hgrow6.tape, hgrow6.output, hgrow6.size, hgrow6.block⟩ (by
              rcases hat6 with h | h
              · left; rw [h]; rfl
              · right; rw [h]; simp [Value.ownBlock])
            exact ⟨g2, cap2, own7, hM7⟩
        case rest =>
        obtain ⟨g2, cap2, own7, hM7⟩ := hcut
        generalize wc = w7 at *
        clear hc1 hc2 hc1' hc2' hG6 hltG hneG hrows hB6 hbase6 HM6 HM5 hltB hneB hgj hrva hcs hgl
        obtain ⟨gs2, g1, hgs2, hg1, hjj, hl2, hM7⟩ : ∃ (gs2 : List Grp) (g1 : Grp), gs2 = gs1.set j g1 ∧ g1 = { g with rows := g.rows ++ [ts[k]], rv := .slice (some ⟨g2, 0, none⟩) (g.rows.length + 1) cap2 } ∧ gs2[j]? = some g1 ∧ gs2.length = gs1.length ∧ MH w w7 w.heap.size s b n1 own7 (.slice oa out.length oc) (.slice (some ⟨gB, 0, none⟩) gs1.length gcap) out gs2 :=
          ⟨_, _, rfl, rfl, by rw [List.getElem?_set_self hlj], by simp, hM7⟩
        have hhl : g1.hvs.length = g.hvs.length := by rw [hg1]
        have hc1 : w7.cell? ⟨w.heap.size, 0, none⟩ = some (.slice (some ⟨gB, 0, none⟩) gs1.length gcap) := hM7.gblk.cell 0
        rw [← hl2] at hM7
        have hcs := grpCells_at gs2 j g1 hjj
        have hgl := grpCells_len gs2
        obtain ⟨ra, rc, hrva⟩ : ∃ ra rc, g1.hv = .slice ra g1.hvs.length rc := by
          rcases (hM7.heads j g1 hjj).2 with ⟨hh, h0⟩ | ⟨_, _, _, hh, _⟩
          · exact ⟨none, 0, by rw [hh, h0]⟩
          · exact ⟨_, _, hh⟩
        have hc2 : w7.cell? ⟨gB, j * 3 + 1, none⟩ = some (.slice ra g1.hvs.length rc) := by rw [hM7.row.cellAt (j * 3 + 1) (by omega), ← hrva]; exact hcs.2.1
        have hM6 := hM7.keep ((Below.refl w7.heap.size w7).alloc (Nat.le_refl _) (.cells #[.func (.func fn) #[] caps] 149))
        obtain ⟨gcur, hB6⟩ := row_cells hM6.row (g := gB) rfl
        have hrows := hM6.heads j g1 hjj
        rw [hrva] at hrows
        have hbase6 : w.heap.size ≤ (w7.alloc (.cells #[.func (.func fn) #[] caps] 149)).heap.size := hM6.below.size
        have hl6 : g1.hvs.length ≤ 1000000 := by rw [hhl]; exact HSem.out.2.1
        clear hhl
        have HM6 : Hid _ := hM6
        have hltB : gB < (w7.alloc (.cells #[.func (.func fn) #[] caps] 149)).heap.size := (hM6.row.lt gB rfl).2
        have hneB : some gB ≠ (Value.slice ra g1.hvs.length rc).ownBlock := by
          have := rows_ne hM6.row (hM6.heads j g1 hjj) (by decide) (g := gB) rfl
          rw [hrva] at this; exact this
        have hgj : gcur[j * 3 + 1]? = some (.slice ra g1.hvs.length rc) := by
          have := Blk.cell (w := w7.alloc (.cells #[.func (.func fn) #[] caps] 149)) (t := 215) hB6 (j * 3 + 1)
          rw [← this, hM6.row.cellAt (j * 3 + 1) (by omega), hcs.2.1, hrva]
        have hG6 : Blk (w7.alloc (.cells #[.func (.func fn) #[] caps] 149)) w.heap.size 211 #[.slice (some ⟨gB, 0, none⟩) gs1.length gcap] := by rw [← hl2]; exact hM6.gblk
        have HGS : Hid _ := hgs2
        have HG1 : Hid _ := hg1
        clear hM6 hM7 hl2 hgs2 hg1
        have hc1' : (w7.alloc (.cells #[.func (.func fn) #[] caps] 149)).cell? ⟨w.heap.size, 0, none⟩ = some (.slice (some ⟨gB, 0, none⟩) gs1.length gcap) := hG6.cell 0
        have hc2' : (w7.alloc (.cells #[.func (.func fn) #[] caps] 149)).cell? ⟨gB, j * 3 + 1, none⟩ = some (.slice ra g1.hvs.length rc) := (Blk.cell (w := w7.alloc (.cells #[.func (.func fn) #[] caps] 149)) (t := 215) hB6 (j * 3 + 1)).trans hgj
        have hltG := hG6.lt
        have hneG : some w.heap.size ≠ (Value.slice ra g1.hvs.length rc).ownBlock := by
          intro e
          exact row_ne hrows hG6 (by decide) e.symm rfl
        go_wp2_with fail
        go_region_law (refine step_append_lies _ rfl (.tmp 56) (.tmp 58) 179 rfl w.heap.size 149 i2 .nilFunc 1 8 Tryz.underlying179 hi2 hi20 hi21 hi22 rfl (by decide) (.slice ra g1.hvs.length rc) g1.hvs.length g1.hvs (by simp [Act.eval]) (by exact hrows) ⟨w7.heap.size, 0, none⟩ 1 1 [.func (.func fn) #[] caps] (by simp [Act.eval]) rfl (by exact World.news_of_block (Blk.new w7 #[.func (.func fn) #[] caps] 149)) (by intro u hu; simp at hu; subst hu; rfl) (by decide) (by unfold maxLen; omega) (by omega) (by exact hbase6) _ rfl ?_; intro g3 cap3 w8 hown8 hgrow8 hat8 hlt8; have hBw8 : w8.heap[gB]? = some (.cells gcur 215 (0, 0)) := (hgrow8.block gB (by exact hltB) hneB).trans (by exact hB6); have hc8 : w8.cell? ⟨gB, j * 3 + 1, none⟩ = some (.slice ra g1.hvs.length rc) := (Blk.cell (w := w8) (t := 215) hBw8 (j * 3 + 1)).trans hgj; have hf8 : w8.frozen? ⟨gB, j * 3 + 1, none⟩ = false := Blk.frozen (w := w8) (t := 215) hBw8 (j * 3 + 1); have hcG8 : w8.cell? ⟨w.heap.size, 0, none⟩ = some (.slice (some ⟨gB, 0, none⟩) gs1.length gcap) := Blk.cell (w := w8) (b := w.heap.size) (t := 211) (c := #[.slice (some ⟨gB, 0, none⟩) gs1.length gcap]) ((hgrow8.block w.heap.size (by exact hltG) hneG).trans (by exact hG6)) 0)
        all_goals
          rw [← hrva] at hgrow8 hat8
          obtain ⟨own9, hM9⟩ := HM6.out.addHead (S := S) (hv' := .slice (some ⟨g3, 0, none⟩) (g1.hvs.length + 1) cap3) hjj hown8 ⟨hgrow8.os, hgrow8.tape, hgrow8.output, hgrow8.size, hgrow8.block⟩ (by
            rcases hat8 with h | h
            · left; rw [h]; rfl
            · right; rw [h]; simp [Value.ownBlock])
          have HS9 : Hid _ := HSem.out.2.2 (.slice (some ⟨g2, 0, none⟩) (g.rows.length + 1) cap2) (.slice (some ⟨g3, 0, none⟩) (g1.hvs.length + 1) cap3)
          clear hc1 hc2 hc1' hc2' hG6 hltG hneG hcG8 hrows hB6 hbase6 HM6 hltB hneB hgj hown8 hgrow8 hat8 hlt8 hBw8 hc8 hf8 hrva hcs hgl HSem
          go_wp2_with fail
          go_roundw
          · refine ⟨k + 1, n1, out, _, _, own9, oa, oc, by omega, hn1, by go_num, rfl, hM9, ?_⟩
            have := HS9.out
            rw [HGS.out, List.set_set]
            rw [HG1.out] at this ⊢
            exact this
          · simp [intOf]; omega
      · have hM3 := hM2.keep ((Below.refl w2.heap.size w2).alloc (Nat.le_refl _) (.cells #[.nilIface] 72))
        have hM4 := hM3.keep ((Below.refl _ _).alloc (Nat.le_refl _) (.cells #[.iface Tk pk] 72))
        have hbase : w.heap.size ≤ ((w2.alloc (.cells #[.nilIface] 72)).alloc (.cells #[.iface Tk pk] 72)).heap.size := hM4.below.size
        go_wp2_with (at_builtin; go_must (refine wpList_append_lies _ rfl (.tmp 29) (.tmp 31) 34 rfl w.heap.size 72 i1 .nilIface 1 16 Tryz.underlying34 hi1 hi10 hi11 hi12 rfl (by decide) _ _ _ rfl hM4.out ⟨w2.heap.size + 1, 0, none⟩ 1 1 [.iface Tk pk] (by simp [Act.eval]) rfl (World.news_of_block (by have := Blk.new (w2.alloc (.cells #[.nilIface] 72)) #[.iface Tk pk] 72; rwa [size_alloc] at this)) (by intro u hu; simp at hu; subst hu; rfl) (by decide) (by unfold maxLen; omega) (by omega) hbase _ rfl ?_))
        intro g2 cap2 w5 hown5 hgrow5 hat5 hlt5
        rw [← hvk] at hown5
        obtain ⟨own', hM5⟩ := hM4.outSnoc (t := ts[k]) hown5 hgrow5 (by rcases hat5 with h | h <;> simp_all [Value.ownBlock])
        have HS5 : Hid _ := HS.out.addOut hlt
        clear hM hM2 hM3 hM4 hown5 hgrow5 hat5 HS
        go_wp2_with fail
        go_roundw
        case rel => exact ⟨k + 1, n, out ++ [ts[k]], gs, gv, own', some ⟨g2, 0, none⟩, cap2, by omega, by omega, by go_num, by simp, by simpa using hM5, HS5⟩
        case measure => simp [intOf]; omega
    · obtain rfl : k = ts.length := by omega
      have hM0 := hM
      obtain ⟨ga, gc, rfl⟩ : ∃ ga gc, gv = .slice ga gs.length gc := by
        rcases hM.row.2 with ⟨hh, h0⟩ | ⟨_, _, _, hh, _⟩
        · exact ⟨none, 0, by rw [hh, h0]⟩
        · exact ⟨_, _, hh⟩
      have hc1 : wr.cell? ⟨w.heap.size, 0, none⟩ = some (.slice ga gs.length gc) := hM.gblk.cell 0
      have hfl : (gs.length : Int) ≤ 9223372036854775807 := by omega
      have H0 : Hid (M2 w ok wr s b n own (.slice oa out.length oc) (.slice ga gs.length gc) out gs 0 out) := by
        show M2 w ok wr s b n own (.slice oa out.length oc) (.slice ga gs.length gc) out gs 0 out
        exact ⟨hM, fun t ht => ((hS.trees t (by have := (HS.out.mem t).1 (Or.inl ht); rwa [List.take_of_length_le (Nat.le_refl _)] at this)).keep (keeps_below hM.below)).mono (fun x _ hx => ⟨Or.inl hx, fun e => by have := (hM.out.lt x e).1; have := hok x hx; omega⟩), fun u => by simp, by simp, by omega⟩
      clear hM0
      go_wp2_with fail
      go_loopw [3, 65] (fun v i wq => ∃ (m : Nat) (us : List Tr) (own2 : Nat → Nat) (ua : Option Addr) (uc : Nat), m ≤ gs.length ∧ i = .int .i64 m ∧ v = .slice ua us.length uc ∧ Hid (M2 w ok wq s b n own2 (.slice ua us.length uc) (.slice ga gs.length gc) out gs m us) ) (fun _ i _ => gs.length - (intOf i).toNat)
      case atStart => exact ⟨0, out, own, oa, oc, Nat.zero_le _, rfl, rfl, H0⟩
      case round =>
        obtain ⟨m, us, own2, ua, uc, hm, rfl, rfl, H⟩ := hrel
        clear hM H0 hc1
        have hM := H.out.mem
        have hul := H.out.len
        by_cases hlt2 : m < gs.length
        · obtain ⟨gB, gcap, he, hgB, hgB'⟩ := hM.row.form (by omega)
          cases he
          have hj : gs[m]? = some gs[m] := List.getElem?_eq_getElem hlt2
          obtain ⟨g, hg⟩ : ∃ g, g = gs[m] := ⟨_, rfl⟩
          rw [← hg] at hj
          have hgok := HS.out.grp m g hj
          have hcs := grpCells_at gs m g hj
          have hgl := grpCells_len gs
          obtain ⟨ra, rc, hra⟩ : ∃ ra rc, g.rv = .slice ra g.rows.length rc := by
            rcases (hM.rows m g hj).2 with ⟨hh, h0⟩ | ⟨_, _, _, hh, _⟩
            · exact ⟨none, 0, by rw [hh, h0]⟩
            · exact ⟨_, _, hh⟩
          obtain ⟨ha, hc, hha⟩ : ∃ ha hc, g.hv = .slice ha g.hvs.length hc := by
            rcases (hM.heads m g hj).2 with ⟨hh, h0⟩ | ⟨_, _, _, hh, _⟩
            · exact ⟨none, 0, by rw [hh, h0]⟩
            · exact ⟨_, _, hh⟩
          obtain ⟨Tq, pq, hqv⟩ := hgok.rest.shape
          have hc0 : wr.cell? ⟨gB, m * 3, none⟩ = some (.slice ra g.rows.length rc) := by rw [hM.row.cellAt (m * 3) (by omega), ← hra]; exact hcs.1
          have hc1 : wr.cell? ⟨gB, m * 3 + 1, none⟩ = some (.slice ha g.hvs.length hc) := by rw [hM.row.cellAt (m * 3 + 1) (by omega), ← hha]; exact hcs.2.1
          have hc2 : wr.cell? ⟨gB, m * 3 + 2, none⟩ = some (.iface Tq pq) := by rw [hM.row.cellAt (m * 3 + 2) (by omega), ← hqv]; exact hcs.2.2
          have hlt2' : (m : Int) < (gs.length : Int) := by omega
          have k1 : Blk (wr.alloc (.cells #[.slice ra g.rows.length rc, .slice ha g.hvs.length hc, .iface Tq pq] 215)) wr.heap.size 215 #[.slice ra g.rows.length rc, .slice ha g.hvs.length hc, .iface Tq pq] := Blk.new _ _ _
          have hbW : Below wr.heap.size wr (wr.alloc (.cells #[.slice ra g.rows.length rc, .slice ha g.hvs.length hc, .iface Tq pq] 215)) := (Below.refl _ _).alloc (Nat.le_refl _) _
          by_cases h1 : g.rows.length = 1
          · obtain ⟨t, ht⟩ : ∃ t, g.rows = [t] := List.length_eq_one_iff.1 h1
            have hrow := hM.rows m g hj
            rw [hra, ht] at hrow
            obtain ⟨rB, rcap, he, hrB, hrB'⟩ := hrow.form (by simp)
            cases he
            have hct : wr.cell? ⟨rB, 0, none⟩ = some t.v := by rw [hrow.cellAt 0 (by simp)]; rfl
            have htok : TreeOk w ok t := hS.trees t (by have := (HS.out.mem t).1 (Or.inr ⟨g, List.mem_of_getElem? hj, by rw [ht]; simp⟩); rwa [List.take_of_length_le (Nat.le_refl _)] at this)
            obtain ⟨Tt, pt, htv⟩ := htok.shape
            rw [htv] at hct
            rw [ht] at hc0 k1 hbW
            simp only [List.length_cons, List.length_nil, Nat.zero_add] at hc0 k1 hbW
            have hM1 := hM.keep hbW
            have hb2 := hbW.alloc (by simp) (.cells #[.iface Tt pt] 72)
            have hM2 := hM.keep hb2
            have hbase : w.heap.size ≤ ((wr.alloc (.cells #[.slice (some ⟨rB, 0, none⟩) 1 rc, .slice ha g.hvs.length hc, .iface Tq pq] 215)).alloc (.cells #[.iface Tt pt] 72)).heap.size := hM2.below.size
            have hrB1 : rB < wr.heap.size := hrB'
            have HG : Hid _ := hg
            have HT : Hid _ := ht
            have HK : Hid _ := htok
            clear hrow hcs hgl htok hra hha ht h1 hg hM1
            go_wp2_with (at_builtin; go_must (refine wpList_append_lies _ rfl (.tmp 73) (.tmp 78) 34 rfl w.heap.size 72 i1 .nilIface 1 16 Tryz.underlying34 hi1 hi10 hi11 hi12 rfl (by decide) _ _ _ rfl hM2.out ⟨wr.heap.size + 1, 0, none⟩ 1 1 [.iface Tt pt] (by simp [Act.eval]) rfl (World.news_of_block (by have := Blk.new (wr.alloc (.cells #[.slice (some ⟨rB, 0, none⟩) 1 rc, .slice ha g.hvs.length hc, .iface Tq pq] 215)) #[.iface Tt pt] 72; rwa [size_alloc] at this)) (by intro u hu; simp at hu; subst hu; rfl) (by decide) (by unfold maxLen; omega) (by omega) hbase _ rfl ?_))
            intro g2 cap2 w5 hown5 hgrow5 hat5 hlt5
            rw [← htv] at hown5
            obtain ⟨own', H5⟩ := H.out.snoc hlt2 t hb2 (((show TreeOk w ok t from HK.out).keep (keeps_below hM2.below)).mono (fun x _ hx => ⟨Or.inl hx, fun e => by have := (hM.out.lt x e).1; have := hok x hx; omega⟩)) (fun u => by rw [← HG.out, HT.out]; simp) (by rw [← HG.out, HT.out]; simp) hown5 hgrow5 (ov' := .slice (some ⟨g2, 0, none⟩) (us.length + 1) cap2) (by rcases hat5 with h | h <;> simp_all [Value.ownBlock])
            have HH : Hid _ := H5
            clear hM hM2 H5 hown5 hgrow5 hat5 H k1 hbW hb2 hc0 hc1 hc2 hct
            go_wp2_with fail
            go_roundw
            case rel => exact ⟨m + 1, us ++ [t], own', some ⟨g2, 0, none⟩, cap2, by omega, by go_num, by simp, by simpa using HH⟩
            case measure => simp [intOf]; omega
          · have h1' : ¬ (g.rows.length : Int) = 1 := by omega
            obtain ⟨W, hW⟩ : ∃ W, W = wr.alloc (.cells #[.slice ra g.rows.length rc, .slice ha g.hvs.length hc, .iface Tq pq] 215) := ⟨_, rfl⟩
            obtain ⟨B, hB⟩ : ∃ B, B = wr.heap.size := ⟨_, rfl⟩
            have hM1 := hM.keep hbW
            rw [← hW] at k1 hbW hM1
            rw [← hB] at k1
            have hWw : Below w.heap.size w W := hM1.below
            have hBW : B < W.heap.size := k1.lt
            have hovW : ∀ x, (Value.slice ua us.length uc).ownBlock = some x → w.heap.size ≤ x ∧ x < W.heap.size := fun x hx => hM1.out.lt x hx
            have hheads := hM1.heads m g hj
            rw [hha] at hheads
            have HA : Hid (∀ w', Below W.heap.size W w' → Calls Tryz.prog 129 #[.slice ha g.hvs.length hc] w' fun e w'' => ∃ fn caps, e = .returned (.func (.func fn) #[] caps) ∧ SetOk w'' (fun _ => True) (.func (.func fn) #[] caps) (anyV g.heads) ∧ Below w'.heap.size w' w'') := by
              intro w' hw'
              have hlen2 : g.heads.length = g.hvs.length := by rw [hgok.len, hgok.hlen]
              have hSs : SetsOk w' (fun _ => True) (.slice ha g.hvs.length hc) g.heads := by
                refine ⟨g.hvs, w.heap.size, ?_, fun _ _ => trivial, fun i S hi => ?_⟩
                · rw [hlen2]; exact ownsRow_keep hheads hw'
                · obtain ⟨x, hx, hs⟩ := hgok.sets i S hi
                  exact ⟨x, hx, (hs.keep (keeps_below (hWw.trans (hw'.mono hWw.size)))).mono (fun _ _ _ => trivial)⟩
              refine (anyOf_any _ g.heads w' _ hSs).mono ?_
              rintro e w'' ⟨v, rfl, hs, hb⟩
              obtain ⟨fn, caps, rfl⟩ := hs.notAgg
              exact ⟨fn, caps, rfl, hs.mono (fun _ _ _ => trivial), hb⟩
            have HB : Hid (∀ w' v', Below W.heap.size W w' → SetOk w' (fun _ => True) v' (anyV g.heads) → Calls Tryz.prog 105 #[v'] w' fun e w'' => ∃ r T p, e = .returned (.iface T p) ∧ r.v = .iface T p ∧ TreeOk w'' (Apart ok w.heap.size (.slice ua us.length uc)) r ∧ r.L = Wbytes (anyV g.heads) ∧ r.n = 1 ∧ Below w'.heap.size w' w'') := by
              intro w' v' hw' hs
              refine (bytes_any v' _ w' _ hs (hl.keep (hWw.trans (hw'.mono hWw.size)))).mono ?_
              rintro e w'' ⟨r, rfl, hrok, hrL, hrn, hb⟩
              obtain ⟨T, p, hv⟩ := hrok.shape
              refine ⟨r, T, p, congrArg Ending.returned hv, hv, hrok.mono (fun x _ hx => ⟨Or.inr (by have := hWw.size; have := hw'.size; omega), fun e => ?_⟩), hrL, hrn, hb⟩
              have := (hovW x e).2
              have := hw'.size
              omega
            have hrestn : g.rest.n ≤ 1000000 := by
              have h3 := hgok.bound (fun x hx => (hS.trees x (by have := (HS.out.mem x).1 (Or.inr ⟨g, List.mem_of_getElem? hj, hx⟩); rwa [List.take_of_length_le (Nat.le_refl _)] at this)).pos) h1
              have h4 : ∀ (l : List Grp) (x : Grp), x ∈ l → (x.rows.map (·.n)).sum ≤ (l.map fun g => (g.rows.map (·.n)).sum).sum := by
                intro l
                induction l with
                | nil => intro x h; cases h
                | cons y r ih =>
                  intro x h
                  rcases List.mem_cons.1 h with rfl | h
                  · simp
                  · have := ih x h; simp; omega
              have h5 := h4 gs g (List.mem_of_getElem? hj)
              have h6 := HS.out.sum
              rw [List.take_of_length_le (Nat.le_refl _)] at h6
              omega
            have hbnd := hgok.bound (fun x hx => (hS.trees x (by have := (HS.out.mem x).1 (Or.inr ⟨g, List.mem_of_getElem? hj, hx⟩); rwa [List.take_of_length_le (Nat.le_refl _)] at this)).pos) h1
            have hrestn' : 1 + g.rest.n ≤ 1000000 := by
              have h4 : ∀ (l : List Grp) (x : Grp), x ∈ l → (x.rows.map (·.n)).sum ≤ (l.map fun g => (g.rows.map (·.n)).sum).sum := by
                intro l
                induction l with
                | nil => intro x h; cases h
                | cons y r ih =>
                  intro x h
                  rcases List.mem_cons.1 h with rfl | h
                  · simp
                  · have := ih x h; simp; omega
              have h5 := h4 gs g (List.mem_of_getElem? hj)
              have h6 := HS.out.sum
              rw [List.take_of_length_le (Nat.le_refl _)] at h6
              omega
            have HT : Hid (∀ w' r T p, Below W.heap.size W w' → r.v = .iface T p → TreeOk w' (Apart ok w.heap.size (.slice ua us.length uc)) r → r.L = Wbytes (anyV g.heads) → r.n = 1 → Calls Tryz.prog 119 #[.iface T p, .iface Tq pq] w' fun e w'' => ∃ q T p, e = .returned (.iface T p) ∧ q.v = .iface T p ∧ TreeOk w'' (Apart ok w.heap.size (.slice ua us.length uc)) q ∧ q.L = Wcat (Wbytes (anyV g.heads)) g.rest.L ∧ q.n ≤ 1 + g.rest.n ∧ Below w'.heap.size w' w'') := by
              intro w' r T p hw' hv hrok hrL hrn
              have hth := then_any r g.rest w' (Apart ok w.heap.size (.slice ua us.length uc)) hrok ((hgok.rest.keep (keeps_below (hWw.trans (hw'.mono hWw.size)))).mono (fun x _ hx => ⟨Or.inl hx, fun e => by have := (hovW x e).1; have := hok x hx; omega⟩)) (by omega)
              rw [hv, hqv] at hth
              refine hth.mono ?_
              rintro e w'' ⟨q, rfl, hqok, hqL, hqn, hb⟩
              obtain ⟨T, p, hv⟩ := hqok.shape
              exact ⟨q, T, p, congrArg Ending.returned hv, hv, hqok, by rw [hqL, hrL], by omega, hb⟩
            have HW : Hid _ := hgok.words
            have HG : Hid _ := hg
            have HM : Hid _ := hM
            have HBN : Hid _ := hbnd
            clear hcs hgl hra hha h1 hg hM1 hgok hheads hbnd hrestn hrestn' hM
            go_wp2_with fail
            rw [← hW, ← hB]
            clear hW hB
            have kc1 : W.cell? ⟨B, 1, none⟩ = some (.slice ha g.hvs.length hc) := k1.cell 1
            have kc2 : W.cell? ⟨B, 2, none⟩ = some (.iface Tq pq) := k1.cell 2
            clear hc0 hc1 hc2
            have hb0 : Below W.heap.size W W := Below.refl _ _
            go_region_law (first
              | (refine step_append_lies _ rfl (.tmp 80) (.tmp 88) 34 rfl w.heap.size 72 i1 .nilIface 1 16 Tryz.underlying34 hi1 hi10 hi11 hi12 rfl (by decide) (.slice ua us.length uc) us.length (us.map (·.v)) (by simp [Act.eval]) (by exact hrow5) ⟨w5.heap.size, 0, none⟩ 1 1 [.iface Tz pz] (by simp [Act.eval]) rfl (by exact World.news_of_block (Blk.new w5 #[.iface Tz pz] 72)) (by intro u hu; simp at hu; subst hu; rfl) (by decide) (by unfold maxLen; omega) (by omega) (by exact hbase5) _ rfl ?_; intro g2 cap2 w6 hown6 hgrow6 hat6 hlt6)
              | (go_simp; go_wp2_with (first
                | (go_at_call 119; refine (HT.out _ r4 T4 p4 (by exact ⟨hb4.os, hb4.tape, hb4.output, hb4.size, hb4.block⟩) hv4 (by exact hok4.keep ⟨Nat.le_refl _, fun _ _ _ => rfl⟩) hL4 hn4).mono ?_; rintro e w5 ⟨q, Tz, pz, rfl, hqv5, hqok, hqL, hqn, hb5'⟩; have hb5 : Below W.heap.size W w5 := ⟨hb5'.os.trans hb4.os, hb5'.tape.trans hb4.tape, hb5'.output.trans hb4.output, Nat.le_trans hb4.size hb5'.size, fun k hk => (hb5'.block k (Nat.lt_of_lt_of_le hk hb4.size)).trans (hb4.block k hk)⟩; have hrow5 : (w5.alloc (.cells #[.iface Tz pz] 72)).ownsRow w.heap.size 72 1 (.slice ua us.length uc) us.length (us.map (·.v)) := ((HM.out.keep (hbW.trans (hb5.mono hbW.size))).out).alloc _; have hbase5 : w.heap.size ≤ (w5.alloc (.cells #[.iface Tz pz] 72)).heap.size := by (have := hWw.size; have := hb5.size; simp; omega))
                | (go_at_call 105; refine (HB.out _ _ (by exact ⟨hb3.os, hb3.tape, hb3.output, hb3.size, hb3.block⟩) (by exact hs3.keep ⟨Nat.le_refl _, fun _ _ _ => rfl⟩)).mono ?_; rintro e w4 ⟨r4, T4, p4, rfl, hv4, hok4, hL4, hn4, hb4'⟩; have hb4 : Below W.heap.size W w4 := ⟨hb4'.os.trans hb3.os, hb4'.tape.trans hb3.tape, hb4'.output.trans hb3.output, Nat.le_trans hb3.size hb4'.size, fun k hk => (hb4'.block k (Nat.lt_of_lt_of_le hk hb3.size)).trans (hb3.block k hk)⟩; have kc4 : w4.cell? ⟨B, 2, none⟩ = some (.iface Tq pq) := Blk.cell (w := w4) (b := B) (t := 215) (c := #[.slice ra g.rows.length rc, .slice ha g.hvs.length hc, .iface Tq pq]) ((hb4.block B hBW).trans k1) 2)
                | (go_at_call 129; refine (HA.out _ (by exact ⟨hb0.os, hb0.tape, hb0.output, hb0.size, hb0.block⟩)).mono ?_; rintro e w3 ⟨fn3, caps3, rfl, hs3, hb3'⟩; have hb3 : Below W.heap.size W w3 := ⟨hb3'.os, hb3'.tape, hb3'.output, hb3'.size, fun k hk => hb3'.block k hk⟩; have kc3 : w3.cell? ⟨B, 2, none⟩ = some (.iface Tq pq) := Blk.cell (w := w3) (b := B) (t := 215) (c := #[.slice ra g.rows.length rc, .slice ha g.hvs.length hc, .iface Tq pq]) ((hb3.block B hBW).trans k1) 2))))
            all_goals
              rw [← hqv5] at hown6
              obtain ⟨own', H5⟩ := H.out.snoc hlt2 q ((hbW.trans (hb5.mono hbW.size)).alloc (by have := hb5.size; have := hbW.size; omega) _) (hqok.keep (keeps_below ((Below.refl _ _).alloc (Nat.le_refl _) _))) (fun u => by rw [hqL, ← HG.out]; exact (HW.out u).symm) (by rw [← HG.out]; have := HBN.out; omega) hown6 ⟨hgrow6.os, hgrow6.tape, hgrow6.output, hgrow6.size, hgrow6.block⟩ (ov' := .slice (some ⟨g2, 0, none⟩) (us.length + 1) cap2) (by
                rcases hat6 with h | h
                · left; rw [h]; rfl
                · right; rw [h]; simp [Value.ownBlock])
              have HH : Hid _ := H5
              clear H5 hown6 hgrow6 hat6 H k1 hbW HA HB HT HM hrow5 hbase5 hok4 hqok hs3 hl kc1 kc2 hb0
              go_wp2_with fail
              go_roundw
              · exact ⟨m + 1, us ++ [q], own', some ⟨g2, 0, none⟩, cap2, by omega, by go_num, by simp, by simpa using HH⟩
              · simp [intOf]; omega
        · obtain rfl : m = gs.length := by omega
          have HE : Hid _ := H.out
          go_wp2_with fail
          go_ret
          have hH := HE.out
          refine ⟨_, us, rfl, hH.mem.out, hH.trees, fun u => ?_, ?_, ?_, hH.mem.below⟩
          · rw [hH.words u, List.take_of_length_le (Nat.le_refl _)]
            constructor
            · rintro (⟨t, ht, hu⟩ | ⟨g, hg, t, ht, hu⟩)
              · exact ⟨t, by have := (HS.out.mem t).1 (Or.inl ht); rwa [List.take_of_length_le (Nat.le_refl _)] at this, hu⟩
              · exact ⟨t, by have := (HS.out.mem t).1 (Or.inr ⟨g, hg, ht⟩); rwa [List.take_of_length_le (Nat.le_refl _)] at this, hu⟩
            · rintro ⟨t, ht, hu⟩
              rcases (HS.out.mem t).2 (by rw [List.take_of_length_le (Nat.le_refl _)]; exact ht) with h | ⟨g, hg, h⟩
              · exact Or.inl ⟨t, h, hu⟩
              · exact Or.inr ⟨g, hg, t, h, hu⟩
          · have h1 := hH.sum
            have h2 := HS.out.sum
            rw [List.take_of_length_le (Nat.le_refl _)] at h1 h2
            omega
          · have h1 := hH.len
            omega
end Go.Proofs.YtkoaeojdlanolaaGreatDoor
