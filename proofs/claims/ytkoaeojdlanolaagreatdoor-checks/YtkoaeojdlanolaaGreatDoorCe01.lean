import Derived.Test.YtkoaeojdlanolaaGreatDoorCards
import Derived.Test.YtkoaeojdlanolaaGreatDoorTie
import Derived.Test.YtkoaeojdlanolaaGreatDoorCd08
import Derived.Test.YtkoaeojdlanolaaGreatDoorCb09
import Derived.ProofKit
import Derived.OpenShut
import Derived.ShutString
import Derived.Deep.DeepHandedRow
import Derived.Lib.LaidTab
import Derived.LaidSub
/-
  THE LAW Checks: the walk, the frame, the card.
-/
namespace Go.Proofs.YtkoaeojdlanolaaGreatDoor
open Go.ChangeShapes Go.WideShapes Go.ChangeAt Go.RowKit
open Go.ChangeMaps (open_string shut_string)

theorem ownNone : ownKnob Tryz.prog.godebug = none := by kernel_rfl

/-- The numbers of a table's datum. -/
def numsOf : DataW Unit → List Int
  | .agg l => l.map fun
    | .lit (.int _ z) => z
    | _ => 0
  | _ => []
def tab32 : List Int := numsOf Rows.laid_math_bits_deBruijn32tab
def tab64 : List Int := numsOf Rows.laid_math_bits_deBruijn64tab
/-- A variable's block, with a table in it. -/
def layTab (k : IntKind) (zs : List Int) : Obj → Obj
  | .cells _ t frozen => .cells (zs.map fun z => Value.int k z).toArray t frozen
  | o => o

def nameAt (i : Nat) : String := ((Rows.checksRow.laid.drop i).map (·.1)).headD ""

theorem laid_plain (W : World) (h : laidMetH Tryz.prog Rows.checksRow.laid W) : laidMet Tryz.prog Rows.checksRow.laid W := by
  have e := (laidMetH_iff.1 h).1
  have e2 : (Rows.checksRow.laid.filter fun x => x.2.handleName?.isNone) = Rows.checksRow.laid := by kernel_rfl
  rwa [e2] at e
theorem tab64_is (W : World) (h : laidMet Tryz.prog Rows.checksRow.laid W) : Lib.TabIs Tryz.prog W (nameAt 1) .u8 tab64 := by
  have h1 := h.filter (fun x => x.1 == nameAt 1)
  have e : (Rows.checksRow.laid.filter fun x => x.1 == nameAt 1) = [(nameAt 1, Lib.tabData .u8 tab64)] := by kernel_rfl
  rw [e] at h1
  exact Lib.tabIs_of_head (g := 3) (t := 259) (e := 5) (n := 64) (by kernel_rfl) (by kernel_rfl) (by kernel_rfl) (by kernel_rfl) (by kernel_rfl) (by kernel_rfl) h1
theorem pow10_is (W : World) (h : laidMet Tryz.prog Rows.checksRow.laid W) : Lib.TabIs Tryz.prog W (nameAt 2) .u64 Lib.pow10Tab := by
  have h1 := h.filter (fun x => x.1 == nameAt 2)
  have e : (Rows.checksRow.laid.filter fun x => x.1 == nameAt 2) = [(nameAt 2, Lib.tabData .u64 Lib.pow10Tab)] := by kernel_rfl
  rw [e] at h1
  exact Lib.tabIs_of_head (g := 1) (t := 250) (e := 65) (n := 20) (by kernel_rfl) (by kernel_rfl) (by kernel_rfl) (by kernel_rfl) (by kernel_rfl) (by kernel_rfl) h1
theorem laidT_of (W : World) (h : laidMetH Tryz.prog Rows.checksRow.laid W) : LaidT W := by
  have hp := laid_plain W h
  refine ⟨⟨?_⟩, ?_⟩
  · have := (tab64_is W hp).cell (g := 3) (by kernel_rfl) 15 (by rw [show tab64.length = 64 by kernel_rfl]; decide)
    rw [this]
    have e : tab64.getD 15 0 = 4 := by kernel_rfl
    rw [e]
  · have hv := pow10_is W hp
    unfold Lib.TabIs World.var? at hv
    have hg : Tryz.prog.globalNamed (nameAt 2) = some 1 := by kernel_rfl
    rw [hg] at hv
    cases hb : W.heap[1]? with
    | none => simp [hb] at hv
    | some o =>
      cases o with
      | cells c t fr => simp [hb] at hv; exact ⟨t, fr, by rw [hv]⟩
      | _ => simp [hb] at hv

namespace checks

set_option maxHeartbeats 1000000 in
theorem walk (a0 : ByteArray) (w0 : a0.size ≤ maxLen) (w : World) (hl : LaidT w) :
    Calls Tryz.prog 3 #[.string a0] w fun e w' => e = .returned (.bool true) ∧ Below w.heap.size w w' := by
  have c1 := checkM_any a0 w w0 hl
  clear hl
  go_enter Tryz.func3, Tryz.ntmps3
  go_wp2_with fail
  refine c1.mono ?_
  rintro e w1 ⟨rfl, hb1⟩
  go_wp2_with fail
  refine (check_any a0 _ w0).mono ?_
  rintro e w2 ⟨rfl, hb2⟩
  generalize ((Munch.checkV a0).1 : Int) = a
  generalize ((Munch.checkV a0).2 : Int) = b
  go_wp2
  go_ret
  exact ⟨rfl, hb1.trans (hb2.mono hb1.size)⟩

set_option maxRecDepth 100000 in
theorem contract (H : Type) (enc : TypeId × Value → H) (W : World) (base : Nat) (args : Array Value) (ds gs : List (DataW H)) (before : List MemPlace)
    (hval0 : ∀ (j : Nat) t v, Tryz.f3.params[j]? = some t → args[j]? = some v → Value.okWide Tryz.prog W .any base t v)
    (hW : DataW.Whole enc Tryz.prog Tryz.f3.params.toList Rows.checksSpec.vars false W args.toList ds gs before) (hld : laidMetH Tryz.prog Rows.checksRow.laid W) :
    Calls Tryz.prog 3 args W fun e W' => ∃ v, e = .returned v ∧ Rows.checksSpec.post enc Tryz.prog Tryz.f3 false true false false W args v W' := by
  have hval : ∀ (j : Nat) t v, Tryz.f3.params[j]? = some t → args[j]? = some v → Value.okWide Tryz.prog W .any base t v := hval0
  have hW' := hW
  obtain ⟨p, q, hA0, hV, rfl, hfz, hnd⟩ := hW
  have hA : DataW.TrodAll enc Tryz.prog W 0 (fun _ => true) true Tryz.f3.params.toList args.toList ds p := hA0
  rw [Tryz.params3] at hA hval
  obtain ⟨v0, vs0, d0, ds0, p0, q0, hargs, rfl, rfl, h0, r0⟩ := trodAll_cons hA
  obtain ⟨rfl, rfl, rfl⟩ := trodAll_nil r0
  obtain rfl : args = #[v0] := by cases args; simp_all
  obtain ⟨rfl, rfl⟩ := trodVars_none hV
  obtain ⟨a0, rfl, rfl, rfl, w0⟩ := open_string Tryz.underlying9 (hval 0 9 v0 rfl rfl) h0
  clear hA0 hval0
  simp only [List.append_nil] at hW'
  refine (walk a0 w0 W (laidT_of W hld)).mono fun e W' ⟨he, hb⟩ => ?_
  subst he
  refine ⟨_, rfl, _, _, _, [], [], [], hW', ?_, ?_, ?_, hb.frame _, fun h => by cases h⟩
  · exact trodAll_cons_mk (shut_bool Tryz.underlying4 _) trodAll_mk0
  · exact trodAll_cons_mk (shut_string Tryz.underlying9 w0) trodAll_mk0
  · rfl

set_option maxRecDepth 100000 in
theorem laid_met (os : Os) : laidMet Tryz.prog Rows.checksRow.laid (({ World.holding Tryz.prog os ⟨#[], #[], []⟩ with heap := (((World.holding Tryz.prog os ⟨#[], #[], []⟩).heap.modify 1 (layTab .u64 Lib.pow10Tab)).modify 2 (layTab .u8 tab32)).modify 3 (layTab .u8 tab64) } : World).forCall (fun _ _ => 0) ⟨#[], #[.string ByteArray.empty], []⟩).memory :=
  laidMet_of_run' 8 (by kernel_rfl) (by kernel_rfl)
theorem reads (os : Os) {H : Type} (enc : TypeId × Value → H) : ∃ places, DataW.whole enc Tryz.prog (({ World.holding Tryz.prog os ⟨#[], #[], []⟩ with heap := (((World.holding Tryz.prog os ⟨#[], #[], []⟩).heap.modify 1 (layTab .u64 Lib.pow10Tab)).modify 2 (layTab .u8 tab32)).modify 3 (layTab .u8 tab64) } : World).forCall (fun _ _ => 0) ⟨#[], #[.string ByteArray.empty], []⟩).memory Tryz.f3.params.toList Rows.checksSpec.vars false #[Value.string ByteArray.empty].toList 8 = some ([.lit (.string [])], [], places) :=
  ⟨[], by kernel_rfl⟩

set_option maxRecDepth 100000 in
theorem lifted (os : Os) (started : os.Started) (H : Type) (enc : TypeId × Value → H) (F : Stop.Interp) :
    ReturnsInHanded {} Tryz.checked os 3 .any ((OpenSpec.ofChange Rows.checksSpec).preRow enc Tryz.prog Tryz.f3 Rows.checksRow.domain false Rows.checksRow.laid) (((OpenSpec.ofChange Rows.checksSpec).at F).post enc Tryz.prog Tryz.f3 false true false false) := by
  obtain ⟨places, hx⟩ := reads os enc
  refine returnsInHanded_of_row (C := Tryz.checked) (s := OpenSpec.ofChange Rows.checksSpec) ownNone started (by kernel_rfl) Tryz.func3
    (witness_row_at (enc := enc) (C := Tryz.checked) false ({ World.holding Tryz.prog os ⟨#[], #[], []⟩ with heap := (((World.holding Tryz.prog os ⟨#[], #[], []⟩).heap.modify 1 (layTab .u64 Lib.pow10Tab)).modify 2 (layTab .u8 tab32)).modify 3 (layTab .u8 tab64) } : World) #[.string ByteArray.empty] rfl (by kernel_rfl) (by kernel_rfl) (by kernel_rfl)
      (OpenSpec.preRow_of_cond 8 hx (by kernel_rfl) (fun k hk => by cases hk) (by kernel_rfl) (laid_met os))) ?_
  intro W base args ds gs before hval hW _ _ _ hld _ _
  exact contract H enc W base args ds gs before hval hW hld

theorem said : Rows.ChecksSaid :=
  OpenClaim.holds_of_cond 3 Tryz.f3 rfl rfl rfl rfl rfl rfl rfl ⟨rfl, rfl, rfl, rfl, rfl⟩ rfl rfl rfl rfl rfl (by kernel_rfl) Tryz.func3 (by kernel_rfl)
    (of_decide_eq_true (by kernel_rfl)) (by unfold Func.isWrapper; first | (rw [if_pos (by decide +kernel)]; kernel_rfl) | (rw [if_neg (by decide +kernel)]; exact ⟨rfl, rfl⟩))
    (fun os started H enc _ F => by rw [OpenClaim.pre_eq_preRow]; exact lifted os started H enc F)

theorem plain (f : FuncId) (fn : Func) (hf : Tryz.pinned.checked.prog.funcNamed Rows.checksRow.func = some f) (hfn : Tryz.pinned.checked.prog.funcs[f]? = some fn) :
    true = Tryz.pinned.checked.prog.looks [] ∧ ∀ (j : Nat) t, fn.params[j]? = some t → Tryz.pinned.checked.prog.wantsStandIn t = false := by
  obtain rfl : f = 3 := Option.some.inj ((show Tryz.prog.funcNamed Rows.checksRow.func = some 3 by kernel_rfl).symm.trans hf) |>.symm
  obtain rfl : fn = Tryz.f3 := (Option.some.inj (Tryz.func3.symm.trans hfn)).symm
  refine ⟨by kernel_rfl, fun j t ht => ?_⟩
  rw [Tryz.params3] at ht
  obtain rfl : t = 9 := by simpa using Array.mem_of_getElem? ht
  exact (show Tryz.prog.wantsStandIn 9 = false by kernel_rfl)

theorem card : Rows.ChecksCardSaid := by
  refine ⟨Claim7.tied_new_at .later Rows.checksCard.laidKinds Rows.checksCard.laidTests (Claim7.new_of_sixth said Rows.checksCard.stood.harness true rfl ⟨rfl, rfl⟩ (by kernel_rfl) (by kernel_rfl) plain) (by kernel_rfl), (fun D hD => by cases hD), checks_row_tie, (fun h => by cases h), by kernel_rfl⟩
end checks
theorem checks_holds : Rows.ChecksCardSaid := checks.card
#print axioms checks_holds
end Go.Proofs.YtkoaeojdlanolaaGreatDoor
