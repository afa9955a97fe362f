/-
  PROVED: TreeErrors answers true at every input, and leaves its arguments as they were. Conditions: the row's own, that two tables of Go's library hold what their texts say; the card ties that to the text.
-/
import Derived.Test.YtlpjbgplimlcaaaGreatDoorRight
import Derived.Test.YtlpjbgplimlcaaaGreatDoorShell4
import Derived.ChangeMaps5
namespace Go.Proofs.YtlpjbgplimlcaaaGreatDoor
open Go.RowKit Go.ChangeShapes Go.WideShapes Go.ChangeAt Go.ChangeMaps

theorem errorsParams : ∀ t ∈ Tryz.f4.params.toList, Tryz.prog.readableRec t = true ∧ t < Tryz.prog.types.size := by
  rw [Tryz.params4]
  intro t ht
  simp at ht
  subst ht
  exact ⟨by kernel_rfl, of_decide_eq_true (by kernel_rfl)⟩

set_option maxRecDepth 100000 in
theorem errorsContract (H : Type) (enc : TypeId × Value → H) (W : World) (base : Nat) (args : Array Value) (ds gs : List (DataW H)) (before : List MemPlace)
    (hval : ∀ (j : Nat) t v, Tryz.f4.params[j]? = some t → args[j]? = some v → Value.okWide Tryz.prog W .any base t v)
    (hW : DataW.Whole enc Tryz.prog Tryz.f4.params.toList Rows.treeErrorsSpec.vars false W args.toList ds gs before) (hsh : W.ShapedOpen Tryz.prog) :
    Calls Tryz.prog 4 args W fun e W' => ∃ v, e = .returned v ∧ Rows.treeErrorsSpec.post enc Tryz.prog Tryz.f4 false true false false W args v W' := by
  have hWk := hW
  obtain ⟨p, q, hA, hV, rfl, _, _⟩ := hW
  rw [Tryz.params4] at hA hval
  obtain ⟨v0, vs0, d0, ds0, p0, q0, hargs, rfl, rfl, h0, r0⟩ := trodAll_cons hA
  obtain ⟨rfl, rfl, rfl⟩ := trodAll_nil r0
  obtain rfl : args = #[v0] := by cases args; simp_all
  obtain ⟨A0, cs0, n0, c0, rfl, e0, b0, m0, g0⟩ := open_calls (hval 0 22 v0 rfl rfl) h0
  obtain ⟨rfl, rfl⟩ := trodVars_none hV
  refine (errors_walk rights A0 cs0 n0 c0 W (env_of hsh) e0 g0).mono fun e W' ⟨he, hk⟩ => ?_
  exact ⟨_, he, law_post laidOut errorsParams (by kernel_rfl) Tryz.underlying4 rfl rfl hWk (KF.below hk)⟩

theorem errorsLaid (os : Os) : laidMet Tryz.prog Rows.treeErrorsRow.laid ((laidWorld os).forCall (fun _ _ => 0) ⟨#[], #[.slice none 0 0], []⟩).memory :=
  laidMet_of_run' 8 (by kernel_rfl) (by kernel_rfl)
theorem errorsReads (os : Os) {H : Type} (enc : TypeId × Value → H) : ∃ places, DataW.whole enc Tryz.prog ((laidWorld os).forCall (fun _ _ => 0) ⟨#[], #[.slice none 0 0], []⟩).memory Tryz.f4.params.toList Rows.treeErrorsSpec.vars false #[Value.slice none 0 0].toList 8 = some ([.nil], [], places) :=
  ⟨[], by kernel_rfl⟩
set_option maxRecDepth 100000 in
theorem errorsLifted (os : Os) (started : os.Started) (H : Type) (enc : TypeId × Value → H) (F : Stop.Interp) :
    ReturnsInHanded {} Tryz.checked os 4 .any ((OpenSpec.ofChange Rows.treeErrorsSpec).preRow enc Tryz.prog Tryz.f4 Rows.treeErrorsRow.domain false Rows.treeErrorsRow.laid) (((OpenSpec.ofChange Rows.treeErrorsSpec).at F).post enc Tryz.prog Tryz.f4 false true false false) := by
  obtain ⟨places, hx⟩ := errorsReads os enc
  refine returnsInHanded_of_row (C := Tryz.checked) (s := (OpenSpec.ofChange Rows.treeErrorsSpec)) own started (by kernel_rfl) Tryz.func4
    (witness_row_at (enc := enc) (C := Tryz.checked) false (laidWorld os) #[.slice none 0 0] rfl (by kernel_rfl) (by kernel_rfl) (by kernel_rfl)
      (OpenSpec.preRow_of_cond 8 hx (by kernel_rfl) (fun k hk => by cases hk) (by kernel_rfl) (errorsLaid os))) ?_
  intro W base args ds gs before hval hW _ _ _ _ hsh _
  exact errorsContract H enc W base args ds gs before hval hW hsh
theorem errorsSaid : Rows.TreeErrorsSaid :=
  OpenClaim.holds_of_cond 4 Tryz.f4 rfl rfl rfl rfl rfl rfl rfl ⟨rfl, rfl, rfl, rfl, rfl⟩ rfl rfl rfl rfl rfl (by kernel_rfl) Tryz.func4 (by kernel_rfl)
    (of_decide_eq_true (by kernel_rfl)) (by unfold Func.isWrapper; first | (rw [if_pos (by decide +kernel)]; kernel_rfl) | (rw [if_neg (by decide +kernel)]; exact ⟨rfl, rfl⟩))
    (fun os started H enc _ F => by rw [OpenClaim.pre_eq_preRow]; exact errorsLifted os started H enc F)
theorem errorsPlain (f : FuncId) (fn : Func) (hf : Tryz.pinned.checked.prog.funcNamed "tideline/tidelinelaw04.TreeErrors" = some f) (hfn : Tryz.pinned.checked.prog.funcs[f]? = some fn) :
    false = Tryz.pinned.checked.prog.looks [] ∧ ∀ (j : Nat) t, fn.params[j]? = some t → Tryz.pinned.checked.prog.wantsStandIn t = false := by
  obtain rfl : f = 4 := Option.some.inj ((show Tryz.prog.funcNamed "tideline/tidelinelaw04.TreeErrors" = some 4 by kernel_rfl).symm.trans hf) |>.symm
  obtain rfl : fn = Tryz.f4 := (Option.some.inj (Tryz.func4.symm.trans hfn)).symm
  refine ⟨by kernel_rfl, fun j t ht => ?_⟩
  rw [Tryz.params4] at ht
  have hm := Array.mem_of_getElem? ht
  simp at hm
  subst hm
  exact (show Tryz.prog.wantsStandIn _ = false by kernel_rfl)
/-- THE CARD. -/
theorem errors_card : Rows.TreeErrorsCardSaid :=
  Claim7.holds_tied_plain_at .later [] _ _ _ _ errorsSaid (fun _ h => by cases h) (by kernel_rfl) (fun _ h => by cases h) treeErrors_row_tie rfl ⟨rfl, rfl⟩ (by kernel_rfl) rfl errorsPlain (by kernel_rfl)
#print axioms errors_card
end Go.Proofs.YtlpjbgplimlcaaaGreatDoor
