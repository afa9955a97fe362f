/-
  PROVED: EntryStreams answers true at every input, and leaves its arguments as they were. Conditions: the row's own, that package check's table holds what its text says; the card ties that to the text.
-/
import Derived.Test.YtklpebfkgdklmabDoorStreams
import Derived.Test.YtklpebfkgdklmabDoorShellS
namespace Go.Proofs.YtklpebfkgdklmabDoor
open Go.RowKit Go.ChangeShapes Go.WideShapes Go.ChangeAt

theorem streamsParams : ∀ t ∈ Tryd.f4.params.toList, Tryd.prog.readableRec t = true ∧ t < Tryd.prog.types.size := by
  rw [Tryd.params4]
  intro t ht
  simp at ht
  rcases ht with rfl | rfl <;> exact ⟨by kernel_rfl, of_decide_eq_true (by kernel_rfl)⟩

theorem streamsTable {W : World} (h : laidMetH Tryd.prog Rows.entryStreamsRow.laid W) : Tab W := by
  have t : Lib.TabIs Tryd.prog W "tideline/check.four" .u32 tabInts := Lib.tabIs_of_head (rest := []) gTab gTabType Tryd.underlying83 Tryd.underlying75 cellsU32 cellsTab h
  intro i hi
  rw [← tabInts_at i hi]
  exact t.cell gTab i (by simpa [tabInts] using hi)

theorem streamsContract (H : Type) (enc : TypeId × Value → H) (W : World) (base : Nat) (args : Array Value) (ds gs : List (DataW H)) (before : List MemPlace)
    (hval : ∀ (j : Nat) t v, Tryd.f4.params[j]? = some t → args[j]? = some v → Value.okWide Tryd.prog W .any base t v)
    (hW : DataW.Whole enc Tryd.prog Tryd.f4.params.toList Rows.entryStreamsSpec.vars false W args.toList ds gs before) (hL : laidMetH Tryd.prog Rows.entryStreamsRow.laid W) :
    Calls Tryd.prog 4 args W fun e W' => ∃ v, e = .returned v ∧ Rows.entryStreamsSpec.post enc Tryd.prog Tryd.f4 false true false false W args v W' := by
  have hWk := hW
  obtain ⟨p, q, hA, hV, rfl, _, _⟩ := hW
  rw [Tryd.params4] at hA hval
  obtain ⟨v0, vs0, d0, ds0, p0, q0, hargs, rfl, rfl, h0, r0⟩ := trodAll_cons hA
  obtain ⟨v1, vs1, d1, ds1, p1, q1, rfl, rfl, rfl, h1, r1⟩ := trodAll_cons r0
  obtain ⟨rfl, rfl, rfl⟩ := trodAll_nil r1
  obtain rfl : args = #[v0, v1] := by cases args; simp_all
  obtain ⟨A0, n0, c0, x0, rfl, e0, g0⟩ := open_nums Tryd.underlying37 Tryd.underlying3 cellsInt (hval 0 37 v0 rfl rfl) h0
  obtain ⟨x1, rfl, rfl, rfl, w1⟩ := open_int Tryd.underlying3 (hval 1 3 v1 rfl rfl) h1
  obtain ⟨rfl, rfl⟩ := trodVars_none hV
  refine (streams_walk A0 n0 c0 x0 x1 W (streamsTable hL) e0 g0).mono fun e W' ⟨he, hk⟩ => ?_
  exact ⟨_, he, law_post laidOut streamsParams (by kernel_rfl) Tryd.underlying4 rfl rfl hWk (Keep.below hk (Nat.le_refl _) fun _ _ h => h)⟩

theorem streamsLaid (os : Os) : laidMet Tryd.prog Rows.entryStreamsRow.laid ((laidWorld os).forCall (fun _ _ => 0) ⟨#[], #[.slice none 0 0, .int .i64 0], []⟩).memory :=
  laidMet_of_run' 8 (by kernel_rfl) (by kernel_rfl)
theorem streamsReads (os : Os) {H : Type} (enc : TypeId × Value → H) : ∃ places, DataW.whole enc Tryd.prog ((laidWorld os).forCall (fun _ _ => 0) ⟨#[], #[.slice none 0 0, .int .i64 0], []⟩).memory Tryd.f4.params.toList Rows.entryStreamsSpec.vars false #[Value.slice none 0 0, .int .i64 0].toList 8 = some ([.nil, .lit (.int .i64 0)], [], places) :=
  ⟨[], by kernel_rfl⟩
set_option maxRecDepth 100000 in
theorem streamsLifted (os : Os) (started : os.Started) (H : Type) (enc : TypeId × Value → H) (F : Stop.Interp) :
    ReturnsInHanded {} Tryd.checked os 4 .any ((OpenSpec.ofChange Rows.entryStreamsSpec).preRow enc Tryd.prog Tryd.f4 Rows.entryStreamsRow.domain false Rows.entryStreamsRow.laid) (((OpenSpec.ofChange Rows.entryStreamsSpec).at F).post enc Tryd.prog Tryd.f4 false true false false) := by
  obtain ⟨places, hx⟩ := streamsReads os enc
  refine returnsInHanded_of_row (C := Tryd.checked) (s := OpenSpec.ofChange Rows.entryStreamsSpec) own started (by kernel_rfl) Tryd.func4
    (witness_row_at (enc := enc) (C := Tryd.checked) false (laidWorld os) #[.slice none 0 0, .int .i64 0] rfl (by kernel_rfl) (by kernel_rfl) (by kernel_rfl)
      (OpenSpec.preRow_of_cond 8 hx (by kernel_rfl) (fun k hk => by cases hk) (by kernel_rfl) (streamsLaid os))) ?_
  intro W base args ds gs before hval hW _ _ _ hL _ _
  exact streamsContract H enc W base args ds gs before hval hW hL
theorem streamsSaid : Rows.EntryStreamsSaid :=
  OpenClaim.holds_of_cond 4 Tryd.f4 rfl rfl rfl rfl rfl rfl rfl ⟨rfl, rfl, rfl, rfl, rfl⟩ rfl rfl rfl rfl rfl (by kernel_rfl) Tryd.func4 (by kernel_rfl)
    (of_decide_eq_true (by kernel_rfl)) (by unfold Func.isWrapper; first | (rw [if_pos (by decide +kernel)]; kernel_rfl) | (rw [if_neg (by decide +kernel)]; exact ⟨rfl, rfl⟩))
    (fun os started H enc _ F => by rw [OpenClaim.pre_eq_preRow]; exact streamsLifted os started H enc F)
theorem streamsPlain (f : FuncId) (fn : Func) (hf : Tryd.pinned.checked.prog.funcNamed "tideline/tidelinelaw07.EntryStreams" = some f) (hfn : Tryd.pinned.checked.prog.funcs[f]? = some fn) :
    false = Tryd.pinned.checked.prog.looks [] ∧ ∀ (j : Nat) t, fn.params[j]? = some t → Tryd.pinned.checked.prog.wantsStandIn t = false := by
  obtain rfl : f = 4 := Option.some.inj ((show Tryd.prog.funcNamed "tideline/tidelinelaw07.EntryStreams" = some 4 by kernel_rfl).symm.trans hf) |>.symm
  obtain rfl : fn = Tryd.f4 := (Option.some.inj (Tryd.func4.symm.trans hfn)).symm
  refine ⟨by kernel_rfl, fun j t ht => ?_⟩
  rw [Tryd.params4] at ht
  have hm := Array.mem_of_getElem? ht
  simp at hm
  rcases hm with rfl | rfl
  · exact (show Tryd.prog.wantsStandIn 37 = false by kernel_rfl)
  · exact (show Tryd.prog.wantsStandIn 3 = false by kernel_rfl)
/-- THE CARD. -/
theorem streams_card : Rows.EntryStreamsCardSaid :=
  Claim7.holds_tied_plain_at .later [] _ _ _ _ streamsSaid (fun _ h => by cases h) (by kernel_rfl) (fun _ h => by cases h) entryStreams_row_tie rfl ⟨rfl, rfl⟩ (by kernel_rfl) rfl streamsPlain (by kernel_rfl)
#print axioms streams_card
end Go.Proofs.YtklpebfkgdklmabDoor
