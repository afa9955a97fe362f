/-
  PROVED: CheckParts answers true at every input, and leaves its arguments as they were. Conditions: the row's own, that the package's table holds what its text says; the card ties that to the text.
-/
import Derived.Test.YtmhpnfnbjmpfcaaDoorParts
import Derived.Test.YtmhpnfnbjmpfcaaDoorShell
namespace Go.Proofs.YtmhpnfnbjmpfcaaDoor
open Go.RowKit Go.ChangeShapes Go.WideShapes Go.ChangeAt

set_option maxHeartbeats 400000 in
theorem parts_great (A1 A2 A3 : Option Addr) (n1 n2 n3 : Nat) (c1 c2 c3 : Nat) (w : World) (ht : Tab w) (d1 d2 d3 : Bool) (hd : d1 = true ∨ d2 = true ∨ d3 = true)
    (h1 : decide ((1000 : Int) < (n1 : Int)) = d1) (h2 : decide ((1000 : Int) < (n2 : Int)) = d2) (h3 : decide ((1000 : Int) < (n3 : Int)) = d3) :
    Calls Tryd.prog 5 #[.slice A1 n1 c1, .slice A2 n2 c2, .slice A3 n3 c3] w fun e w' => e = .returned (.bool true) ∧ P3 w w' := by
  have S := Lib.hid (speaks_any w ht)
  clear ht
  cases d1 <;> cases d2 <;> cases d3 <;> first
    | (simp at hd; done)
    | (clear hd
       go_enter Tryd.func5, Tryd.ntmps5
       go_wp2_with fail
       refine S.out.mono ?_
       rintro e w1 ⟨rfl, hk1⟩
       go_wp2
       go_ret
       exact ⟨rfl, hk1⟩)

theorem parts_any (A1 A2 A3 : Option Addr) (l1 l2 l3 : List UInt8) (c1 c2 c3 : Nat) (w : World) (ht : Tab w)
    (r1 : Rd w w.heap.size A1 l1) (r2 : Rd w w.heap.size A2 l2) (r3 : Rd w w.heap.size A3 l3) (q1 : l1.length ≤ c1) (q2 : l2.length ≤ c2) :
    Calls Tryd.prog 5 #[.slice A1 l1.length c1, .slice A2 l2.length c2, .slice A3 l3.length c3] w fun e w' => e = .returned (.bool true) ∧ P3 w w' := by
  by_cases h : l1.length ≤ 1000 ∧ l2.length ≤ 1000 ∧ l3.length ≤ 1000
  · exact parts_small A1 A2 A3 l1 l2 l3 c1 c2 c3 w ht r1 r2 r3 h.1 h.2.1 h.2.2 q1 q2
  · refine parts_great A1 A2 A3 _ _ _ c1 c2 c3 w ht _ _ _ ?_ rfl rfl rfl
    simp only [decide_eq_true_eq]
    omega

theorem partsTable {W : World} (h : laidMetH Tryd.prog Rows.checkPartsRow.laid W) : Tab W := by
  have t : Lib.TabIs Tryd.prog W "tideline/check.four" .u32 tabInts := Lib.tabIs_of_head (rest := []) gTab gTabType Tryd.underlying41 Tryd.underlying29 cellsU32 cellsTab h
  intro i hi
  rw [← tabInts_at i hi]
  exact t.cell gTab i (by simpa [tabInts] using hi)

theorem partsParams : ∀ t ∈ Tryd.f5.params.toList, Tryd.prog.readableRec t = true ∧ t < Tryd.prog.types.size := by
  rw [Tryd.params5]
  intro t ht
  simp at ht
  subst ht
  exact ⟨by kernel_rfl, of_decide_eq_true (by kernel_rfl)⟩

theorem partsContract (H : Type) (enc : TypeId × Value → H) (W : World) (base : Nat) (args : Array Value) (ds gs : List (DataW H)) (before : List MemPlace)
    (hval : ∀ (j : Nat) t v, Tryd.f5.params[j]? = some t → args[j]? = some v → Value.okWide Tryd.prog W .any base t v)
    (hW : DataW.Whole enc Tryd.prog Tryd.f5.params.toList Rows.checkPartsSpec.vars false W args.toList ds gs before) (hL : laidMetH Tryd.prog Rows.checkPartsRow.laid W) :
    Calls Tryd.prog 5 args W fun e W' => ∃ v, e = .returned v ∧ Rows.checkPartsSpec.post enc Tryd.prog Tryd.f5 false true false false W args v W' := by
  have hWk := hW
  obtain ⟨p, q, hA, hV, rfl, _, _⟩ := hW
  rw [Tryd.params5] at hA hval
  obtain ⟨v0, vs0, d0, ds0, p0, q0, hargs, rfl, rfl, h0, r0⟩ := trodAll_cons hA
  obtain ⟨v1, vs1, d1, ds1, p1, q1, rfl, rfl, rfl, h1, r1⟩ := trodAll_cons r0
  obtain ⟨v2, vs2, d2, ds2, p2, q2, rfl, rfl, rfl, h2, r2⟩ := trodAll_cons r1
  obtain ⟨rfl, rfl, rfl⟩ := trodAll_nil r2
  obtain rfl : args = #[v0, v1, v2] := by cases args; simp_all
  obtain ⟨A1, l1, c1, rfl, b1, _, g1⟩ := open_bytes Tryd.underlying22 Tryd.underlying5 cellsU8 (hval 0 22 v0 rfl rfl) h0
  obtain ⟨A2, l2, c2, rfl, b2, _, g2⟩ := open_bytes Tryd.underlying22 Tryd.underlying5 cellsU8 (hval 1 22 v1 rfl rfl) h1
  obtain ⟨A3, l3, c3, rfl, b3, _, g3⟩ := open_bytes Tryd.underlying22 Tryd.underlying5 cellsU8 (hval 2 22 v2 rfl rfl) h2
  obtain ⟨rfl, rfl⟩ := trodVars_none hV
  refine (parts_any A1 A2 A3 l1 l2 l3 c1 c2 c3 W (partsTable hL) g1 g2 g3 b1 b2).mono fun e W' ⟨he, hk⟩ => ?_
  exact ⟨_, he, law_post laidOut partsParams (by kernel_rfl) Tryd.underlying4 rfl rfl hWk (Keep.below hk (Nat.le_refl _) fun _ _ h => h)⟩

theorem partsLaid (os : Os) : laidMet Tryd.prog Rows.checkPartsRow.laid ((laidWorld os).forCall (fun _ _ => 0) ⟨#[], #[.slice none 0 0, .slice none 0 0, .slice none 0 0], []⟩).memory :=
  laidMet_of_run' 8 (by kernel_rfl) (by kernel_rfl)
theorem partsReads (os : Os) {H : Type} (enc : TypeId × Value → H) : ∃ places, DataW.whole enc Tryd.prog ((laidWorld os).forCall (fun _ _ => 0) ⟨#[], #[.slice none 0 0, .slice none 0 0, .slice none 0 0], []⟩).memory Tryd.f5.params.toList Rows.checkPartsSpec.vars false #[Value.slice none 0 0, .slice none 0 0, .slice none 0 0].toList 8 = some ([.nil, .nil, .nil], [], places) :=
  ⟨[], by kernel_rfl⟩
set_option maxRecDepth 100000 in
theorem partsLifted (os : Os) (started : os.Started) (H : Type) (enc : TypeId × Value → H) (F : Stop.Interp) :
    ReturnsInHanded {} Tryd.checked os 5 .any ((OpenSpec.ofChange Rows.checkPartsSpec).preRow enc Tryd.prog Tryd.f5 Rows.checkPartsRow.domain false Rows.checkPartsRow.laid) (((OpenSpec.ofChange Rows.checkPartsSpec).at F).post enc Tryd.prog Tryd.f5 false true false false) := by
  obtain ⟨places, hx⟩ := partsReads os enc
  refine returnsInHanded_of_row (C := Tryd.checked) (s := OpenSpec.ofChange Rows.checkPartsSpec) own started (by kernel_rfl) Tryd.func5
    (witness_row_at (enc := enc) (C := Tryd.checked) false (laidWorld os) #[.slice none 0 0, .slice none 0 0, .slice none 0 0] rfl (by kernel_rfl) (by kernel_rfl) (by kernel_rfl)
      (OpenSpec.preRow_of_cond 8 hx (by kernel_rfl) (fun k hk => by cases hk) (by kernel_rfl) (partsLaid os))) ?_
  intro W base args ds gs before hval hW _ _ _ hL _ _
  exact partsContract H enc W base args ds gs before hval hW hL
theorem partsSaid : Rows.CheckPartsSaid :=
  OpenClaim.holds_of_cond 5 Tryd.f5 rfl rfl rfl rfl rfl rfl rfl ⟨rfl, rfl, rfl, rfl, rfl⟩ rfl rfl rfl rfl rfl (by kernel_rfl) Tryd.func5 (by kernel_rfl)
    (of_decide_eq_true (by kernel_rfl)) (by unfold Func.isWrapper; first | (rw [if_pos (by decide +kernel)]; kernel_rfl) | (rw [if_neg (by decide +kernel)]; exact ⟨rfl, rfl⟩))
    (fun os started H enc _ F => by rw [OpenClaim.pre_eq_preRow]; exact partsLifted os started H enc F)
theorem partsPlain (f : FuncId) (fn : Func) (hf : Tryd.pinned.checked.prog.funcNamed "tideline/tidelinelaw02.CheckParts" = some f) (hfn : Tryd.pinned.checked.prog.funcs[f]? = some fn) :
    false = Tryd.pinned.checked.prog.looks [] ∧ ∀ (j : Nat) t, fn.params[j]? = some t → Tryd.pinned.checked.prog.wantsStandIn t = false := by
  obtain rfl : f = 5 := Option.some.inj ((show Tryd.prog.funcNamed "tideline/tidelinelaw02.CheckParts" = some 5 by kernel_rfl).symm.trans hf) |>.symm
  obtain rfl : fn = Tryd.f5 := (Option.some.inj (Tryd.func5.symm.trans hfn)).symm
  refine ⟨by kernel_rfl, fun j t ht => ?_⟩
  rw [Tryd.params5] at ht
  obtain rfl : t = 22 := by simpa using Array.mem_of_getElem? ht
  exact (show Tryd.prog.wantsStandIn 22 = false by kernel_rfl)
/-- THE CARD. -/
theorem parts_card : Rows.CheckPartsCardSaid :=
  Claim7.holds_tied_plain_at .later [] _ _ _ _ partsSaid (fun _ h => by cases h) (by kernel_rfl) (fun _ h => by cases h) checkParts_row_tie rfl ⟨rfl, rfl⟩ (by kernel_rfl) rfl partsPlain (by kernel_rfl)
#print axioms parts_card
end Go.Proofs.YtmhpnfnbjmpfcaaDoor
