/-
  PROVED: DeviceLasts answers true at every input, and leaves its arguments as they were. No condition.
-/
import Derived.Test.YtncenfgnhamdbaaDevLasts
import Derived.Test.YtncenfgnhamdbaaShell8
namespace Go.Proofs.Ytncenfgnhamdbaa
open Go.RowKit Go.ChangeShapes Go.WideShapes Go.ChangeAt

theorem lasts8Params : ∀ t ∈ Try.f4.params.toList, Try.prog.readableRec t = true ∧ t < Try.prog.types.size := by
  rw [Try.params4]
  intro t ht
  simp at ht
  rcases ht with rfl | rfl <;> exact ⟨by kernel_rfl, of_decide_eq_true (by kernel_rfl)⟩

theorem lasts8Contract (H : Type) (enc : TypeId × Value → H) (W : World) (base : Nat) (args : Array Value) (ds gs : List (DataW H)) (before : List MemPlace)
    (hval : ∀ (j : Nat) t v, Try.f4.params[j]? = some t → args[j]? = some v → Value.okWide Try.prog W .any base t v)
    (hW : DataW.Whole enc Try.prog Try.f4.params.toList Rows.deviceLastsSpec.vars false W args.toList ds gs before) :
    Calls Try.prog 4 args W fun e W' => ∃ v, e = .returned v ∧ Rows.deviceLastsSpec.post enc Try.prog Try.f4 false true false false W args v W' := by
  have hWk := hW
  obtain ⟨p, q, hA, hV, rfl, _, _⟩ := hW
  rw [Try.params4] at hA hval
  obtain ⟨v0, vs0, d0, ds0, p0, q0, hargs, rfl, rfl, h0, r0⟩ := trodAll_cons hA
  obtain ⟨v1, vs1, d1, ds1, p1, q1, rfl, rfl, rfl, h1, r1⟩ := trodAll_cons r0
  obtain ⟨v2, vs2, d2, ds2, p2, q2, rfl, rfl, rfl, h2, r2⟩ := trodAll_cons r1
  obtain ⟨rfl, rfl, rfl⟩ := trodAll_nil r2
  obtain rfl : args = #[v0, v1, v2] := by cases args; simp_all
  obtain ⟨A0, l0, n0, c0, rfl, e0, b0, m0, g0⟩ := open_rows (hval 0 39 v0 rfl rfl) h0
  obtain ⟨A1, l1, n1, c1, rfl, e1, b1, m1, g1⟩ := open_rows (hval 1 39 v1 rfl rfl) h1
  obtain ⟨A2, l2, c2, rfl, b2, m2, g2⟩ := open_bytes Try.underlying31 Try.underlying5 cellsU8 (hval 2 31 v2 rfl rfl) h2
  obtain ⟨rfl, rfl⟩ := trodVars_none hV
  refine (lasts_walk A0 A1 A2 l0 l1 l2 n0 n1 l2.length c0 c1 c2 W e0 e1 rfl g0 g1 g2).mono fun e W' ⟨he, hk⟩ => ?_
  exact ⟨_, he, law_post laidOut lasts8Params (by kernel_rfl) Try.underlying4 rfl rfl hWk (Keep.below hk (Nat.le_refl _) fun _ _ h => h)⟩

set_option maxRecDepth 100000 in
theorem lasts8Lifted (os : Os) (started : os.Started) (H : Type) (enc : TypeId × Value → H) :
    ReturnsInHanded {} Try.checked os 4 .any (Rows.deviceLastsSpec.pre6 enc Try.prog Try.f4 Rows.deviceLastsRow.domain false) (Rows.deviceLastsSpec.post enc Try.prog Try.f4 false true false false) := by
  refine returnsInHanded_of_change_sized (C := Try.checked) own started (by kernel_rfl) Try.func4
    (ChangeSpec.witness6 (enc := enc) (C := Try.checked) false ⟨#[], #[.slice none 0 0, .slice none 0 0, .slice none 0 0], []⟩ 8 (by kernel_rfl) (by kernel_rfl) (by kernel_rfl) (by kernel_rfl)) ?_
  intro W base args ds gs before hval hW _ _ _
  exact lasts8Contract H enc W base args ds gs before hval hW
theorem lasts8_said : Rows.DeviceLastsSaid :=
  OpenClaim.holds_of_wide 4 Try.f4 rfl rfl rfl rfl rfl rfl rfl ⟨rfl, rfl, rfl, rfl, rfl⟩ rfl rfl rfl rfl rfl (by kernel_rfl) Try.func4 (by kernel_rfl)
    (of_decide_eq_true (by kernel_rfl)) (by unfold Func.isWrapper; first | (rw [if_pos (by decide +kernel)]; kernel_rfl) | (rw [if_neg (by decide +kernel)]; exact ⟨rfl, rfl⟩))
    (fun os started H enc _ => lasts8Lifted os started H enc)
#print axioms lasts8_said
end Go.Proofs.Ytncenfgnhamdbaa
