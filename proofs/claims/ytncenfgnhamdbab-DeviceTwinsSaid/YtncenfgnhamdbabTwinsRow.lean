/-
  PROVED: DeviceTwins answers true at every input, and leaves its arguments as they were. No condition.
-/
import Derived.Test.YtncenfgnhamdbabDevTwins
import Derived.Test.YtncenfgnhamdbabShell8
namespace Go.Proofs.Ytncenfgnhamdbab
open Go.RowKit Go.ChangeShapes Go.WideShapes Go.ChangeAt

theorem twins8Params : ∀ t ∈ Try.f4.params.toList, Try.prog.readableRec t = true ∧ t < Try.prog.types.size := by
  rw [Try.params4]
  intro t ht
  simp at ht
  subst ht; exact ⟨by kernel_rfl, of_decide_eq_true (by kernel_rfl)⟩

theorem twins8Contract (H : Type) (enc : TypeId × Value → H) (W : World) (base : Nat) (args : Array Value) (ds gs : List (DataW H)) (before : List MemPlace)
    (hval : ∀ (j : Nat) t v, Try.f4.params[j]? = some t → args[j]? = some v → Value.okWide Try.prog W .any base t v)
    (hW : DataW.Whole enc Try.prog Try.f4.params.toList Rows.deviceTwinsSpec.vars false W args.toList ds gs before) :
    Calls Try.prog 4 args W fun e W' => ∃ v, e = .returned v ∧ Rows.deviceTwinsSpec.post enc Try.prog Try.f4 false true false false W args v W' := by
  have hWk := hW
  obtain ⟨p, q, hA, hV, rfl, _, _⟩ := hW
  rw [Try.params4] at hA hval
  obtain ⟨v0, vs0, d0, ds0, p0, q0, hargs, rfl, rfl, h0, r0⟩ := trodAll_cons hA
  obtain ⟨v1, vs1, d1, ds1, p1, q1, rfl, rfl, rfl, h1, r1⟩ := trodAll_cons r0
  obtain ⟨rfl, rfl, rfl⟩ := trodAll_nil r1
  obtain rfl : args = #[v0, v1] := by cases args; simp_all
  obtain ⟨A0, l0, n0, c0, rfl, e0, b0, m0, g0⟩ := open_rows (hval 0 30 v0 rfl rfl) h0
  obtain ⟨A1, l1, n1, c1, rfl, e1, b1, m1, g1⟩ := open_rows (hval 1 30 v1 rfl rfl) h1
  obtain ⟨rfl, rfl⟩ := trodVars_none hV
  refine (twins_walk A0 A1 l0 l1 n0 n1 c0 c1 W e0 e1 g0 g1).mono fun e W' ⟨he, hk⟩ => ?_
  exact ⟨_, he, law_post laidOut twins8Params (by kernel_rfl) Try.underlying4 rfl rfl hWk (Keep.below hk (Nat.le_refl _) fun _ _ h => h)⟩

set_option maxRecDepth 100000 in
theorem twins8Lifted (os : Os) (started : os.Started) (H : Type) (enc : TypeId × Value → H) :
    ReturnsInHanded {} Try.checked os 4 .any (Rows.deviceTwinsSpec.pre6 enc Try.prog Try.f4 Rows.deviceTwinsRow.domain false) (Rows.deviceTwinsSpec.post enc Try.prog Try.f4 false true false false) := by
  refine returnsInHanded_of_change_sized (C := Try.checked) own started (by kernel_rfl) Try.func4
    (ChangeSpec.witness6 (enc := enc) (C := Try.checked) false ⟨#[], #[.slice none 0 0, .slice none 0 0], []⟩ 8 (by kernel_rfl) (by kernel_rfl) (by kernel_rfl) (by kernel_rfl)) ?_
  intro W base args ds gs before hval hW _ _ _
  exact twins8Contract H enc W base args ds gs before hval hW
theorem twins8_said : Rows.DeviceTwinsSaid :=
  OpenClaim.holds_of_wide 4 Try.f4 rfl rfl rfl rfl rfl rfl rfl ⟨rfl, rfl, rfl, rfl, rfl⟩ rfl rfl rfl rfl rfl (by kernel_rfl) Try.func4 (by kernel_rfl)
    (of_decide_eq_true (by kernel_rfl)) (by unfold Func.isWrapper; first | (rw [if_pos (by decide +kernel)]; kernel_rfl) | (rw [if_neg (by decide +kernel)]; exact ⟨rfl, rfl⟩))
    (fun os started H enc _ => twins8Lifted os started H enc)
#print axioms twins8_said
end Go.Proofs.Ytncenfgnhamdbab
