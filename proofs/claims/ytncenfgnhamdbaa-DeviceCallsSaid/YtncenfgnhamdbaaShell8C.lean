/-
  Calls to a device that came in.
-/
import Derived.Test.YtncenfgnhamdbaaShell8
import Derived.Test.YtncenfgnhamdbaaDevCallA
namespace Go.Proofs.Ytncenfgnhamdbaa
open Go.RowKit Go.ChangeShapes Go.WideShapes Go.ChangeAt
theorem cellsDCall : Try.prog.cellsOf 33 = 2 := by kernel_rfl
theorem cellsInt : Try.prog.cellsOf 3 = 1 := by kernel_rfl
theorem dcallFields : ∃ f0 f1 : Field, Try.prog.underlying 33 = some (.struct #[f0, f1]) ∧ (f0.type = 3 ∧ f0.offset = 0) ∧ (f1.type = 31 ∧ f1.offset = 1) :=
  ⟨_, _, Try.underlying33, ⟨rfl, rfl⟩, ⟨rfl, rfl⟩⟩
section
variable {H : Type} {enc : TypeId × Value → H} {W : World}
theorem dcall_in {base : Nat} {spare : Nat → Bool} {held : Bool} {fuel : Nat} {cs : List Value} {y : DataW H × List MemPlace} (h : DataW.trod enc Try.prog W base spare held fuel 33 cs = some y) :
    ∃ (x : Int × List UInt8) (A : Option Addr) (c : Nat), cs = [.int .i64 x.1, .slice A x.2.length c] ∧ x.2.length ≤ c ∧ Rd W W.heap.size A x.2 := by
  obtain ⟨f0, f1, hu, ⟨t0, o0⟩, ⟨t1, o1⟩⟩ := dcallFields
  obtain ⟨ys, n, _, _, hlen, hyl, hf⟩ := DataW.trod_struct hu h
  rw [cellsDCall] at hlen
  match cs, hlen with
  | [c0, c1], _ =>
    have g0 := hf 0 f0 rfl
    have g1 := hf 1 f1 rfl
    rw [t0, o0, cellsInt, List.getElem?_eq_getElem (by rw [hyl]; simp)] at g0
    rw [t1, o1, cellsBytes, List.getElem?_eq_getElem (by rw [hyl]; simp)] at g1
    obtain ⟨k0, e0, _, _⟩ := DataW.trod_int Try.underlying3 g0
    obtain ⟨A1, l, c, e1, h1, _, hr⟩ := bytes_in g1
    simp only [List.drop, List.take, List.cons.injEq, and_true] at e0 e1
    subst e0 e1
    exact ⟨(k0, l), A1, c, rfl, h1, hr⟩
theorem open_dcalls {base b0 : Nat} {r : Reach} {spare : Nat → Bool} {held : Bool} {v : Value} {d : DataW H} {p : List MemPlace}
    (hv : Value.okWide Try.prog W r b0 22 v) (h : DataW.Trod enc Try.prog W base spare held 22 v d p) :
    ∃ (A : Option Addr) (xs : List (Int × List UInt8)) (n c : Nat), v = .slice A n c ∧ n = xs.length ∧ n ≤ c ∧ c ≤ maxLen ∧ DCalls W W.heap.size A xs := by
  obtain ⟨A, n, c, rfl, hc, hm, hi⟩ := open_cells Try.underlying22 (by rw [cellsDCall]; omega) hv h
  have hx : ∀ i, i < n → ∃ (x : Int × List UInt8) (b o : Nat) (A' : Option Addr) (c' : Nat), A = some ⟨b, o, none⟩ ∧ b < W.heap.size ∧ W.cell? ⟨b, o + i * 2, none⟩ = some (.int .i64 x.1) ∧ W.cell? ⟨b, o + i * 2 + 1, none⟩ = some (.slice A' x.2.length c') ∧ x.2.length ≤ c' ∧ Rd W W.heap.size A' x.2 := fun i hin => by
    obtain ⟨b, o, cs, fuel, y, hA, hb, _, hcell, hy⟩ := hi i hin
    obtain ⟨x, A', c', rfl, h1, h2⟩ := dcall_in hy
    rw [cellsDCall] at hcell
    have h0 := hcell 0 _ rfl
    have h3 := hcell 1 _ rfl
    rw [Nat.add_zero] at h0
    exact ⟨x, b, o, A', c', hA, hb, h0, h3, h1, h2⟩
  have each : ∀ k, k ≤ n → ∃ xs : List (Int × List UInt8), xs.length = k ∧ DCalls W W.heap.size A xs := fun k => by
    induction k with
    | zero => exact fun _ => ⟨[], rfl, fun i x h => by simp at h⟩
    | succ k ih =>
      intro hk
      obtain ⟨xs, hl, hxs⟩ := ih (by omega)
      obtain ⟨x, b, o, A', c', hA, hb, h0, h1, h2, h3⟩ := hx k (by omega)
      refine ⟨xs ++ [x], by simp [hl], fun i y hy => ?_⟩
      rcases Nat.lt_or_ge i xs.length with hlt | hge
      · rw [List.getElem?_append_left hlt] at hy
        exact hxs i y hy
      · rw [List.getElem?_append_right hge] at hy
        have hi0 : i - xs.length = 0 := by
          rcases Nat.eq_zero_or_pos (i - xs.length) with h | h
          · exact h
          · rw [List.getElem?_eq_none (by simp; omega)] at hy; cases hy
        rw [hi0] at hy
        simp at hy
        subst hy
        have : i = k := by omega
        subst this
        exact ⟨b, o, A', c', hA, hb, h0, h1, h2, h3⟩
  obtain ⟨xs, hl, hxs⟩ := each n (Nat.le_refl _)
  exact ⟨A, xs, n, c, rfl, hl.symm, hc, hm, hxs⟩
end
end Go.Proofs.Ytncenfgnhamdbaa
