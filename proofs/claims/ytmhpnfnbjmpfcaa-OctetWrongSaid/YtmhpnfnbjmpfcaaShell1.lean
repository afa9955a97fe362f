/-
  Closed facts of this seat; a row of things that came in.
-/
import Derived.Test.YtmhpnfnbjmpfcaaGreat
import Derived.Test.YtmhpnfnbjmpfcaaLaw
import Derived.SizedLaws
namespace Go.Proofs.Ytmhpnfnbjmpfcaa
open Go.RowKit Go.ChangeShapes Go.WideShapes Go.ChangeAt
theorem own : ownKnob Try.prog.godebug = none := by kernel_rfl
theorem laidOut : laidOutB Try.prog = true := by kernel_rfl
theorem cellsU8 : Try.prog.cellsOf 5 = 1 := by kernel_rfl
theorem cellsThing : Try.prog.cellsOf 31 = 4 := by kernel_rfl
theorem thingFields : ∃ f0 f1 f2 f3 : Field, Try.prog.underlying 31 = some (.struct #[f0, f1, f2, f3]) ∧ (f0.type = 3 ∧ f0.offset = 0) ∧ (f1.type = 3 ∧ f1.offset = 1) ∧ (f2.type = 29 ∧ f2.offset = 2) ∧ (f3.type = 22 ∧ f3.offset = 3) :=
  ⟨_, _, _, _, Try.underlying31, ⟨rfl, rfl⟩, ⟨rfl, rfl⟩, ⟨rfl, rfl⟩, ⟨rfl, rfl⟩⟩
theorem cellsInt : Try.prog.cellsOf 3 = 1 := by kernel_rfl
theorem cellsU64 : Try.prog.cellsOf 29 = 1 := by kernel_rfl
theorem cellsBytes : Try.prog.cellsOf 22 = 1 := by kernel_rfl
section
variable {H : Type} {enc : TypeId × Value → H} {W : World}
theorem thing_cells {base : Nat} {spare : Nat → Bool} {held : Bool} {fuel : Nat} {cs : List Value} {y : DataW H × List MemPlace} (h : DataW.trod enc Try.prog W base spare held fuel 31 cs = some y) : ∃ x : TC, x.cells = cs := by
  obtain ⟨f0, f1, f2, f3, hu, ⟨t0, o0⟩, ⟨t1, o1⟩, ⟨t2, o2⟩, ⟨t3, o3⟩⟩ := thingFields
  obtain ⟨ys, n, _, _, hlen, hyl, hf⟩ := DataW.trod_struct hu h
  rw [cellsThing] at hlen
  match cs, hlen with
  | [c0, c1, c2, c3], _ =>
    have g0 := hf 0 f0 rfl
    have g1 := hf 1 f1 rfl
    have g2 := hf 2 f2 rfl
    have g3 := hf 3 f3 rfl
    rw [t0, o0, cellsInt, List.getElem?_eq_getElem (by rw [hyl]; simp)] at g0
    rw [t1, o1, cellsInt, List.getElem?_eq_getElem (by rw [hyl]; simp)] at g1
    rw [t2, o2, cellsU64, List.getElem?_eq_getElem (by rw [hyl]; simp)] at g2
    rw [t3, o3, cellsBytes, List.getElem?_eq_getElem (by rw [hyl]; simp)] at g3
    obtain ⟨k0, e0, _, _⟩ := DataW.trod_int Try.underlying3 g0
    obtain ⟨k1, e1, _, _⟩ := DataW.trod_int Try.underlying3 g1
    obtain ⟨k2, e2, _, _⟩ := DataW.trod_int Try.underlying29 g2
    simp only [List.drop, List.take, List.cons.injEq, and_true] at e0 e1 e2
    subst e0 e1 e2
    rcases DataW.trod_slice Try.underlying22 g3 with ⟨e3, _⟩ | ⟨a, m, c, _, _, _, _, e3, _⟩
    · simp only [List.drop, List.take, List.cons.injEq, and_true] at e3
      subst e3
      exact ⟨⟨k0, k1, k2, none, 0, 0⟩, rfl⟩
    · simp only [List.drop, List.take, List.cons.injEq, and_true] at e3
      subst e3
      exact ⟨⟨k0, k1, k2, some a, m, c⟩, rfl⟩
theorem open_things {base b0 : Nat} {r : Reach} {spare : Nat → Bool} {held : Bool} {v : Value} {d : DataW H} {p : List MemPlace}
    (hv : Value.okWide Try.prog W r b0 23 v) (h : DataW.Trod enc Try.prog W base spare held 23 v d p) : ∃ (A : Option Addr) (xs : List TC) (n c : Nat), v = .slice A n c ∧ n = xs.length ∧ n ≤ c ∧ c ≤ maxLen ∧ Things W W.heap.size A xs := by
  obtain ⟨A, n, c, rfl, hc, hm, hi⟩ := open_cells Try.underlying23 (by rw [cellsThing]; omega) hv h
  have hx : ∀ i, i < n → ∃ x : TC, ∃ b o, A = some ⟨b, o, none⟩ ∧ b < W.heap.size ∧ ∀ j u, x.cells[j]? = some u → W.cell? ⟨b, o + i * 4 + j, none⟩ = some u := fun i hin => by
    obtain ⟨b, o, cs, fuel, y, hA, hb, _, hcell, hy⟩ := hi i hin
    obtain ⟨x, rfl⟩ := thing_cells hy
    rw [cellsThing] at hcell
    exact ⟨x, b, o, hA, hb, hcell⟩
  have each : ∀ k, k ≤ n → ∃ xs : List TC, xs.length = k ∧ Things W W.heap.size A xs := fun k => by
    induction k with
    | zero => exact fun _ => ⟨[], rfl, fun i x h => by simp at h⟩
    | succ k ih =>
      intro hk
      obtain ⟨xs, hl, hxs⟩ := ih (by omega)
      obtain ⟨x, b, o, hA, hb, hcell⟩ := hx k (by omega)
      refine ⟨xs ++ [x], by simp [hl], fun i y hy => ?_⟩
      rcases Nat.lt_or_ge i xs.length with hlt | hge
      · rw [List.getElem?_append_left hlt] at hy
        exact hxs i y hy
      · rw [List.getElem?_append_right hge] at hy
        have hi0 : i - xs.length = 0 := by
          rcases Nat.eq_zero_or_pos (i - xs.length) with h | h
          · exact h
          · rw [List.getElem?_eq_none (by simp; omega)] at hy; cases hy
        rw [hi0] at hy
        simp at hy
        subst hy
        have : i = k := by omega
        subst this
        exact ⟨b, o, hA, hb, hcell⟩
  obtain ⟨xs, hl, hxs⟩ := each n (Nat.le_refl _)
  exact ⟨A, xs, n, c, rfl, hl.symm, hc, hm, hxs⟩
end
end Go.Proofs.Ytmhpnfnbjmpfcaa
