/-
  An answer that came in.
-/
import Derived.Test.YtklpebfkgdklmaaDoorShell5
import Derived.Test.YtklpebfkgdklmaaDoorCodes
import Derived.SliceStrings
namespace Go.Proofs.YtklpebfkgdklmaaDoor
open Go.RowKit Go.ChangeShapes Go.WideShapes Go.ChangeAt
theorem cellsAns : Tryd.prog.cellsOf 28 = 6 := by kernel_rfl
theorem cellsErr : Tryd.prog.cellsOf 25 = 1 := by kernel_rfl
theorem cellsStrs : Tryd.prog.cellsOf 26 = 1 := by kernel_rfl
theorem ansFields : ∃ f0 f1 f2 f3 f4 f5 : Field, Tryd.prog.underlying 28 = some (.struct #[f0, f1, f2, f3, f4, f5]) ∧ (f0.type = 25 ∧ f0.offset = 0) ∧ (f1.type = 3 ∧ f1.offset = 1) ∧ (f2.type = 3 ∧ f2.offset = 2) ∧ (f3.type = 3 ∧ f3.offset = 3) ∧ (f4.type = 22 ∧ f4.offset = 4) ∧ (f5.type = 26 ∧ f5.offset = 5) :=
  ⟨_, _, _, _, _, _, Tryd.underlying28, ⟨rfl, rfl⟩, ⟨rfl, rfl⟩, ⟨rfl, rfl⟩, ⟨rfl, rfl⟩, ⟨rfl, rfl⟩, ⟨rfl, rfl⟩⟩
section
variable {H : Type} {enc : TypeId × Value → H} {W : World}
set_option maxRecDepth 100000 in
theorem strs_in {base : Nat} {spare : Nat → Bool} {held : Bool} {fuel : Nat} {cs : List Value} {y : DataW H × List MemPlace} (h : DataW.trod enc Tryd.prog W base spare held fuel 26 cs = some y) :
    ∃ (A : Option Addr) (ps : List Txt) (c : Nat), cs = [.slice A ps.length c] ∧ Strs W W.heap.size A (ps.map ba) := by
  rcases open_strings Tryd.underlying26 Tryd.underlying9 cellsStr h with ⟨hcs, _⟩ | ⟨a, len, cap, ss, hcs, _, hl, hm, hss, _, hcell, _⟩
  · exact ⟨none, [], 0, hcs, Strs.nil⟩
  · have hle : len ≤ ss.length := by rw [hss]; split <;> omega
    have hlen : ((ss.take len).map fun x => x.data.toList).length = len := by simp; omega
    refine ⟨some a, (ss.take len).map fun x => x.data.toList, cap, by rw [hlen]; exact hcs, fun j x hj => ?_⟩
    have hjl : j < len := by
      rcases Nat.lt_or_ge j len with h' | h'
      · exact h'
      · rw [List.getElem?_eq_none (by simp; omega)] at hj; cases hj
    have hjs : j < ss.length := by omega
    have hc := hcell j hjs
    have h0 := hcell 0 (by omega)
    obtain ⟨b, o, spot⟩ := a
    have hspot : spot = none := by simpa [Addr.add] using World.cell?_spot h0
    subst hspot
    have hadd : (⟨b, o, none⟩ : Addr).add j = ⟨b, o + j, none⟩ := by unfold Addr.add; split <;> simp_all
    rw [hadd] at hc
    refine ⟨b, o, rfl, World.block_lt_of_cell? W _ hc, ?_⟩
    simp only [List.map_map, List.getElem?_map, List.getElem?_take, hjl, if_true, List.getElem?_eq_getElem hjs, Option.map_some, Option.some.injEq, Function.comp] at hj
    rw [hc, ← hj, ba_data]
    simp [List.getD, hjs]
set_option maxRecDepth 100000 in
theorem open_ans {base b0 : Nat} {r : Reach} {spare : Nat → Bool} {held : Bool} {v : Value} {d : DataW H} {p : List MemPlace}
    (hv : Value.okWide Tryd.prog W r b0 28 v) (h : DataW.Trod enc Tryd.prog W base spare held 28 v d p) : ∃ (x : IAns) (A C : Option Addr) (n c n' c' : Nat), v = .agg (acells x A C n c n' c') ∧ n = x.data.length ∧ n' = x.names.length ∧ IntsA x ∧ Rd W W.heap.size A x.data ∧ Strs W W.heap.size C (x.names.map ba) := by
  obtain ⟨f0, f1, f2, f3, f4, f5, hu, ⟨t0, o0⟩, ⟨t1, o1⟩, ⟨t2, o2⟩, ⟨t3, o3⟩, ⟨t4, o4⟩, ⟨t5, o5⟩⟩ := ansFields
  obtain ⟨cs0, rfl, _⟩ := okWide_struct hu hv
  obtain ⟨fuel, h⟩ := h
  obtain ⟨ys, n, _, _, hlen, hyl, hf⟩ := DataW.trod_struct hu h
  rw [cellsAns] at hlen
  have hcells : (Value.agg cs0).cells.toList = cs0.toList := rfl
  rw [hcells] at hlen hf
  obtain ⟨cs, rfl⟩ : ∃ cs : List Value, cs0 = cs.toArray := ⟨cs0.toList, by simp⟩
  simp only [List.toList_toArray] at hlen hf
  match cs, hlen with
  | [c0, c1, c2, c3, c4, c5], _ =>
    have g0 := hf 0 f0 rfl
    have g1 := hf 1 f1 rfl
    have g2 := hf 2 f2 rfl
    have g3 := hf 3 f3 rfl
    have g4 := hf 4 f4 rfl
    have g5 := hf 5 f5 rfl
    rw [t0, o0, cellsErr, List.getElem?_eq_getElem (by rw [hyl]; simp)] at g0
    rw [t1, o1, cellsInt, List.getElem?_eq_getElem (by rw [hyl]; simp)] at g1
    rw [t2, o2, cellsInt, List.getElem?_eq_getElem (by rw [hyl]; simp)] at g2
    rw [t3, o3, cellsInt, List.getElem?_eq_getElem (by rw [hyl]; simp)] at g3
    rw [t4, o4, cellsBytes, List.getElem?_eq_getElem (by rw [hyl]; simp)] at g4
    rw [t5, o5, cellsStrs, List.getElem?_eq_getElem (by rw [hyl]; simp)] at g5
    obtain ⟨k0, e0, _, w0⟩ := DataW.trod_int Tryd.underlying25 g0
    obtain ⟨k1, e1, _, w1⟩ := DataW.trod_int Tryd.underlying3 g1
    obtain ⟨k2, e2, _, w2⟩ := DataW.trod_int Tryd.underlying3 g2
    obtain ⟨k3, e3, _, w3⟩ := DataW.trod_int Tryd.underlying3 g3
    obtain ⟨A1, l, c, e4, _, _, hr⟩ := bytes_in g4
    obtain ⟨C1, ps, c', e5, hs⟩ := strs_in g5
    simp only [List.drop, List.take, List.cons.injEq, and_true] at e0 e1 e2 e3 e4 e5
    subst e0 e1 e2 e3 e4 e5
    exact ⟨⟨k0, k1, k2, k3, l, ps⟩, A1, C1, l.length, c, ps.length, c', rfl, rfl, rfl, ⟨i64_of_wf w0, i64_of_wf w1, i64_of_wf w2, i64_of_wf w3⟩, hr, hs⟩
end
end Go.Proofs.YtklpebfkgdklmaaDoor
