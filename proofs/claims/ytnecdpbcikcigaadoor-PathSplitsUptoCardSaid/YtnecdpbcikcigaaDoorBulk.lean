/-
  Texts that came in, with what they weigh.
-/
import Derived.Test.YtnecdpbcikcigaaDoorShell3
import Derived.Test.YtnecdpbcikcigaaDoorRJoin
namespace Go.Proofs.YtnecdpbcikcigaaDoor
open Go.RowKit Go.ChangeShapes Go.WideShapes Go.ChangeAt
section
variable {H : Type} {enc : TypeId × Value → H} {W : World}
theorem bulk_append (l r : List (DataW H)) : Rows.uptoBulkAll (l ++ r) = Rows.uptoBulkAll l + Rows.uptoBulkAll r := by
  induction l with
  | nil => simp [Rows.uptoBulkAll]
  | cons x l ih => simp only [List.cons_append, Rows.uptoBulkAll, ih]; omega
theorem total_snoc (ps : List Txt) (p : Txt) : total (ps ++ [p]) = total ps + p.length := by
  induction ps with
  | nil => rw [List.nil_append, total_cons]; simp [total, Lib.lens]
  | cons a q ih => rw [List.cons_append, total_cons, total_cons, ih]; omega
theorem open_strs_bulk {base b0 : Nat} {r : Reach} {spare : Nat → Bool} {held : Bool} {v : Value} {d : DataW H} {p : List MemPlace}
    (hv : Value.okWide Tryd.prog W r b0 22 v) (h : DataW.Trod enc Tryd.prog W base spare held 22 v d p) : ∃ (A : Option Addr) (ps : List Txt) (n c : Nat), v = .slice A n c ∧ n = ps.length ∧ total ps ≤ Rows.uptoBulk d ∧ Strs W W.heap.size A (ps.map ba) := by
  obtain ⟨A, len, cap, rfl⟩ := okWide_slice Tryd.underlying22 hv
  obtain ⟨fuel, hf⟩ := h
  rcases Deep.open_slice1 Tryd.underlying22 cellsStr hf with ⟨hcs, _⟩ | ⟨a, len', cap', m, n, V, D, Pl, hcs, _, hl, hm, hmm, hx, hi⟩
  · simp only [Value.cells, List.cons.injEq, Value.slice.injEq, and_true] at hcs
    obtain ⟨rfl, rfl, rfl⟩ := hcs
    exact ⟨none, [], 0, 0, rfl, rfl, by simp [total, Lib.lens], Strs.nil⟩
  · simp only [Value.cells, List.cons.injEq, Value.slice.injEq, and_true] at hcs
    obtain ⟨rfl, rfl, rfl⟩ := hcs
    have hlm : len ≤ m := by rw [hmm]; split <;> omega
    obtain ⟨b, o, sp⟩ := a
    have each : ∀ k, k ≤ len → ∃ ps : List Txt, ps.length = k ∧ total ps ≤ Rows.uptoBulkAll ((List.range k).map D) ∧ Strs W W.heap.size (some ⟨b, o, sp⟩) (ps.map ba) := fun k => by
      induction k with
      | zero => exact fun _ => ⟨[], rfl, by simp [total, Lib.lens], Strs.nil⟩
      | succ k ih =>
        intro hk
        obtain ⟨ps, hpl, hpt, hst⟩ := ih (by omega)
        obtain ⟨hc, hd⟩ := hi k (by omega)
        obtain ⟨s, hs, hyd, _⟩ := DataW.trod_string Tryd.underlying9 hd
        injection hs with hs
        have hD := congrArg Prod.fst hyd
        have hD2 : D k = .lit (.string s.data.toList) := hD
        rw [hs] at hc
        have hsp : sp = none := by simpa [Addr.add] using World.cell?_spot (hi 0 (by omega)).1
        subst hsp
        rw [add_flat] at hc
        have hlt := World.block_lt_of_cell? W _ hc
        refine ⟨ps ++ [s.data.toList], by simp [hpl], ?_, fun j y hy => ?_⟩
        · rw [total_snoc, List.range_succ, List.map_append, bulk_append, List.map_cons, List.map_nil, hD2]
          simp only [Rows.uptoBulkAll, Rows.uptoBulk]
          omega
        · rw [List.map_append] at hy
          rcases Nat.lt_or_ge j ps.length with hjl | hge
          · rw [List.getElem?_append_left (by simpa using hjl)] at hy
            exact hst j y hy
          · rw [List.getElem?_append_right (by simpa using hge)] at hy
            have hj : j = k := by
              rcases Nat.lt_or_ge (j - ps.length) 1 with h | h
              · omega
              · rw [List.getElem?_eq_none (by simp; omega)] at hy; cases hy
            subst hj
            have e : j - (ps.map ba).length = 0 := by simp; omega
            rw [e] at hy
            simp at hy
            subst hy
            exact ⟨b, o, rfl, hlt, hc⟩
    obtain ⟨ps, hpl, hpt, hst⟩ := each len (Nat.le_refl _)
    refine ⟨_, ps, len, cap, rfl, hpl.symm, ?_, hst⟩
    have hx1 := congrArg Prod.fst hx
    have hx2 : d = .slice ((List.range len).map D) ((List.range (m - len)).map fun j => D (len + j)) := hx1
    rw [hx2]
    simp only [Rows.uptoBulk]
    omega
end
end Go.Proofs.YtnecdpbcikcigaaDoor
