/-
  Closed facts of this seat that every law's row asks: a world in which the two tables of Go's library hold what their texts say; texts that came in.
-/
import Derived.Test.YtlpjbgplimlcaaaGreatDoorSplit
import Derived.Test.YtlpjbgplimlcaaaGreatDoorLaw
import Derived.Test.YtlpjbgplimlcaaaGreatDoorCards
import Derived.Test.YtlpjbgplimlcaaaGreatDoorTie
import Derived.Deep.DeepHandedRow
import Derived.Shelf.Vars
namespace Go.Proofs.YtlpjbgplimlcaaaGreatDoor
open Go.RowKit Go.ChangeShapes Go.WideShapes Go.ChangeAt
theorem own : ownKnob Tryz.prog.godebug = none := by kernel_rfl
theorem laidOut : laidOutB Tryz.prog = true := by kernel_rfl
theorem cellsStr : Tryz.prog.cellsOf 9 = 1 := by kernel_rfl
theorem env_of {W : World} (h : W.ShapedOpen Tryz.prog) : Env W :=
  cell_of_shapedOpen_int (zero := #[.int .i64 0]) (t := 3) h (of_decide_eq_true (by kernel_rfl)) (by kernel_rfl) rfl (by kernel_rfl) (by kernel_rfl) Tryz.underlying3
def acceptInts : List Int := [128, 191, 160, 191, 128, 159, 144, 191, 128, 143, 0, 0, 0, 0, 0, 0, 0, 0, 0, 0, 0, 0, 0, 0, 0, 0, 0, 0, 0, 0, 0, 0]
def holdObj (cs : Array Value) : Obj → Obj
  | .cells _ t frozen => .cells cs t frozen
  | o => o
/-- A world for the witness: the settled one, the tables holding what their initialisers lay. -/
noncomputable def laidWorld (os : Os) : World :=
  { World.holding Tryz.prog os ⟨#[], #[], []⟩ with heap := ((World.holding Tryz.prog os ⟨#[], #[], []⟩).heap.modify 2 (holdObj (acceptInts.map (Value.int .u8)).toArray)).modify 1 (holdObj (Go.Pinned.utf8FirstZ.map fun n : Nat => Value.int .u8 (n : Int)).toArray) }
section
variable {H : Type} {enc : TypeId × Value → H} {W : World}
set_option maxRecDepth 100000 in
theorem open_strs {base b0 : Nat} {r : Reach} {spare : Nat → Bool} {held : Bool} {v : Value} {d : DataW H} {p : List MemPlace}
    (hv : Value.okWide Tryz.prog W r b0 34 v) (h : DataW.Trod enc Tryz.prog W base spare held 34 v d p) : ∃ (A : Option Addr) (ps : List Txt) (n c : Nat), v = .slice A n c ∧ n = ps.length ∧ n ≤ c ∧ c ≤ maxLen ∧ (∀ p ∈ ps, p.length ≤ maxLen) ∧ Strs W W.heap.size A (ps.map ba) := by
  obtain ⟨A, n, c, rfl, hc, hm, hi⟩ := open_cells Tryz.underlying34 (Nat.lt_of_lt_of_eq Nat.zero_lt_one cellsStr.symm) hv h
  have hx : ∀ i, i < n → ∃ x : Txt, x.length ≤ maxLen ∧ ∃ b o, A = some ⟨b, o, none⟩ ∧ b < W.heap.size ∧ W.cell? ⟨b, o + i, none⟩ = some (.string (ba x)) := fun i hin => by
    obtain ⟨b, o, cs, fuel, y, hA, hb, _, hcell, hy⟩ := hi i hin
    obtain ⟨s, rfl, _, hs⟩ := DataW.trod_string Tryz.underlying9 hy
    rw [cellsStr] at hcell
    have h0 := hcell 0 _ rfl
    rw [Nat.mul_one, Nat.add_zero] at h0
    refine ⟨s.data.toList, by rw [← size_len]; exact hs, b, o, hA, hb, ?_⟩
    rw [ba_data]
    exact h0
  have each : ∀ k, k ≤ n → ∃ ps : List Txt, ps.length = k ∧ (∀ p ∈ ps, p.length ≤ maxLen) ∧ Strs W W.heap.size A (ps.map ba) := fun k => by
    induction k with
    | zero => exact fun _ => ⟨[], rfl, by simp, Strs.nil⟩
    | succ k ih =>
      intro hk
      obtain ⟨ps, hl, hs, hst⟩ := ih (by omega)
      obtain ⟨x, hxl, b, o, hA, hb, hcell⟩ := hx k (by omega)
      refine ⟨ps ++ [x], by simp [hl], ?_, fun j y hy => ?_⟩
      · intro p hp
        simp at hp
        rcases hp with hp | rfl
        · exact hs p hp
        · exact hxl
      · rw [List.map_append] at hy
        rcases Nat.lt_or_ge j ps.length with hlt | hge
        · rw [List.getElem?_append_left (by simpa using hlt)] at hy
          exact hst j y hy
        · rw [List.getElem?_append_right (by simpa using hge)] at hy
          have hj : j = k := by
            rcases Nat.lt_or_ge (j - ps.length) 1 with h | h
            · omega
            · rw [List.getElem?_eq_none (by simp; omega)] at hy; cases hy
          subst hj
          have e : j - (ps.map ba).length = 0 := by simp; omega
          rw [e] at hy
          simp at hy
          subst hy
          exact ⟨b, o, hA, hb, hcell⟩
  obtain ⟨ps, hl, hs, hst⟩ := each n (Nat.le_refl _)
  exact ⟨A, ps, n, c, rfl, hl.symm, hc, hm, hs, hst⟩
end
end Go.Proofs.YtlpjbgplimlcaaaGreatDoor
