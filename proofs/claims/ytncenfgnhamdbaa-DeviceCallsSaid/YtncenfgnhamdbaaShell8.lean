/-
  Closed facts of this seat that the rows of devices ask; rows of bytes that came in.
-/
import Derived.Test.YtncenfgnhamdbaaRows
import Derived.Test.YtncenfgnhamdbaaRowS
import Derived.Test.YtncenfgnhamdbaaLaw
import Derived.Test.YtncenfgnhamdbaaChecked
import Derived.SizedLaws
import Derived.Handy
namespace Go.Proofs.Ytncenfgnhamdbaa
open Go.RowKit Go.ChangeShapes Go.WideShapes Go.ChangeAt
theorem own : ownKnob Try.prog.godebug = none := by kernel_rfl
theorem laidOut : laidOutB Try.prog = true := by kernel_rfl
theorem cellsU8 : Try.prog.cellsOf 5 = 1 := by kernel_rfl
theorem cellsBytes : Try.prog.cellsOf 31 = 1 := by kernel_rfl
section
variable {H : Type} {enc : TypeId × Value → H} {W : World}
theorem bytes_in {base : Nat} {spare : Nat → Bool} {held : Bool} {fuel : Nat} {cs : List Value} {y : DataW H × List MemPlace} (h : DataW.trod enc Try.prog W base spare held fuel 31 cs = some y) :
    ∃ (A : Option Addr) (l : List UInt8) (c : Nat), cs = [.slice A l.length c] ∧ l.length ≤ c ∧ c ≤ maxLen ∧ Rd W W.heap.size A l := by
  rcases DataW.trod_slice Try.underlying31 h with ⟨e3, _⟩ | ⟨a, m, c, _, _, _, _, e3, _⟩
  · exact ⟨none, [], 0, e3, Nat.le_refl _, Nat.zero_le _, Rd.nil⟩
  · rcases open_ints Try.underlying31 Try.underlying5 cellsU8 h with ⟨hcs, _⟩ | ⟨a, len, cap, zs, hcs, _, hl, hm, hz, _, hcell, hwz⟩
    · exact ⟨none, [], 0, hcs, Nat.le_refl _, Nat.zero_le _, Rd.nil⟩
    · have hle : len ≤ zs.length := by rw [hz]; split <;> omega
      have hb : ∀ n ∈ zs, 0 ≤ n ∧ n < 256 := fun n hn => by
        have h := hwz n hn
        have h1 : IntKind.u8.min = 0 := rfl
        have h2 : IntKind.u8.max = 255 := rfl
        simp only [Lit.wf, Bool.and_eq_true, decide_eq_true_eq, h1, h2] at h
        omega
      have hlen : ((zs.take len).map fun n => UInt8.ofNat n.toNat).length = len := by simp; omega
      refine ⟨some a, (zs.take len).map fun n => UInt8.ofNat n.toNat, cap, by rw [hlen]; exact hcs, by omega, hm, fun j b hj => ?_⟩
      have hjl : j < len := by
        rcases Nat.lt_or_ge j len with h' | h'
        · exact h'
        · rw [List.getElem?_eq_none (by omega)] at hj; cases hj
      have hc := hcell j (by omega)
      have hlt := World.block_lt_of_cell? W _ hc
      rw [block_add] at hlt
      refine ⟨a, rfl, hlt, ?_⟩
      rw [hc]
      have hjz : j < zs.length := by omega
      simp only [List.getElem?_map, List.getElem?_take, hjl, if_true, List.getElem?_eq_getElem hjz, Option.map_some, Option.some.injEq] at hj
      have hbj := hb _ (List.getElem_mem hjz)
      rw [← hj]
      simp only [List.getD, List.getElem?_eq_getElem hjz, Option.getD_some]
      have : (UInt8.ofNat zs[j].toNat).toNat = zs[j].toNat := by
        rw [UInt8.toNat_ofNat']
        exact Nat.mod_eq_of_lt (by omega)
      rw [this]
      congr 2
      omega
/-- A row of rows of bytes that came in. -/
theorem open_rows {base b0 : Nat} {r : Reach} {spare : Nat → Bool} {held : Bool} {v : Value} {d : DataW H} {p : List MemPlace}
    (hv : Value.okWide Try.prog W r b0 39 v) (h : DataW.Trod enc Try.prog W base spare held 39 v d p) :
    ∃ (A : Option Addr) (ls : List (List UInt8)) (n c : Nat), v = .slice A n c ∧ n = ls.length ∧ n ≤ c ∧ c ≤ maxLen ∧ RdS W 0 W.heap.size A ls := by
  obtain ⟨A, n, c, rfl, hc, hm, hi⟩ := open_cells Try.underlying39 (by rw [cellsBytes]; omega) hv h
  have hx : ∀ i, i < n → ∃ (l : List UInt8) (b o : Nat) (A' : Option Addr) (c' : Nat), A = some ⟨b, o, none⟩ ∧ b < W.heap.size ∧ W.cell? ⟨b, o + i, none⟩ = some (.slice A' l.length c') ∧ l.length ≤ c' ∧ c' ≤ maxLen ∧ Rd W W.heap.size A' l := fun i hin => by
    obtain ⟨b, o, cs, fuel, y, hA, hb, _, hcell, hy⟩ := hi i hin
    obtain ⟨A', l, c', rfl, h1, h2, h3⟩ := bytes_in hy
    rw [cellsBytes] at hcell
    have h0 := hcell 0 _ rfl
    rw [Nat.mul_one, Nat.add_zero] at h0
    exact ⟨l, b, o, A', c', hA, hb, h0, h1, h2, h3⟩
  have each : ∀ k, k ≤ n → ∃ ls : List (List UInt8), ls.length = k ∧ RdS W 0 W.heap.size A ls := fun k => by
    induction k with
    | zero => exact fun _ => ⟨[], rfl, RdS.nil⟩
    | succ k ih =>
      intro hk
      obtain ⟨ls, hl, hls⟩ := ih (by omega)
      obtain ⟨l, b, o, A', c', hA, hb, h0, h1, h2, h3⟩ := hx k (by omega)
      refine ⟨ls ++ [l], by simp [hl], fun i y hy => ?_⟩
      rcases Nat.lt_or_ge i ls.length with hlt | hge
      · rw [List.getElem?_append_left hlt] at hy
        exact hls i y hy
      · rw [List.getElem?_append_right hge] at hy
        have hi0 : i - ls.length = 0 := by
          rcases Nat.eq_zero_or_pos (i - ls.length) with h | h
          · exact h
          · rw [List.getElem?_eq_none (by simp; omega)] at hy; cases hy
        rw [hi0] at hy
        simp at hy
        subst hy
        have : i = k := by omega
        subst this
        exact ⟨b, o, A', c', hA, Nat.zero_le _, hb, h0, h1, h2, h3, fun _ _ _ => Nat.zero_le _⟩
  obtain ⟨ls, hl, hls⟩ := each n (Nat.le_refl _)
  exact ⟨A, ls, n, c, rfl, hl.symm, hc, hm, hls⟩
end
end Go.Proofs.Ytncenfgnhamdbaa
