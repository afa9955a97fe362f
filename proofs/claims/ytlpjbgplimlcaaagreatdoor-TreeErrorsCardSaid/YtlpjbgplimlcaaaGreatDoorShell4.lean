/-
  Closed facts of this seat; a row of calls that came in.
-/
import Derived.Test.YtlpjbgplimlcaaaGreatDoorTreeLaw
import Derived.Test.YtlpjbgplimlcaaaGreatDoorShell3
namespace Go.Proofs.YtlpjbgplimlcaaaGreatDoor
open Go.RowKit Go.ChangeShapes Go.WideShapes Go.ChangeAt
theorem cellsU8 : Tryz.prog.cellsOf 5 = 1 := by kernel_rfl
theorem cellsCall : Tryz.prog.cellsOf 31 = 6 := by kernel_rfl
theorem cellsInt : Tryz.prog.cellsOf 3 = 1 := by kernel_rfl
theorem cellsBytes : Tryz.prog.cellsOf 29 = 1 := by kernel_rfl
theorem callFields : ∃ f0 f1 f2 f3 f4 f5 : Field, Tryz.prog.underlying 31 = some (.struct #[f0, f1, f2, f3, f4, f5]) ∧ (f0.type = 3 ∧ f0.offset = 0) ∧ (f1.type = 9 ∧ f1.offset = 1) ∧ (f2.type = 9 ∧ f2.offset = 2) ∧ (f3.type = 3 ∧ f3.offset = 3) ∧ (f4.type = 3 ∧ f4.offset = 4) ∧ (f5.type = 29 ∧ f5.offset = 5) :=
  ⟨_, _, _, _, _, _, Tryz.underlying31, ⟨rfl, rfl⟩, ⟨rfl, rfl⟩, ⟨rfl, rfl⟩, ⟨rfl, rfl⟩, ⟨rfl, rfl⟩, ⟨rfl, rfl⟩⟩
section
variable {H : Type} {enc : TypeId × Value → H} {W : World}
set_option maxRecDepth 100000 in
theorem bytes_in {base : Nat} {spare : Nat → Bool} {held : Bool} {fuel : Nat} {cs : List Value} {y : DataW H × List MemPlace} (h : DataW.trod enc Tryz.prog W base spare held fuel 29 cs = some y) :
    ∃ (A : Option Addr) (l : List UInt8) (c : Nat), cs = [.slice A l.length c] ∧ l.length ≤ c ∧ c ≤ maxLen ∧ Rd W W.heap.size A l := by
  have hv : ∀ A n c, cs = [.slice A n c] → DataW.Trod enc Tryz.prog W base spare held 29 (.slice A n c) y.1 y.2 := fun A n c e => ⟨fuel, by subst e; exact h⟩
  rcases DataW.trod_slice Tryz.underlying29 h with ⟨e3, _⟩ | ⟨a, m, c, _, _, _, _, e3, _⟩
  · exact ⟨none, [], 0, e3, Nat.le_refl _, Nat.zero_le _, Rd.nil⟩
  · rcases open_ints Tryz.underlying29 Tryz.underlying5 cellsU8 h with ⟨hcs, _⟩ | ⟨a, len, cap, zs, hcs, _, hl, hm, hz, _, hcell, hwz⟩
    · exact ⟨none, [], 0, hcs, Nat.le_refl _, Nat.zero_le _, Rd.nil⟩
    · have hle : len ≤ zs.length := by rw [hz]; split <;> omega
      have hb : ∀ n ∈ zs, 0 ≤ n ∧ n < 256 := fun n hn => by
        have h := hwz n hn
        have h1 : IntKind.u8.min = 0 := rfl
        have h2 : IntKind.u8.max = 255 := rfl
        simp only [Lit.wf, Bool.and_eq_true, decide_eq_true_eq, h1, h2] at h
        omega
      have hlen : ((zs.take len).map fun n => UInt8.ofNat n.toNat).length = len := by simp; omega
      refine ⟨some a, (zs.take len).map fun n => UInt8.ofNat n.toNat, cap, by rw [hlen]; exact hcs, by omega, hm, fun j b hj => ?_⟩
      have hjl : j < len := by
        rcases Nat.lt_or_ge j len with h' | h'
        · exact h'
        · rw [List.getElem?_eq_none (by omega)] at hj; cases hj
      have hc := hcell j (by omega)
      have hlt := World.block_lt_of_cell? W _ hc
      rw [block_add] at hlt
      refine ⟨a, rfl, hlt, ?_⟩
      rw [hc]
      have hjz : j < zs.length := by omega
      simp only [List.getElem?_map, List.getElem?_take, hjl, if_true, List.getElem?_eq_getElem hjz, Option.map_some, Option.some.injEq] at hj
      have hbj := hb _ (List.getElem_mem hjz)
      rw [← hj]
      simp only [List.getD, List.getElem?_eq_getElem hjz, Option.getD_some]
      have : (UInt8.ofNat zs[j].toNat).toNat = zs[j].toNat := by
        rw [UInt8.toNat_ofNat']
        exact Nat.mod_eq_of_lt (by omega)
      rw [this]
      congr 2
      omega
set_option maxRecDepth 100000 in
theorem call_cells {base : Nat} {spare : Nat → Bool} {held : Bool} {fuel : Nat} {cs : List Value} {y : DataW H × List MemPlace} (h : DataW.trod enc Tryz.prog W base spare held fuel 31 cs = some y) : ∃ (x : TCall) (A1 : Option Addr) (c1 : Nat), callL x A1 c1 = cs ∧ Rd W W.heap.size A1 x.data := by
  obtain ⟨f0, f1, f2, f3, f4, f5, hu, ⟨t0, o0⟩, ⟨t1, o1⟩, ⟨t2, o2⟩, ⟨t3, o3⟩, ⟨t4, o4⟩, ⟨t5, o5⟩⟩ := callFields
  obtain ⟨ys, n, _, _, hlen, hyl, hf⟩ := DataW.trod_struct hu h
  rw [cellsCall] at hlen
  match cs, hlen with
  | [c0, c1, c2, c3, c4, c5], _ =>
    have g0 := hf 0 f0 rfl
    have g1 := hf 1 f1 rfl
    have g2 := hf 2 f2 rfl
    have g3 := hf 3 f3 rfl
    have g4 := hf 4 f4 rfl
    have g5 := hf 5 f5 rfl
    rw [t0, o0, cellsInt, List.getElem?_eq_getElem (by rw [hyl]; simp)] at g0
    rw [t1, o1, cellsStr, List.getElem?_eq_getElem (by rw [hyl]; simp)] at g1
    rw [t2, o2, cellsStr, List.getElem?_eq_getElem (by rw [hyl]; simp)] at g2
    rw [t3, o3, cellsInt, List.getElem?_eq_getElem (by rw [hyl]; simp)] at g3
    rw [t4, o4, cellsInt, List.getElem?_eq_getElem (by rw [hyl]; simp)] at g4
    rw [t5, o5, cellsBytes, List.getElem?_eq_getElem (by rw [hyl]; simp)] at g5
    obtain ⟨k0, e0, _, _⟩ := DataW.trod_int Tryz.underlying3 g0
    obtain ⟨s1, e1, _, _⟩ := DataW.trod_string Tryz.underlying9 g1
    obtain ⟨s2, e2, _, _⟩ := DataW.trod_string Tryz.underlying9 g2
    obtain ⟨k3, e3, _, _⟩ := DataW.trod_int Tryz.underlying3 g3
    obtain ⟨k4, e4, _, _⟩ := DataW.trod_int Tryz.underlying3 g4
    obtain ⟨A1, l, c, e5, _, _, hr⟩ := bytes_in g5
    simp only [List.drop, List.take, List.cons.injEq, and_true] at e0 e1 e2 e3 e4 e5
    subst e0 e1 e2 e3 e4 e5
    exact ⟨⟨k0, s1.data.toList, s2.data.toList, k3, k4, l⟩, A1, c, by simp only [callL, ba_data], hr⟩
set_option maxRecDepth 100000 in
theorem open_calls {base b0 : Nat} {r : Reach} {spare : Nat → Bool} {held : Bool} {v : Value} {d : DataW H} {p : List MemPlace}
    (hv : Value.okWide Tryz.prog W r b0 22 v) (h : DataW.Trod enc Tryz.prog W base spare held 22 v d p) : ∃ (A : Option Addr) (xs : List TCall) (n c : Nat), v = .slice A n c ∧ n = xs.length ∧ n ≤ c ∧ c ≤ maxLen ∧ CallsAt W W.heap.size A xs := by
  obtain ⟨A, n, c, rfl, hc, hm, hi⟩ := open_cells Tryz.underlying22 (Nat.lt_of_lt_of_eq (show 0 < 6 by decide) cellsCall.symm) hv h
  have hx : ∀ i, i < n → ∃ x : TCall, ∃ b o A1 c1, A = some ⟨b, o, none⟩ ∧ b < W.heap.size ∧ (∀ j u, (callL x A1 c1)[j]? = some u → W.cell? ⟨b, o + i * 6 + j, none⟩ = some u) ∧ Rd W W.heap.size A1 x.data := fun i hin => by
    obtain ⟨b, o, cs, fuel, y, hA, hb, _, hcell, hy⟩ := hi i hin
    obtain ⟨x, A1, c1, rfl, hr⟩ := call_cells hy
    rw [cellsCall] at hcell
    exact ⟨x, b, o, A1, c1, hA, hb, hcell, hr⟩
  have each : ∀ k, k ≤ n → ∃ xs : List TCall, xs.length = k ∧ CallsAt W W.heap.size A xs := fun k => by
    induction k with
    | zero => exact fun _ => ⟨[], rfl, fun i x h => by simp at h⟩
    | succ k ih =>
      intro hk
      obtain ⟨xs, hl, hxs⟩ := ih (by omega)
      obtain ⟨x, b, o, A1, c1, hA, hb, hcell, hr⟩ := hx k (by omega)
      refine ⟨xs ++ [x], by simp [hl], fun i y hy => ?_⟩
      rcases Nat.lt_or_ge i xs.length with hlt | hge
      · rw [List.getElem?_append_left hlt] at hy
        exact hxs i y hy
      · rw [List.getElem?_append_right hge] at hy
        have hi0 : i - xs.length = 0 := by
          rcases Nat.eq_zero_or_pos (i - xs.length) with h | h
          · exact h
          · rw [List.getElem?_eq_none (by simp; omega)] at hy; cases hy
        rw [hi0] at hy
        simp at hy
        subst hy
        have : i = k := by omega
        subst this
        exact ⟨b, o, A1, c1, hA, hb, hcell, hr⟩
  obtain ⟨xs, hl, hxs⟩ := each n (Nat.le_refl _)
  exact ⟨A, xs, n, c, rfl, hl.symm, hc, hm, hxs⟩
end
end Go.Proofs.YtlpjbgplimlcaaaGreatDoor
