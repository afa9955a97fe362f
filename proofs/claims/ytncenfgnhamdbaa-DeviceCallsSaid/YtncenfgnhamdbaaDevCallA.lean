/-
  Calls to a device that came in; what DeviceCalls' round of an append does, step by step.
-/
import Derived.Test.YtncenfgnhamdbaaDevPair
namespace Go.Proofs.Ytncenfgnhamdbaa
open Go.RowKit

/-- From the address A on, in blocks below B, the cells hold the calls xs. -/
def DCalls (w : World) (B : Nat) (A : Option Addr) (xs : List (Int × List UInt8)) : Prop :=
  ∀ j x, xs[j]? = some x → ∃ b o A' c', A = some ⟨b, o, none⟩ ∧ b < B ∧ w.cell? ⟨b, o + j * 2, none⟩ = some (.int .i64 x.1) ∧ w.cell? ⟨b, o + j * 2 + 1, none⟩ = some (.slice A' x.2.length c') ∧ x.2.length ≤ c' ∧ Rd w B A' x.2
theorem DCalls.kept {w w' : World} {A : Option Addr} {xs : List (Int × List UInt8)} (h : DCalls w w.heap.size A xs) (k : KF w w') : DCalls w' w'.heap.size A xs := fun j x hj => by
  obtain ⟨b, o, A', c', rfl, hb, h1, h2, h3, h4⟩ := h j x hj
  have := k.size
  exact ⟨b, o, A', c', rfl, by omega, (k.cell (p := ⟨b, o + j * 2, none⟩) hb).trans h1, (k.cell (p := ⟨b, o + j * 2 + 1, none⟩) hb).trans h2, h3, (h4.keepF k (Nat.le_refl _)).more k.size⟩
/-- The world's blocks that a device's call may turn. -/
abbrev Out (a wr wO : World) : Nat → Prop := fun i => a.heap.size ≤ i ∧ ¬ (wr.heap.size ≤ i ∧ i < wO.heap.size)
abbrev Nb (wr wO : World) : Nat → Prop := fun i => wr.heap.size ≤ i ∧ i < wO.heap.size
theorem app_same {d : Dv} (h : DGood d) (b : List UInt8) : (if endR (refOf d) (refOf d).length = (refOf d).length then refOf d else (refOf d).set (endR (refOf d) (refOf d).length) ⟨1, b, false⟩) = refOf (d.push b) ∧
    (if endR (refOf d) (refOf d).length = (refOf d).length then (4 : Int) else 0) = if d.room ≤ d.pages.length then 4 else 0 := by
  rw [next_ref h, refOf_length]
  by_cases hf : d.pages.length = d.room
  · rw [if_pos hf, if_pos hf, if_pos (by omega), Dv.push_full (by omega)]
    exact ⟨rfl, rfl⟩
  · have := h.room
    rw [if_neg hf, if_neg hf, if_neg (by omega), push_ref b (by omega) h]
    exact ⟨rfl, rfl⟩
section
variable {a wr wO W : World} {g gr : Nat} {d d' : Dv} {R : List RPg} {A A4 : Option Addr} {b : List UInt8} {lb c c4 : Nat}
theorem app_d (hO : Own 5 wO (.slice A4 lb c4) b) (hb : b.length ≤ 300) (hN : ∀ i, (Value.slice A4 lb c4).ownBlock = some i → Nb wr wO i) (h : P3 (Nb wr wO) a W g d gr R) (k : Keep (Out a wr wO) wO W) :
    Calls Try.prog 9 #[.pointer (some ⟨g, 0, none⟩), .slice A4 lb c4] W fun e w' => e = .returned (.int .i64 (if d.room ≤ d.pages.length then 4 else 0)) ∧ Hid (P3 (Nb wr wO) a w' g (d.push b) gr R ∧ Keep (Out a wr wO) wO w') := by
  have ho := hO.kept k (fun i hi hs => hs.2 (hN i hi))
  exact (h.dappend A4 b lb c4 ho.len (by omega) ho.rd).mono fun e w' ⟨he, hp, hk⟩ => ⟨he, Lib.hid ⟨hp, k.trans hk (fun _ _ h => h)⟩⟩
theorem app_r (hR : Rd wO wO.heap.size A b) (hA : ∀ ad : Addr, A = some ad → b ≠ [] → ad.block < a.heap.size) (hl : lb = b.length) (hb : b.length ≤ 300) (hg : DGood d) (h : P3 (Nb wr wO) a W g d' gr (refOf d)) (k : Keep (Out a wr wO) wO W) :
    Calls Try.prog 10 #[.pointer (some ⟨gr, 0, none⟩), .slice A lb c] W fun e w' => e = .returned (.int .i64 (if d.room ≤ d.pages.length then 4 else 0)) ∧ Hid (P3 (Nb wr wO) a w' g d' gr (refOf (d.push b)) ∧ Keep (Out a wr wO) wO w') := by
  have hr : Rd W W.heap.size A b := by
    by_cases hb0 : b = []
    · rw [hb0]; exact Rd.nil
    · exact (hR.keepS (Nat.le_refl _) k (fun ad ha hs => by
        have := hA ad ha hb0
        have := hs.1
        omega)).more k.size
  obtain ⟨e1, e2⟩ := app_same hg b
  refine (h.rappend A b lb c hl (by omega) hr).mono ?_
  rintro e w' ⟨⟨he, hp⟩, hk⟩
  rw [e2] at he
  rw [e1] at hp
  exact ⟨he, Lib.hid ⟨hp, k.trans hk (fun _ _ h => h)⟩⟩
end
/-- The bytes that aren't turned yet. -/
structure Rest (w : World) (ob : Nat) (b : List UInt8) (j : Nat) : Prop where
  h : ∃ cs : Array Value, w.heap[ob]? = some (.cells cs 5 (0, 0)) ∧ ∀ i x, j ≤ i → b[i]? = some x → cs[i]? = some (.int .u8 x.toNat)
theorem Rest.cell {w : World} {ob j : Nat} {b : List UInt8} (h : Rest w ob b j) {x : UInt8} (hx : b[j]? = some x) : w.cell? ⟨ob, j, none⟩ = some (.int .u8 x.toNat) ∧ w.frozen? ⟨ob, j, none⟩ = false := by
  obtain ⟨cs, e, hc⟩ := h.h
  have := hc j x (Nat.le_refl _) hx
  exact ⟨by simp [World.cell?, e, this], by simp [World.frozen?, e]⟩
theorem Rest.next {w : World} {ob j : Nat} {b : List UInt8} (h : Rest w ob b j) (u : Value) : Rest (w.setCell ⟨ob, j, none⟩ u) ob b (j + 1) := by
  obtain ⟨cs, e, hc⟩ := h.h
  refine ⟨_, heap_setCell_same w ob j _ _ u e, fun i x hi hx => ?_⟩
  rw [Array.getElem?_setIfInBounds_ne (by omega)]
  exact hc i x (by omega) hx
theorem Rest.ofOwn {w : World} {A : Option Addr} {n c : Nat} {bs : List UInt8} (h : Own 5 w (.slice A n c) bs) (hn : 0 < n) : ∃ ob, A = some ⟨ob, 0, none⟩ ∧ Rest w ob bs 0 := by
  have hl := h.len
  rcases h.2 with ⟨e, h0⟩ | ⟨g, cap, cur, e, _, hg, hnc, _, hcs, ht⟩
  · omega
  · injection e with e _ _
    refine ⟨g, e, cur, hg, fun i x _ hx => ?_⟩
    have hi : i < bs.length := (List.getElem?_eq_some_iff.1 hx).1
    have h1 : (u8s bs)[i]? = some (.int .u8 x.toNat) := by simp [u8s, hx]
    rw [← ht, List.getElem?_take, if_pos (by omega)] at h1
    simpa using h1
end Go.Proofs.Ytncenfgnhamdbaa
