/-
  Rows of texts that lie in memory, and what a call keeps that only lays new memory. It speaks of no program.
-/
import Derived.Test.YtncenfgnhamdbaaBase
import Derived.Test.YtncenfgnhamdbaaPathMath
import Derived.Lib.SliceRun
namespace Go.Proofs.Ytncenfgnhamdbaa
open Go.RowKit

/-- Whatever was there is as it was. -/
abbrev KF (a w : World) : Prop := Keep (fun _ => False) a w
section
variable {a b c w : World}
theorem KF.refl (a : World) : KF a a := Keep.refl _ a
theorem KF.trans (h : KF a b) (k : KF b c) : KF a c := Keep.trans h k fun _ _ h => h
theorem KF.of_below (h : Below a.heap.size a w) : KF a w := Keep.of_below h _
theorem KF.below (h : KF a w) : Below a.heap.size a w := Keep.below h (Nat.le_refl _) fun _ _ h => h
theorem KF.cell (h : KF a w) {p : Addr} (hp : p.block < a.heap.size) : w.cell? p = a.cell? p := Keep.cell h hp fun h => h
end

/-- From the address A on, in blocks below B, the cells hold the texts xs. -/
def Strs (w : World) (B : Nat) (A : Option Addr) (xs : List ByteArray) : Prop :=
  ∀ j x, xs[j]? = some x → ∃ b o, A = some ⟨b, o, none⟩ ∧ b < B ∧ w.cell? ⟨b, o + j, none⟩ = some (.string x)
section
variable {w w' : World} {A : Option Addr} {xs : List ByteArray} {B B' : Nat}
theorem Strs.nil : Strs w B A [] := fun j x h => by simp at h
theorem Strs.keep (h : Strs w B A xs) (hB : B ≤ w.heap.size) (k : KF w w') : Strs w' B A xs := fun j x hj => by
  obtain ⟨b, o, rfl, hb, hc⟩ := h j x hj
  exact ⟨b, o, rfl, hb, (k.cell (by show b < _; omega)).trans hc⟩
theorem Strs.more (h : Strs w B A xs) (hB : B ≤ B') : Strs w B' A xs := fun j x hj => by
  obtain ⟨b, o, rfl, hb, hc⟩ := h j x hj
  exact ⟨b, o, rfl, by omega, hc⟩
theorem Strs.kept (h : Strs w w.heap.size A xs) (k : KF w w') : Strs w' w'.heap.size A xs := (h.keep (Nat.le_refl _) k).more k.size
theorem Strs.take (h : Strs w B A xs) (n : Nat) : Strs w B A (xs.take n) := fun j x hj => h j x (by
  rw [List.getElem?_take] at hj
  split at hj
  · exact hj
  · cases hj)
theorem Strs.drew (h : Strs w B A xs) : Strs w.drew B A xs := h
theorem Strs.drewN (h : Strs w B A xs) (n : Nat) : Strs (w.drewN n) B A xs := h
theorem Strs.head (h : Strs w B A xs) (hn : 0 < xs.length) : ∃ b o, A = some ⟨b, o, none⟩ ∧ b < B := by
  obtain ⟨b, o, rfl, hb, _⟩ := h 0 _ (List.getElem?_eq_getElem hn)
  exact ⟨b, o, rfl, hb⟩
theorem Strs.at_ {b o : Nat} (h : Strs w B (some ⟨b, o, none⟩) xs) {j : Nat} {x : ByteArray} (hj : xs[j]? = some x) : w.cell? ⟨b, o + j, none⟩ = some (.string x) := by
  obtain ⟨b', o', e, _, hc⟩ := h j x hj
  injection e with e
  injection e with e1 e2
  subst e1 e2
  exact hc
end
theorem ba_data (x : ByteArray) : ba x.data.toList = x := by cases x; rfl
theorem ba_inj {l m : Txt} (h : ba l = ba m) : l = m := by
  have := congrArg (fun b => b.data.toList) h
  simpa using this
theorem ba_ext {x y : ByteArray} : x.data.toList = y.data.toList ↔ x = y :=
  ⟨fun h => by rw [← ba_data x, ← ba_data y, h], fun h => by rw [h]⟩
theorem ba_size (l : Txt) : (ba l).size = l.length := by simp [ByteArray.size]
theorem size_len (x : ByteArray) : x.size = x.data.toList.length := Lib.size_eq x
end Go.Proofs.Ytncenfgnhamdbaa
