/-
  Rows of things of two or three cells stored into; rows of rows of bytes. It speaks of no program.
-/
import Derived.Test.YtncenfgnhamdbaaRowC
namespace Go.Proofs.Ytncenfgnhamdbaa
open Go.RowKit

section
variable {α : Type} {e0 e1 e2 : α → Value}
theorem flat2 : ∀ (xs : List α) (j : Nat) (x : α), ((xs.flatMap fun x => [e0 x, e1 x]).set (j * 2) (e0 x)).set (j * 2 + 1) (e1 x) = (xs.set j x).flatMap fun x => [e0 x, e1 x]
  | [], j, x => by simp
  | y :: ys, 0, x => by simp
  | y :: ys, j + 1, x => by
    have ih := flat2 ys j x
    have h1 : (j + 1) * 2 = j * 2 + 1 + 1 := by omega
    rw [h1, List.set_cons_succ, List.flatMap_cons, List.flatMap_cons, ← ih]
    simp
theorem flat3 : ∀ (xs : List α) (j : Nat) (x : α), (((xs.flatMap fun x => [e0 x, e1 x, e2 x]).set (j * 3) (e0 x)).set (j * 3 + 1) (e1 x)).set (j * 3 + 2) (e2 x) = (xs.set j x).flatMap fun x => [e0 x, e1 x, e2 x]
  | [], j, x => by simp
  | y :: ys, 0, x => by simp
  | y :: ys, j + 1, x => by
    have ih := flat3 ys j x
    have h1 : (j + 1) * 3 = j * 3 + 1 + 1 + 1 := by omega
    rw [h1, List.set_cons_succ, List.flatMap_cons, List.flatMap_cons, ← ih]
    simp
theorem flat3_last : ∀ (xs : List α) (j : Nat) (x : α), (∀ y, xs[j]? = some y → e0 y = e0 x ∧ e1 y = e1 x) → (xs.flatMap fun x => [e0 x, e1 x, e2 x]).set (j * 3 + 2) (e2 x) = (xs.set j x).flatMap fun x => [e0 x, e1 x, e2 x]
  | [], j, x, _ => by simp
  | y :: ys, 0, x, h => by
    obtain ⟨h0, h1⟩ := h y rfl
    simp [h0, h1]
  | y :: ys, j + 1, x, h => by
    have ih := flat3_last ys j x (fun z hz => h z (by simpa using hz))
    have h1 : (j + 1) * 3 + 2 = j * 3 + 2 + 1 + 1 + 1 := by omega
    rw [h1, List.set_cons_succ, List.flatMap_cons, List.flatMap_cons, ← ih]
    simp
variable {E : TypeId} {w : World} {g n c : Nat} {xs : List α}
theorem OwnC.len {K : Nat} {enc : α → List Value} {A : Option Addr} {v : Value} (h : OwnC E K enc w (.slice A n c) xs) : n = xs.length := by
  rcases h.2 with ⟨e, h0⟩ | ⟨g, cap, cur, e, _⟩
  · injection e with e1 e2 e3
    omega
  · injection e
theorem OwnC.set2 (h : OwnC E 2 (fun x => [e0 x, e1 x]) w (.slice (some ⟨g, 0, none⟩) n c) xs) (j : Nat) (x : α) :
    OwnC E 2 (fun x => [e0 x, e1 x]) ((w.setCell ⟨g, j * 2, none⟩ (e0 x)).setCell ⟨g, j * 2 + 1, none⟩ (e1 x)) (.slice (some ⟨g, 0, none⟩) n c) (xs.set j x) := by
  obtain rfl := OwnC.len (v := .slice none 0 0) h
  have h1 := (World.ownsRow.stored (g := g) (World.ownsRow.stored (g := g) h (j * 2) (e0 x)).1 (j * 2 + 1) (e1 x)).1
  unfold OwnC
  rw [← flat2, List.length_set]
  exact h1
theorem OwnC.set3 (h : OwnC E 3 (fun x => [e0 x, e1 x, e2 x]) w (.slice (some ⟨g, 0, none⟩) n c) xs) (j : Nat) (x : α) :
    OwnC E 3 (fun x => [e0 x, e1 x, e2 x]) (((w.setCell ⟨g, j * 3, none⟩ (e0 x)).setCell ⟨g, j * 3 + 1, none⟩ (e1 x)).setCell ⟨g, j * 3 + 2, none⟩ (e2 x)) (.slice (some ⟨g, 0, none⟩) n c) (xs.set j x) := by
  obtain rfl := OwnC.len (v := .slice none 0 0) h
  have h1 := (World.ownsRow.stored (g := g) (World.ownsRow.stored (g := g) (World.ownsRow.stored (g := g) h (j * 3) (e0 x)).1 (j * 3 + 1) (e1 x)).1 (j * 3 + 2) (e2 x)).1
  unfold OwnC
  rw [← flat3, List.length_set]
  exact h1
theorem OwnC.set3_last (h : OwnC E 3 (fun x => [e0 x, e1 x, e2 x]) w (.slice (some ⟨g, 0, none⟩) n c) xs) (j : Nat) (x : α) (hx : ∀ y, xs[j]? = some y → e0 y = e0 x ∧ e1 y = e1 x) :
    OwnC E 3 (fun x => [e0 x, e1 x, e2 x]) (w.setCell ⟨g, j * 3 + 2, none⟩ (e2 x)) (.slice (some ⟨g, 0, none⟩) n c) (xs.set j x) := by
  obtain rfl := OwnC.len (v := .slice none 0 0) h
  have h1 := (World.ownsRow.stored (g := g) h (j * 3 + 2) (e2 x)).1
  unfold OwnC
  rw [← flat3_last xs j x hx, List.length_set]
  exact h1
end

section
variable {α : Type} {K : Nat} {enc : α → List Value}
theorem flat_take (hK : ∀ x, (enc x).length = K) : ∀ (xs : List α) (k : Nat), (xs.flatMap enc).take (k * K) = (xs.take k).flatMap enc
  | [], k => by simp
  | x :: xs, 0 => by simp
  | x :: xs, k + 1 => by
    have ih := flat_take hK xs k
    have h1 : (k + 1) * K = (enc x).length + k * K := by rw [hK, Nat.succ_mul]; omega
    rw [h1, List.flatMap_cons, List.take_append, List.take_of_length_le (by omega), List.take_succ_cons, List.flatMap_cons, Nat.add_sub_cancel_left, ih]
/-- A row cut at its end. -/
theorem OwnC.cut {E : TypeId} {w : World} {A : Option Addr} {n c : Nat} {xs : List α} (hK : ∀ x, (enc x).length = K) (h : OwnC E K enc w (.slice A n c) xs) (k : Nat) (hk : k ≤ n) : OwnC E K enc w (.slice A k c) (xs.take k) := by
  obtain rfl := OwnC.len (v := .slice none 0 0) h
  have hl : (xs.take k).length = k := by rw [List.length_take]; omega
  unfold OwnC
  rw [hl]
  refine ⟨by rw [flat_length hK, hl], ?_⟩
  rcases h.2 with ⟨e, h0⟩ | ⟨g, cap, cur, e, hb, hg, hnc, hcm, hcs, ht⟩
  · injection e with e1 e2 e3
    exact .inl ⟨by rw [e1, e3, show k = 0 by omega], by omega⟩
  · injection e with e1 e2 e3
    refine .inr ⟨g, cap, cur, by rw [e1, e3], hb, hg, by omega, hcm, hcs, ?_⟩
    rw [← flat_take hK, ← ht, List.take_take, Nat.min_eq_left (Nat.mul_le_mul_right K hk)]
end
section
variable {P : Program} (w : World) {α : Type} {K : Nat} {enc : α → List Value}
theorem step_append_c {ops : Array Oper} {o : Oper} {a : Act} {Kp : Act → World → Prop} {Q : Exit → Act → World → Prop} {N : Prop} (hgd : o.guard = none) (s x : Operand) (T : TypeId)
    (ho : o.op = .call { callee := .builtin .append, args := #[s, x], argTypes := #[T, T] }) {E : TypeId} {by_ : Nat} (U : Ct P T E K by_) (hK : ∀ x, (enc x).length = K) (h1 : ∀ x, ∀ u ∈ enc x, u.oneCell' = true) (hK0 : 0 < K) (v : Value) (es : List α) (hs : a.eval s = v) (hown : OwnC E K enc w v es) (B : Nat) (A : Option Addr) (n c : Nat) (fs : List α)
    (hx : a.eval x = .slice A n c) (hn : n = fs.length) (hr : RdC K enc w B A fs) (hb : (es.length + fs.length) * by_ ≤ 140737488355328) (hb2 : es.length + fs.length ≤ 1000000000)
    (h : ∀ A' n' c' w', OwnC E K enc w' (.slice A' n' c') (es ++ fs) → Hid (n' = (es ++ fs).length) → n' ≤ c' → c' ≤ maxLen → w.grownBy w' v.ownBlock → ((Value.slice A' n' c').ownBlock = v.ownBlock ∨ (Value.slice A' n' c').ownBlock = some w.heap.size) → Kp (a.put o.dst (.slice A' n' c')) w') : if Region.wanted o (yielded ops a.tmps) = true then Oper.wp P o a w Kp Q else N := by
  have hw : Region.wanted o (yielded ops a.tmps) = true := by simp [Region.wanted, hgd]
  rw [if_pos hw]
  exact wp_append_c w s x T ho U hK h1 hK0 v es hs hown B A n c fs hx hn hr hb hb2 h
end

/-- From the address A on, in blocks from L to below B, the cells hold the rows of bytes ls. -/
def RdS (w : World) (L B : Nat) (A : Option Addr) (ls : List (List UInt8)) : Prop :=
  ∀ j l, ls[j]? = some l → ∃ b o A' c, A = some ⟨b, o, none⟩ ∧ L ≤ b ∧ b < B ∧ w.cell? ⟨b, o + j, none⟩ = some (.slice A' l.length c) ∧ l.length ≤ c ∧ c ≤ maxLen ∧ Rd w B A' l ∧ (∀ a : Addr, A' = some a → l ≠ [] → L ≤ a.block)
section
variable {w w' : World} {L B B' : Nat} {A : Option Addr} {ls : List (List UInt8)}
theorem RdS.nil : RdS w L B A [] := fun j l h => by simp at h
theorem RdS.more (h : RdS w L B A ls) (hB : B ≤ B') : RdS w L B' A ls := fun j l hj => by
  obtain ⟨b, o, A', c, rfl, h0, h1, h2, h3, h4, h5, h6⟩ := h j l hj
  exact ⟨b, o, A', c, rfl, h0, by omega, h2, h3, h4, h5.more hB, h6⟩
theorem RdS.keep {S : Nat → Prop} (h : RdS w L B A ls) (hB : B ≤ w.heap.size) (k : Keep S w w') (hS : ∀ i, L ≤ i → i < B → ¬ S i) : RdS w' L B A ls := fun j l hj => by
  obtain ⟨b, o, A', c, rfl, h0, h1, h2, h3, h4, h5, h6⟩ := h j l hj
  refine ⟨b, o, A', c, rfl, h0, h1, (k.cell (p := ⟨b, o + j, none⟩) (by show b < _; omega) (hS b h0 h1)).trans h2, h3, h4, fun i x hi => ?_, h6⟩
  obtain ⟨a, rfl, ha, hc⟩ := h5 i x hi
  have hne : l ≠ [] := by rintro rfl; simp at hi
  exact ⟨a, rfl, ha, (k.cell (p := a.add i) (by rw [block_add]; omega) (by rw [block_add]; exact hS _ (h6 a rfl hne) ha)).trans hc⟩
theorem RdS.kept (h : RdS w L w.heap.size A ls) (k : KF w w') : RdS w' L w'.heap.size A ls := (h.keep (Nat.le_refl _) k (fun _ _ _ h => h)).more k.size
theorem RdS.low (h : RdS w L B A ls) : RdS w 0 B A ls := fun j l hj => by
  obtain ⟨b, o, A', c, rfl, h0, h1, h2, h3, h4, h5, h6⟩ := h j l hj
  exact ⟨b, o, A', c, rfl, Nat.zero_le _, h1, h2, h3, h4, h5, fun _ _ _ => Nat.zero_le _⟩
theorem RdS.take (h : RdS w L B A ls) (n : Nat) : RdS w L B A (ls.take n) := fun j l hj => h j l (by
  rw [List.getElem?_take] at hj
  split at hj
  · exact hj
  · cases hj)
end
end Go.Proofs.Ytncenfgnhamdbaa
