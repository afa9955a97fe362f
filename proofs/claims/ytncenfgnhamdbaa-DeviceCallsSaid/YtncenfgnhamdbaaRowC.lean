/-
  Rows of things of so many cells each, whatever they are: read, owned, appended to. It speaks of no program.
-/
import Derived.Test.YtncenfgnhamdbaaTexts
namespace Go.Proofs.Ytncenfgnhamdbaa
open Go.RowKit

section
variable {α : Type} {K : Nat} {enc : α → List Value}
theorem flat_length (hK : ∀ x, (enc x).length = K) : ∀ xs : List α, (xs.flatMap enc).length = xs.length * K
  | [] => by simp
  | x :: xs => by rw [List.flatMap_cons, List.length_append, hK, flat_length hK xs, List.length_cons, Nat.succ_mul]; omega
theorem flat_get (hK : ∀ x, (enc x).length = K) {i : Nat} (hi : i < K) : ∀ {xs : List α} {j : Nat} {x : α}, xs[j]? = some x → (xs.flatMap enc)[j * K + i]? = (enc x)[i]?
  | y :: xs, 0, x, h => by
    injection h with h
    subst h
    rw [List.flatMap_cons, Nat.zero_mul, Nat.zero_add, List.getElem?_append_left (by rw [hK]; exact hi)]
  | y :: xs, j + 1, x, h => by
    have ih := flat_get hK hi (xs := xs) (j := j) (x := x) (by simpa using h)
    rw [List.flatMap_cons, List.getElem?_append_right (by rw [hK, Nat.succ_mul]; omega), hK, ← ih]
    congr 1
    rw [Nat.succ_mul]
    omega
/-- From the address A on, in blocks below B, the cells hold the things xs. -/
def RdC (K : Nat) (enc : α → List Value) (w : World) (B : Nat) (A : Option Addr) (xs : List α) : Prop :=
  ∀ j x, xs[j]? = some x → ∃ b o, A = some ⟨b, o, none⟩ ∧ b < B ∧ ∀ i u, (enc x)[i]? = some u → w.cell? ⟨b, o + j * K + i, none⟩ = some u
variable {w w' : World} {B B' : Nat} {A : Option Addr} {xs : List α}
theorem RdC.nil : RdC K enc w B A [] := fun j x h => by simp at h
theorem RdC.keep {S : Nat → Prop} (h : RdC K enc w B A xs) (hB : B ≤ w.heap.size) (k : Keep S w w') (hS : ∀ a : Addr, A = some a → ¬ S a.block) : RdC K enc w' B A xs := fun j x hj => by
  obtain ⟨b, o, rfl, hb, h1⟩ := h j x hj
  have hn : ¬ S b := hS _ rfl
  exact ⟨b, o, rfl, hb, fun i u hu => (k.cell (p := ⟨b, o + j * K + i, none⟩) (by show b < _; omega) hn).trans (h1 i u hu)⟩
theorem RdC.more (h : RdC K enc w B A xs) (hB : B ≤ B') : RdC K enc w B' A xs := fun j x hj => by
  obtain ⟨b, o, rfl, hb, h1⟩ := h j x hj
  exact ⟨b, o, rfl, by omega, h1⟩
theorem RdC.kept (h : RdC K enc w w.heap.size A xs) (k : KF w w') : RdC K enc w' w'.heap.size A xs := (h.keep (Nat.le_refl _) k (fun _ _ h => h)).more k.size
/-- What the laws on append ask of a type of rows. -/
structure Ct (P : Program) (T E : TypeId) (K by_ : Nat) : Prop where
  under : P.underlying T = some (.slice E)
  info : ∃ i z, P.info? E = some i ∧ i.zero = some z ∧ i.size = K ∧ i.bytes = by_ ∧ z.cells.size = K
/-- The value v is a row of the call's own that holds the things xs. -/
def OwnC (E : TypeId) (K : Nat) (enc : α → List Value) (w : World) (v : Value) (xs : List α) : Prop := w.ownsRow 0 E K v xs.length (xs.flatMap enc)
variable {P : Program} {E : TypeId} {v : Value}
theorem OwnC.shape (hK : ∀ x, (enc x).length = K) (h : OwnC E K enc w v xs) : ∃ A c, v = .slice A xs.length c ∧ xs.length ≤ c ∧ c ≤ maxLen ∧ RdC K enc w w.heap.size A xs ∧ (∀ a : Addr, A = some a → v.ownBlock = some a.block) := by
  rcases h.2 with ⟨rfl, h0⟩ | ⟨g, cap, cur, rfl, _, hg, hnc, hcm, _⟩
  · have : xs = [] := List.eq_nil_of_length_eq_zero h0
    subst this
    exact ⟨none, 0, rfl, Nat.le_refl _, Nat.zero_le _, RdC.nil, fun a ha => by cases ha⟩
  · refine ⟨some ⟨g, 0, none⟩, cap, rfl, hnc, hcm, fun j x hj => ?_, fun a ha => ?_⟩
    · have hlt := (Array.getElem?_eq_some_iff.1 hg).1
      refine ⟨g, 0, rfl, hlt, fun i u hu => ?_⟩
      have hi : i < K := by
        rcases Nat.lt_or_ge i K with h' | h'
        · exact h'
        · rw [List.getElem?_eq_none (by rw [hK]; exact h')] at hu; cases hu
      have h1 := World.ownsRow.cells (g := g) h rfl (j * K + i) u (by rw [flat_get hK hi hj]; exact hu)
      rw [add_flat] at h1
      rw [Nat.add_assoc]
      exact h1
    · injection ha with ha
      subst ha
      rfl
theorem OwnC.alloc (h : OwnC E K enc w v xs) (o : Obj) : OwnC E K enc (w.alloc o) v xs := World.ownsRow.alloc h o
theorem OwnC.empty (E : TypeId) (w : World) : OwnC E K enc (w.alloc (.cells #[] E)) (.slice (some ⟨w.heap.size, 0, none⟩) 0 0) ([] : List α) :=
  ⟨by simp, .inr ⟨w.heap.size, 0, #[], rfl, Nat.zero_le _, heap_alloc_new w _, Nat.le_refl _, Nat.zero_le _, by simp, by simp⟩⟩
/-- One thing, laid by a literal. -/
theorem OwnC.one (hK : ∀ x, (enc x).length = K) (E : TypeId) (w : World) (x : α) : OwnC E K enc (w.alloc (.cells (enc x).toArray E)) (.slice (some ⟨w.heap.size, 0, none⟩) 1 1) [x] :=
  ⟨by simp [hK], .inr ⟨w.heap.size, 1, (enc x).toArray, rfl, Nat.zero_le _, heap_alloc_new w _, Nat.le_refl _, by simp [maxLen], by simp [hK], by simp only [List.length_cons, List.length_nil, Nat.zero_add, Nat.one_mul, List.flatMap_cons, List.flatMap_nil, List.append_nil]; exact List.take_of_length_le (by simp [hK])⟩⟩
theorem OwnC.kept {S : Nat → Prop} (h : OwnC E K enc w v xs) (hk : Keep S w w') (hs : ∀ k, v.ownBlock = some k → ¬ S k) : OwnC E K enc w' v xs := by
  refine ⟨h.1, ?_⟩
  rcases h.2 with h0 | ⟨g, cap, cur, hv, hb, hg, hnc, hcm, hcs, ht⟩
  · exact .inl h0
  · refine .inr ⟨g, cap, cur, hv, hb, ?_, hnc, hcm, hcs, ht⟩
    rw [hk.block g (Array.getElem?_eq_some_iff.1 hg).1 (hs g (by rw [hv]; rfl))]
    exact hg
theorem OwnC.cells_ (h : OwnC E K enc w v xs) {i : Nat} (hi : v.ownBlock = some i) : ∃ cs, w.heap[i]? = some (.cells cs E (0, 0)) := by
  rcases h.2 with ⟨rfl, _⟩ | ⟨g, cap, cur, rfl, _, hg, _⟩
  · simp [Value.ownBlock] at hi
  · simp [Value.ownBlock] at hi
    subst hi
    exact ⟨_, hg⟩
theorem OwnC.ne_ {t : TypeId} {cs : Array Value} {g : Nat} (h : OwnC E K enc w v xs) (hg : w.heap[g]? = some (.cells cs t (0, 0))) (hne : E ≠ t) : v.ownBlock ≠ some g := fun e => by
  obtain ⟨cs', h'⟩ := h.cells_ e
  rw [h'] at hg
  injection hg with hg
  injection hg with _ ht
  exact hne ht
theorem RdC.lit (hK : ∀ x, (enc x).length = K) (w : World) (E : TypeId) (x : α) : RdC K enc (w.alloc (.cells (enc x).toArray E)) (w.heap.size + 1) (some ⟨w.heap.size, 0, none⟩) [x] := by
  obtain ⟨A, c, e, _, _, h, _⟩ := (OwnC.one hK E w x).shape hK
  injection e with e _ _
  rw [← e] at h
  simpa using h
end
section
variable {P : Program} (w : World) {α : Type} {K : Nat} {enc : α → List Value}
theorem run_append_c {T E : TypeId} {by_ : Nat} (U : Ct P T E K by_) (hK : ∀ x, (enc x).length = K) (h1 : ∀ x, ∀ u ∈ enc x, u.oneCell' = true) (hK0 : 0 < K) (ty : TypeId) (v : Value) (es : List α) (hown : OwnC E K enc w v es) (B : Nat) (A : Option Addr) (c : Nat) (fs : List α) (n : Nat) (hn : n = fs.length) (hr : RdC K enc w B A fs)
    (hb : (es.length + fs.length) * by_ ≤ 140737488355328) (hb2 : es.length + fs.length ≤ 1000000000) :
    ∃ v' w', (Builtin.append_ #[T, T] ty #[v, .slice A n c]).run P w = .ok v' w' ∧ OwnC E K enc w' v' (es ++ fs) ∧ w.grownBy w' v.ownBlock ∧ (v'.ownBlock = v.ownBlock ∨ v'.ownBlock = some w.heap.size) := by
  subst hn
  obtain ⟨i, z, hi, hz, hs, hby, hzs⟩ := U.info
  rcases hm : A with _ | ad
  · have : fs = [] := by
      rcases fs with _ | ⟨b, m⟩
      · rfl
      · obtain ⟨b, o, h, _⟩ := hr 0 b rfl
        rw [hm] at h
        cases h
    subst this
    refine ⟨v, w, ?_, by simpa using hown, World.grownBy.refl w _, .inl rfl⟩
    rcases hown.2 with ⟨rfl, h0⟩ | ⟨g, cap, cur, rfl, _, _, hnc, _⟩
    · simp [Builtin.append_, run_underlying U.under, sizeOf, typeInfo, hi, Builtin.lenOf, Builtin.firstCells]
    · simp [Builtin.append_, run_underlying U.under, sizeOf, typeInfo, hi, Builtin.lenOf, Builtin.firstCells, hnc, storeCells]
  · subst hm
    have hcells : ∀ j u, (fs.flatMap enc)[j]? = some u → w.cell? (ad.add j) = some u := by
      intro j u hu
      have hlt : j < fs.length * K := by
        rcases Nat.lt_or_ge j (fs.length * K) with h | h
        · exact h
        · rw [List.getElem?_eq_none (by rw [flat_length hK]; exact h)] at hu; cases hu
      have hq : j / K < fs.length := Nat.div_lt_of_lt_mul (by rw [Nat.mul_comm]; exact hlt)
      have hmod : j % K < K := Nat.mod_lt _ hK0
      have hj : j / K * K + j % K = j := by rw [Nat.mul_comm]; exact Nat.div_add_mod j K
      obtain ⟨b, o, e, _, hc⟩ := hr (j / K) fs[j / K] (List.getElem?_eq_getElem hq)
      injection e with e
      subst e
      have h2 := flat_get hK hmod (List.getElem?_eq_getElem hq)
      rw [hj, hu] at h2
      have h3 := hc (j % K) u h2.symm
      rw [add_flat]
      rw [Nat.add_assoc, hj] at h3
      exact h3
    obtain ⟨v', w', hrun, h2, h3, _, h5⟩ := run_append_own_at (P := P) w 0 T ty E i z K by_ U.under hi hz hs hby hzs hK0 v es.length (es.flatMap enc) hown ad fs.length c (fs.flatMap enc) (flat_length hK fs) hcells
      (fun u hu => by obtain ⟨x, _, hx⟩ := List.mem_flatMap.1 hu; exact h1 x u hx) (by simp only [maxLen]; omega) (by omega) (Nat.zero_le _)
    exact ⟨v', w', hrun, by unfold OwnC; rw [List.length_append, List.flatMap_append]; exact h2, h3, h5⟩
theorem wp_append_c {o : Oper} {a : Act} {Kp : Act → World → Prop} {Q : Exit → Act → World → Prop} (s x : Operand) (T : TypeId)
    (ho : o.op = .call { callee := .builtin .append, args := #[s, x], argTypes := #[T, T] }) {E : TypeId} {by_ : Nat} (U : Ct P T E K by_) (hK : ∀ x, (enc x).length = K) (h1 : ∀ x, ∀ u ∈ enc x, u.oneCell' = true) (hK0 : 0 < K) (v : Value) (es : List α) (hs : a.eval s = v) (hown : OwnC E K enc w v es) (B : Nat) (A : Option Addr) (n c : Nat) (fs : List α)
    (hx : a.eval x = .slice A n c) (hn : n = fs.length) (hr : RdC K enc w B A fs) (hb : (es.length + fs.length) * by_ ≤ 140737488355328) (hb2 : es.length + fs.length ≤ 1000000000)
    (h : ∀ A' n' c' w', OwnC E K enc w' (.slice A' n' c') (es ++ fs) → Hid (n' = (es ++ fs).length) → n' ≤ c' → c' ≤ maxLen → w.grownBy w' v.ownBlock → ((Value.slice A' n' c').ownBlock = v.ownBlock ∨ (Value.slice A' n' c').ownBlock = some w.heap.size) → Kp (a.put o.dst (.slice A' n' c')) w') : o.wp P a w Kp Q := by
  obtain ⟨v', w', hrun, h2, h3, h4⟩ := run_append_c (P := P) w U hK h1 hK0 o.type v es hown B A c fs n hn hr hb hb2
  unfold Oper.wp execOp
  simp only [ho, resolve, invoke, builtin, Sem.run_bind, Sem.run_pure, Result.andThen_ok, List.map_toArray, List.map_cons, List.map_nil, hs, hx, hrun]
  obtain ⟨A', c', rfl, hle, hm, _, _⟩ := h2.shape hK
  exact h _ _ _ w' h2 rfl hle hm h3 h4
theorem wpList_append_c {ops : Array Oper} {rest : List Oper} {o : Oper} {a : Act} {Q : Exit → Act → World → Prop} (hgd : o.guard = none) (s x : Operand) (T : TypeId)
    (ho : o.op = .call { callee := .builtin .append, args := #[s, x], argTypes := #[T, T] }) {E : TypeId} {by_ : Nat} (U : Ct P T E K by_) (hK : ∀ x, (enc x).length = K) (h1 : ∀ x, ∀ u ∈ enc x, u.oneCell' = true) (hK0 : 0 < K) (v : Value) (es : List α) (hs : a.eval s = v) (hown : OwnC E K enc w v es) (B : Nat) (A : Option Addr) (n c : Nat) (fs : List α)
    (hx : a.eval x = .slice A n c) (hn : n = fs.length) (hr : RdC K enc w B A fs) (hb : (es.length + fs.length) * by_ ≤ 140737488355328) (hb2 : es.length + fs.length ≤ 1000000000)
    (h : ∀ A' n' c' w', OwnC E K enc w' (.slice A' n' c') (es ++ fs) → Hid (n' = (es ++ fs).length) → n' ≤ c' → c' ≤ maxLen → w.grownBy w' v.ownBlock → ((Value.slice A' n' c').ownBlock = v.ownBlock ∨ (Value.slice A' n' c').ownBlock = some w.heap.size) → wpList P ops Q rest (a.put o.dst (.slice A' n' c')) w') : wpList P ops Q (o :: rest) a w :=
  wpList_plain hgd fun _ hKp => wp_append_c w s x T ho U hK h1 hK0 v es hs hown B A n c fs hx hn hr hb hb2 fun A' n' c' w' h2 h3 h4 h5 h6 h7 => hKp _ _ (h A' n' c' w' h2 h3 h4 h5 h6 h7)
end
end Go.Proofs.Ytncenfgnhamdbaa
