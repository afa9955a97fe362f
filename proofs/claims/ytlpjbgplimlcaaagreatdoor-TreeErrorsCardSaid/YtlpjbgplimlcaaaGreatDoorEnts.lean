/-
  Rows of entries in memory: two cells each, a text and a number. It speaks of no program.
-/
import Derived.Test.YtlpjbgplimlcaaaGreatDoorTexts
import Derived.Test.YtlpjbgplimlcaaaGreatDoorRowMath
namespace Go.Proofs.YtlpjbgplimlcaaaGreatDoor
open Go.RowKit

/-- An entry's cells. -/
def entCells (e : Txt × Nat) : List Value := [.string (ba e.1), .int .i64 (e.2 : Int)]
def rowCells (es : Row) : List Value := es.flatMap entCells
theorem rowCells_append (a b : Row) : rowCells (a ++ b) = rowCells a ++ rowCells b := List.flatMap_append
theorem rowCells_length (es : Row) : (rowCells es).length = es.length * 2 := by
  induction es with
  | nil => rfl
  | cons e r ih =>
    show (entCells e ++ rowCells r).length = _
    rw [List.length_append, ih, List.length_cons]
    simp [entCells]
    omega
theorem rowCells_one (es : Row) : ∀ u ∈ rowCells es, u.oneCell' = true := by
  intro u hu
  obtain ⟨e, _, he⟩ := List.mem_flatMap.1 hu
  simp [entCells] at he
  rcases he with rfl | rfl <;> rfl
theorem rowCells_get {es : Row} {j : Nat} {e : Txt × Nat} (h : es[j]? = some e) : (rowCells es)[j * 2]? = some (.string (ba e.1)) ∧ (rowCells es)[j * 2 + 1]? = some (.int .i64 (e.2 : Int)) := by
  induction es generalizing j with
  | nil => simp at h
  | cons x r ih =>
    have e1 : rowCells (x :: r) = .string (ba x.1) :: .int .i64 (x.2 : Int) :: rowCells r := rfl
    rw [e1]
    rcases j with _ | j
    · injection h with h
      subst h
      exact ⟨rfl, rfl⟩
    · have := ih (j := j) (by simpa using h)
      have e2 : (j + 1) * 2 = j * 2 + 1 + 1 := by omega
      rw [e2]
      exact ⟨this.1, this.2⟩
/-- From the address A on, in blocks below B, the cells hold the entries es. -/
def Ents (w : World) (B : Nat) (A : Option Addr) (es : Row) : Prop :=
  ∀ j e, es[j]? = some e → ∃ b o, A = some ⟨b, o, none⟩ ∧ b < B ∧ w.cell? ⟨b, o + j * 2, none⟩ = some (.string (ba e.1)) ∧ w.cell? ⟨b, o + j * 2 + 1, none⟩ = some (.int .i64 (e.2 : Int))
section
variable {w w' : World} {A : Option Addr} {es : Row} {B B' : Nat}
theorem Ents.nil : Ents w B A [] := fun j e h => by simp at h
theorem Ents.far (h : Ents w B A es) (hk : ∀ p : Addr, p.block < B → w'.cell? p = w.cell? p) : Ents w' B A es := fun j e hj => by
  obtain ⟨b, o, rfl, hb, h1, h2⟩ := h j e hj
  exact ⟨b, o, rfl, hb, (hk _ hb).trans h1, (hk _ hb).trans h2⟩
theorem Ents.more (h : Ents w B A es) (hB : B ≤ B') : Ents w B' A es := fun j e hj => by
  obtain ⟨b, o, rfl, hb, h1, h2⟩ := h j e hj
  exact ⟨b, o, rfl, by omega, h1, h2⟩
theorem Ents.keep {S : Nat → Prop} (h : Ents w B A es) (hB : B ≤ w.heap.size) (k : Keep S w w') (hS : ∀ a : Addr, A = some a → ¬ S a.block) : Ents w' B A es := fun j e hj => by
  obtain ⟨b, o, rfl, hb, h1, h2⟩ := h j e hj
  have hn : ¬ S b := hS _ rfl
  exact ⟨b, o, rfl, hb, (k.cell (by show b < _; omega) hn).trans h1, (k.cell (by show b < _; omega) hn).trans h2⟩
theorem Ents.drewN (h : Ents w B A es) (n : Nat) : Ents (w.drewN n) B A es := h
theorem Ents.drop {b o : Nat} (h : Ents w B (some ⟨b, o, none⟩) es) (k : Nat) : Ents w B (some ⟨b, o + k * 2, none⟩) (es.drop k) := fun j e hj => by
  rw [List.getElem?_drop] at hj
  obtain ⟨b', o', ha, hb, h1, h2⟩ := h (k + j) e hj
  injection ha with ha
  injection ha with ha1 ha2
  subst ha1 ha2
  have e : o + k * 2 + j * 2 = o + (k + j) * 2 := by omega
  exact ⟨b, _, rfl, hb, by rw [e]; exact h1, by rw [e]; exact h2⟩
theorem Ents.take (h : Ents w B A es) (k : Nat) : Ents w B A (es.take k) := fun j e hj => h j e (by
  rw [List.getElem?_take] at hj
  split at hj
  · exact hj
  · cases hj)
theorem Ents.at_ (h : Ents w B A es) {j : Nat} (hj : j < es.length) : ∃ b o, A = some ⟨b, o, none⟩ ∧ b < B ∧ w.cell? ⟨b, o + j * 2, none⟩ = some (.string (ba es[j].1)) ∧ w.cell? ⟨b, o + j * 2 + 1, none⟩ = some (.int .i64 (es[j].2 : Int)) :=
  h j _ (List.getElem?_eq_getElem hj)
end

/-- What the laws on append ask of a type of rows of entries. -/
structure Et (P : Program) (T E : TypeId) : Prop where
  under : P.underlying T = some (.slice E)
  info : ∃ i z, P.info? E = some i ∧ i.zero = some z ∧ i.size = 2 ∧ i.bytes = 24 ∧ z.cells.size = 2
/-- The value v is a row of the call's own that holds the entries es. -/
def OwnE (E : TypeId) (w : World) (v : Value) (es : Row) : Prop := w.ownsRow 0 E 2 v es.length (rowCells es)
section
variable {P : Program} {E : TypeId} {w w' : World} {v : Value} {es : Row}
theorem OwnE.shape (h : OwnE E w v es) : ∃ A c, v = .slice A es.length c ∧ es.length ≤ c ∧ c ≤ maxLen ∧ Ents w w.heap.size A es ∧ (∀ a : Addr, A = some a → v.ownBlock = some a.block) := by
  rcases h.2 with ⟨rfl, h0⟩ | ⟨g, cap, cur, rfl, _, hg, hnc, hcm, _⟩
  · have : es = [] := List.eq_nil_of_length_eq_zero h0
    subst this
    exact ⟨none, 0, rfl, Nat.le_refl _, Nat.zero_le _, Ents.nil, fun a ha => by cases ha⟩
  · refine ⟨some ⟨g, 0, none⟩, cap, rfl, hnc, hcm, fun j e hj => ?_, fun a ha => ?_⟩
    · have hlt := (Array.getElem?_eq_some_iff.1 hg).1
      obtain ⟨c1, c2⟩ := rowCells_get hj
      have h1 := World.ownsRow.cells (g := g) h rfl _ _ c1
      have h2 := World.ownsRow.cells (g := g) h rfl _ _ c2
      rw [add_flat] at h1 h2
      exact ⟨g, 0, rfl, hlt, h1, by rw [Nat.add_assoc]; exact h2⟩
    · injection ha with ha
      subst ha
      rfl
theorem OwnE.alloc (h : OwnE E w v es) (o : Obj) : OwnE E (w.alloc o) v es := World.ownsRow.alloc h o
theorem OwnE.empty (E : TypeId) (w : World) : OwnE E (w.alloc (.cells #[] E)) (.slice (some ⟨w.heap.size, 0, none⟩) 0 0) [] :=
  ⟨rfl, .inr ⟨w.heap.size, 0, #[], rfl, Nat.zero_le _, heap_alloc_new w _, Nat.le_refl _, Nat.zero_le _, rfl, rfl⟩⟩
theorem OwnE.kept {S : Nat → Prop} (h : OwnE E w v es) (hk : Keep S w w') (hs : ∀ k, v.ownBlock = some k → ¬ S k) : OwnE E w' v es := by
  refine ⟨h.1, ?_⟩
  rcases h.2 with h0 | ⟨g, cap, cur, hv, hb, hg, hnc, hcm, hcs, ht⟩
  · exact .inl h0
  · refine .inr ⟨g, cap, cur, hv, hb, ?_, hnc, hcm, hcs, ht⟩
    rw [hk.block g (Array.getElem?_eq_some_iff.1 hg).1 (hs g (by rw [hv]; rfl))]
    exact hg
end
section
variable {P : Program} (w : World)
theorem ents_one (e : Txt × Nat) (E : TypeId) : Ents (w.alloc (.cells #[.string (ba e.1), .int .i64 (e.2 : Int)] E)) (w.heap.size + 1) (some ⟨w.heap.size, 0, none⟩) [e] := fun j x hj => by
  rcases j with _ | j
  · injection hj with hj
    subst hj
    refine ⟨_, _, rfl, by omega, ?_, ?_⟩
    · rw [World.cell?_alloc_mark]; rfl
    · rw [World.cell?_alloc_mark]; rfl
  · simp at hj
theorem run_append_ent {T E : TypeId} (U : Et P T E) (ty : TypeId) (v : Value) (es : Row) (hown : OwnE E w v es) (B : Nat) (A : Option Addr) (c : Nat) (fs : Row) (n : Nat) (hn : n = fs.length) (hr : Ents w B A fs)
    (hb : es.length + fs.length ≤ 1000000000) :
    ∃ v' w', (Builtin.append_ #[T, T] ty #[v, .slice A n c]).run P w = .ok v' w' ∧ OwnE E w' v' (es ++ fs) ∧ w.grownBy w' v.ownBlock ∧ (v'.ownBlock = v.ownBlock ∨ v'.ownBlock = some w.heap.size) := by
  subst hn
  obtain ⟨i, z, hi, hz, hs, hby, hzs⟩ := U.info
  rcases hm : A with _ | ad
  · have : fs = [] := by
      rcases fs with _ | ⟨b, m⟩
      · rfl
      · obtain ⟨b, o, h, _⟩ := hr 0 b rfl
        rw [hm] at h
        cases h
    subst this
    refine ⟨v, w, ?_, by simpa using hown, World.grownBy.refl w _, .inl rfl⟩
    rcases hown.2 with ⟨rfl, h0⟩ | ⟨g, cap, cur, rfl, _, _, hnc, _⟩
    · simp [Builtin.append_, run_underlying U.under, sizeOf, typeInfo, hi, Builtin.lenOf, Builtin.firstCells]
    · simp [Builtin.append_, run_underlying U.under, sizeOf, typeInfo, hi, Builtin.lenOf, Builtin.firstCells, hnc, storeCells]
  · subst hm
    have hcells : ∀ j u, (rowCells fs)[j]? = some u → w.cell? (ad.add j) = some u := by
      intro j u hu
      have hlt : j < fs.length * 2 := by
        rcases Nat.lt_or_ge j (fs.length * 2) with h | h
        · exact h
        · rw [List.getElem?_eq_none (by rw [rowCells_length]; exact h)] at hu; cases hu
      have hq : j / 2 < fs.length := by omega
      obtain ⟨b, o, e, _, h1, h2⟩ := hr.at_ hq
      injection e with e
      subst e
      obtain ⟨c1, c2⟩ := rowCells_get (List.getElem?_eq_getElem hq)
      rw [add_flat]
      rcases Nat.mod_two_eq_zero_or_one j with hm | hm
      · have ej : j / 2 * 2 = j := by omega
        rw [ej] at c1 h1
        rw [c1] at hu
        injection hu with hu
        rw [← hu]
        exact h1
      · have ej : j / 2 * 2 + 1 = j := by omega
        rw [ej] at c2
        rw [Nat.add_assoc, ej] at h2
        rw [c2] at hu
        injection hu with hu
        rw [← hu]
        exact h2
    obtain ⟨v', w', hrun, h2, h3, _, h5⟩ := run_append_own_at (P := P) w 0 T ty E i z 2 24 U.under hi hz hs hby hzs (by omega) v es.length (rowCells es) hown ad fs.length c (rowCells fs) (rowCells_length fs) hcells
      (rowCells_one fs) (by simp only [maxLen]; omega) (by omega) (Nat.zero_le _)
    exact ⟨v', w', hrun, by simpa [OwnE, rowCells_append] using h2, h3, h5⟩
theorem wpList_append_ent {ops : Array Oper} {rest : List Oper} {o : Oper} {a : Act} {Q : Exit → Act → World → Prop} (hgd : o.guard = none) (s x : Operand) (T : TypeId)
    (ho : o.op = .call { callee := .builtin .append, args := #[s, x], argTypes := #[T, T] }) {E : TypeId} (U : Et P T E) (v : Value) (es : Row) (hs : a.eval s = v) (hown : OwnE E w v es) (B : Nat) (A : Option Addr) (n c : Nat) (fs : Row)
    (hx : a.eval x = .slice A n c) (hn : n = fs.length) (hr : Ents w B A fs) (hb : es.length + fs.length ≤ 1000000000)
    (h : ∀ A' n' c' w', OwnE E w' (.slice A' n' c') (es ++ fs) → Hid (n' = (es ++ fs).length) → n' ≤ c' → c' ≤ maxLen → w.grownBy w' v.ownBlock → ((Value.slice A' n' c').ownBlock = v.ownBlock ∨ (Value.slice A' n' c').ownBlock = some w.heap.size) → wpList P ops Q rest (a.put o.dst (.slice A' n' c')) w') : wpList P ops Q (o :: rest) a w := by
  refine wpList_plain hgd fun K hK => ?_
  obtain ⟨v', w', hrun, h2, h3, h4⟩ := run_append_ent (P := P) w U o.type v es hown B A c fs n hn hr hb
  unfold Oper.wp execOp
  simp only [ho, resolve, invoke, builtin, Sem.run_bind, Sem.run_pure, Result.andThen_ok, List.map_toArray, List.map_cons, List.map_nil, hs, hx, hrun]
  obtain ⟨A', c', rfl, hle, hm, _, _⟩ := h2.shape
  exact hK _ _ (h _ _ _ w' h2 rfl hle hm h3 h4)
end
end Go.Proofs.YtlpjbgplimlcaaaGreatDoor
