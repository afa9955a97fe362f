/-
  A row of texts that the call owns: built, appended to, read. It speaks of no program.
-/
import Derived.Test.YtncenfgnhamdbaaText
import Derived.BigFrame
namespace Go.Proofs.Ytncenfgnhamdbaa
open Go.RowKit

theorem add_flat (b o j : Nat) : (⟨b, o, none⟩ : Addr).add j = ⟨b, o + j, none⟩ := by unfold Addr.add; split <;> simp_all
/-- What the laws on append ask of a type of rows of texts. -/
structure St (P : Program) (T E : TypeId) : Prop where
  under : P.underlying T = some (.slice E)
  info : ∃ i, P.info? E = some i ∧ i.zero = some (.string ByteArray.empty) ∧ i.size = 1 ∧ i.bytes = 16
/-- The value v is a row of the call's own that holds the texts xs. -/
def OwnT (E : TypeId) (w : World) (v : Value) (xs : List ByteArray) : Prop := w.ownsRow 0 E 1 v xs.length (xs.map Value.string)
section
variable {P : Program} {E : TypeId} {w w' : World} {v : Value} {xs : List ByteArray}
theorem OwnT.shape (h : OwnT E w v xs) : ∃ A c, v = .slice A xs.length c ∧ xs.length ≤ c ∧ c ≤ maxLen ∧ Strs w w.heap.size A xs ∧ (∀ g, v.ownBlock = some g → ∃ o, A = some ⟨g, o, none⟩) := by
  rcases h.2 with ⟨rfl, h0⟩ | ⟨g, cap, cur, rfl, _, hg, hnc, hcm, _⟩
  · have : xs = [] := List.eq_nil_of_length_eq_zero h0
    subst this
    exact ⟨none, 0, rfl, Nat.le_refl _, Nat.zero_le _, Strs.nil, fun g hg => by simp [Value.ownBlock] at hg⟩
  · refine ⟨some ⟨g, 0, none⟩, cap, rfl, hnc, hcm, fun j x hj => ⟨g, 0, rfl, ?_, ?_⟩, fun k hk => ?_⟩
    · exact (Array.getElem?_eq_some_iff.1 hg).1
    · have := World.ownsRow.cells (g := g) h rfl j (.string x) (by rw [List.getElem?_map, hj]; rfl)
      rw [add_flat] at this
      exact this
    · simp [Value.ownBlock] at hk
      subst hk
      exact ⟨0, rfl⟩
theorem OwnT.alloc (h : OwnT E w v xs) (o : Obj) : OwnT E (w.alloc o) v xs := World.ownsRow.alloc h o
theorem OwnT.drew (h : OwnT E w v xs) : OwnT E w.drew v xs := h
theorem OwnT.empty (E : TypeId) (w : World) : OwnT E (w.alloc (.cells #[] E)) (.slice (some ⟨w.heap.size, 0, none⟩) 0 0) [] :=
  ⟨rfl, .inr ⟨w.heap.size, 0, #[], rfl, Nat.zero_le _, heap_alloc_new w _, Nat.le_refl _, Nat.zero_le _, rfl, rfl⟩⟩
theorem OwnT.kept {S : Nat → Prop} (h : OwnT E w v xs) (hk : Keep S w w') (hs : ∀ k, v.ownBlock = some k → ¬ S k) : OwnT E w' v xs := by
  refine ⟨h.1, ?_⟩
  rcases h.2 with h0 | ⟨g, cap, cur, hv, hb, hg, hnc, hcm, hcs, ht⟩
  · exact .inl h0
  · refine .inr ⟨g, cap, cur, hv, hb, ?_, hnc, hcm, hcs, ht⟩
    rw [hk.block g (Array.getElem?_eq_some_iff.1 hg).1 (hs g (by rw [hv]; rfl))]
    exact hg
end
section
variable {P : Program} (w : World)
theorem strs_one (s : ByteArray) (E : TypeId) : Strs (w.alloc (.cells #[.string s] E)) (w.heap.size + 1) (some ⟨w.heap.size, 0, none⟩) [s] := fun j x hj => by
  rcases j with _ | j
  · injection hj with hj
    subst hj
    refine ⟨_, _, rfl, by omega, ?_⟩
    rw [World.cell?_alloc_mark]
    rfl
  · simp at hj
theorem run_append_str {T E : TypeId} (U : St P T E) (ty : TypeId) (v : Value) (xs : List ByteArray) (hown : OwnT E w v xs) (B : Nat) (A : Option Addr) (c : Nat) (ys : List ByteArray) (n : Nat) (hn : n = ys.length) (hr : Strs w B A ys)
    (hb : xs.length + ys.length ≤ 1000000000) :
    ∃ v' w', (Builtin.append_ #[T, T] ty #[v, .slice A n c]).run P w = .ok v' w' ∧ OwnT E w' v' (xs ++ ys) ∧ w.grownBy w' v.ownBlock ∧ (v'.ownBlock = v.ownBlock ∨ v'.ownBlock = some w.heap.size) := by
  subst hn
  obtain ⟨i, hi, hz, hs, hby⟩ := U.info
  rcases hm : A with _ | ad
  · have : ys = [] := by
      rcases ys with _ | ⟨b, m⟩
      · rfl
      · obtain ⟨b, o, h, _⟩ := hr 0 b rfl
        rw [hm] at h
        cases h
    subst this
    refine ⟨v, w, ?_, by simpa using hown, World.grownBy.refl w _, .inl rfl⟩
    rcases hown.2 with ⟨rfl, h0⟩ | ⟨g, cap, cur, rfl, _, _, hnc, _⟩
    · simp [Builtin.append_, run_underlying U.under, sizeOf, typeInfo, hi, Builtin.lenOf, Builtin.firstCells]
    · simp [Builtin.append_, run_underlying U.under, sizeOf, typeInfo, hi, Builtin.lenOf, Builtin.firstCells, hnc, storeCells]
  · subst hm
    have hcells : ∀ j u, (ys.map Value.string)[j]? = some u → w.cell? (ad.add j) = some u := by
      intro j u hu
      rw [List.getElem?_map, Option.map_eq_some_iff] at hu
      obtain ⟨x, hx, rfl⟩ := hu
      obtain ⟨b, o, e, _, hc⟩ := hr j x hx
      injection e with e
      subst e
      rw [add_flat]
      exact hc
    obtain ⟨v', w', hrun, h2, h3, _, h5⟩ := run_append_own_at (P := P) w 0 T ty E i (.string ByteArray.empty) 1 16 U.under hi hz hs hby rfl (by omega) v xs.length (xs.map Value.string) hown ad ys.length c (ys.map Value.string) (by simp) hcells
      (fun u hu => by
        rw [List.mem_map] at hu
        obtain ⟨x, _, rfl⟩ := hu
        rfl) (by simp only [maxLen]; omega) (by omega) (Nat.zero_le _)
    exact ⟨v', w', hrun, by simpa [OwnT] using h2, h3, h5⟩
theorem wpList_append_str {ops : Array Oper} {rest : List Oper} {o : Oper} {a : Act} {Q : Exit → Act → World → Prop} (hgd : o.guard = none) (s x : Operand) (T : TypeId)
    (ho : o.op = .call { callee := .builtin .append, args := #[s, x], argTypes := #[T, T] }) {E : TypeId} (U : St P T E) (v : Value) (xs : List ByteArray) (hs : a.eval s = v) (hown : OwnT E w v xs) (B : Nat) (A : Option Addr) (n c : Nat) (ys : List ByteArray)
    (hx : a.eval x = .slice A n c) (hn : n = ys.length) (hr : Strs w B A ys) (hb : xs.length + ys.length ≤ 1000000000)
    (h : ∀ A' n' c' w', OwnT E w' (.slice A' n' c') (xs ++ ys) → Hid (n' = (xs ++ ys).length) → n' ≤ c' → c' ≤ maxLen → w.grownBy w' v.ownBlock → ((Value.slice A' n' c').ownBlock = v.ownBlock ∨ (Value.slice A' n' c').ownBlock = some w.heap.size) → wpList P ops Q rest (a.put o.dst (.slice A' n' c')) w') : wpList P ops Q (o :: rest) a w := by
  refine wpList_plain hgd fun K hK => ?_
  obtain ⟨v', w', hrun, h2, h3, h4⟩ := run_append_str (P := P) w U o.type v xs hown B A c ys n hn hr hb
  unfold Oper.wp execOp
  simp only [ho, resolve, invoke, builtin, Sem.run_bind, Sem.run_pure, Result.andThen_ok, List.map_toArray, List.map_cons, List.map_nil, hs, hx, hrun]
  obtain ⟨A', c', rfl, hle, hm, _, _⟩ := h2.shape
  exact hK _ _ (h _ _ _ w' h2 rfl hle hm h3 h4)
theorem wp_append_str {o : Oper} {a : Act} {K : Act → World → Prop} {Q : Exit → Act → World → Prop} (s x : Operand) (T : TypeId)
    (ho : o.op = .call { callee := .builtin .append, args := #[s, x], argTypes := #[T, T] }) {E : TypeId} (U : St P T E) (v : Value) (xs : List ByteArray) (hs : a.eval s = v) (hown : OwnT E w v xs) (B : Nat) (A : Option Addr) (n c : Nat) (ys : List ByteArray)
    (hx : a.eval x = .slice A n c) (hn : n = ys.length) (hr : Strs w B A ys) (hb : xs.length + ys.length ≤ 1000000000)
    (h : ∀ A' n' c' w', OwnT E w' (.slice A' n' c') (xs ++ ys) → Hid (n' = (xs ++ ys).length) → n' ≤ c' → c' ≤ maxLen → w.grownBy w' v.ownBlock → ((Value.slice A' n' c').ownBlock = v.ownBlock ∨ (Value.slice A' n' c').ownBlock = some w.heap.size) → K (a.put o.dst (.slice A' n' c')) w') : o.wp P a w K Q := by
  obtain ⟨v', w', hrun, h2, h3, h4⟩ := run_append_str (P := P) w U o.type v xs hown B A c ys n hn hr hb
  unfold Oper.wp execOp
  simp only [ho, resolve, invoke, builtin, Sem.run_bind, Sem.run_pure, Result.andThen_ok, List.map_toArray, List.map_cons, List.map_nil, hs, hx, hrun]
  obtain ⟨A', c', rfl, hle, hm, _, _⟩ := h2.shape
  exact h _ _ _ w' h2 rfl hle hm h3 h4
theorem wpList_append_want {ops : Array Oper} {rest : List Oper} {o : Oper} {a : Act} {Q : Exit → Act → World → Prop} (hw : Region.wanted o (yielded ops a.tmps) = true) (s x : Operand) (T : TypeId)
    (ho : o.op = .call { callee := .builtin .append, args := #[s, x], argTypes := #[T, T] }) {E : TypeId} (U : St P T E) (v : Value) (xs : List ByteArray) (hs : a.eval s = v) (hown : OwnT E w v xs) (B : Nat) (A : Option Addr) (n c : Nat) (ys : List ByteArray)
    (hx : a.eval x = .slice A n c) (hn : n = ys.length) (hr : Strs w B A ys) (hb : xs.length + ys.length ≤ 1000000000)
    (h : ∀ A' n' c' w', OwnT E w' (.slice A' n' c') (xs ++ ys) → Hid (n' = (xs ++ ys).length) → n' ≤ c' → c' ≤ maxLen → w.grownBy w' v.ownBlock → ((Value.slice A' n' c').ownBlock = v.ownBlock ∨ (Value.slice A' n' c').ownBlock = some w.heap.size) → wpList P ops Q rest (a.put o.dst (.slice A' n' c')) w') : wpList P ops Q (o :: rest) a w :=
  BigFrame.wpList_want hw fun _ hK => wp_append_str w s x T ho U v xs hs hown B A n c ys hx hn hr hb fun A' n' c' w' h2 h3 h4 h5 h6 h7 => hK _ _ (h A' n' c' w' h2 h3 h4 h5 h6 h7)
end
end Go.Proofs.Ytncenfgnhamdbaa
