/-
  WALKS: takeAnswer of package call.
-/
import Derived.Test.YtklpebfkgdklmaaDoorList
import Derived.Test.YtklpebfkgdklmaaDoorDecode
namespace Go.Proofs.YtklpebfkgdklmaaDoor
open Go.RowKit

/-- An answer, its numbers whatever ints. -/
structure IAns where
  err : Int
  kind : Int
  size : Int
  links : Int
  data : Txt
  names : List Txt
/-- The reader behind the fields of an answer; the answer. -/
noncomputable def ansS : Nat → List UInt8 × Bool → List UInt8 × Bool
  | 0, s => s
  | 1, s => tk 8 s
  | 2, s => tk 8 (tk 8 s)
  | 3, s => tk 8 (tk 8 (tk 8 s))
  | 4, s => tk 8 (tk 8 (tk 8 (tk 8 s)))
  | 5, s => byS 4096 (tk 8 (tk 8 (tk 8 (tk 8 s))))
  | _, s => lstE 64 (byS 4096 (tk 8 (tk 8 (tk 8 (tk 8 s)))))
noncomputable def takeA (s : List UInt8 × Bool) : IAns :=
  ⟨asInt64 (num (tkL 8 s.1 s.2)), asInt64 (num (tkL 8 (ansS 1 s).1 (ansS 1 s).2)), asInt64 (num (tkL 8 (ansS 2 s).1 (ansS 2 s).2)), asInt64 (num (tkL 8 (ansS 3 s).1 (ansS 3 s).2)), byV 4096 (ansS 4 s), lstX 64 (ansS 5 s)⟩
theorem ansS_len (s : List UInt8 × Bool) : ∀ k, k ≤ 5 → (ansS k s).1.length ≤ s.1.length
  | 0, _ => Nat.le_refl _
  | 1, _ => tk_len _ _
  | 2, _ => Nat.le_trans (tk_len _ _) (tk_len _ _)
  | 3, _ => Nat.le_trans (tk_len _ _) (Nat.le_trans (tk_len _ _) (tk_len _ _))
  | 4, _ => Nat.le_trans (tk_len _ _) (Nat.le_trans (tk_len _ _) (Nat.le_trans (tk_len _ _) (tk_len _ _)))
  | 5, _ => Nat.le_trans (byS_len _ _) (Nat.le_trans (tk_len _ _) (Nat.le_trans (tk_len _ _) (Nat.le_trans (tk_len _ _) (tk_len _ _))))
  | _ + 6, h => absurd h (by omega)
/-- Bytes stay where a block turns that holds none. -/
theorem Rd.past {w w' : World} {B : Nat} {A : Option Addr} {l : List UInt8} (h : Rd w B A l) (hB : B ≤ w.heap.size) {g : Nat} {cs : Array Value} {t : TypeId} {fr : Nat × Nat} (hg : w.heap[g]? = some (.cells cs t fr)) (hno : ∀ x ∈ cs.toList, ∀ z, x ≠ .int .u8 z) (k : Keep (fun i => i = g) w w') : Rd w' B A l := fun j b hj => by
  obtain ⟨a, rfl, hb, hc⟩ := h j b hj
  exact ⟨a, rfl, hb, (k.cell (by rw [block_add]; omega) (by rw [block_add]; exact h.far hg hno j (List.getElem?_eq_some_iff.1 hj).1 a rfl)).trans hc⟩
theorem RdE.past {w w' : World} {g B : Nat} {s : List UInt8 × Bool} {A : Option Addr} {l : List UInt8} (h : RdE w g s) (hr : Rd w B A l) (hB : B ≤ w.heap.size) (k : Keep (fun i => i = g) w w') : Rd w' B A l := by
  obtain ⟨A0, c, h⟩ := h
  exact hr.past hB h.block Rr.no k
theorem Strs.past {w w' : World} {A : Option Addr} {xs : List ByteArray} {g : Nat} (h : Strs w w.heap.size A xs) (k : Keep (fun i => i = g) w w') (hA : ∀ a : Addr, A = some a → g < a.block) : Strs w' w'.heap.size A xs := fun j x hj => by
  obtain ⟨b, o, rfl, hb, hc⟩ := h j x hj
  exact ⟨b, o, rfl, Nat.lt_of_lt_of_le hb k.size, (k.cell (p := ⟨b, o + j, none⟩) hb (by have := hA _ rfl; show ¬ b = g; simp only at this; omega)).trans hc⟩

/-- The cells of an answer that grows, field by field. -/
structure SixA (w : World) (g : Nat) (v0 v1 v2 v3 v4 v5 : Value) : Prop where
  block : w.heap[g]? = some (.cells #[v0, v1, v2, v3, v4, v5] 28)
section
variable {w w' : World} {g : Nat} {v0 v1 v2 v3 v4 v5 : Value}
theorem SixA.lt (h : SixA w g v0 v1 v2 v3 v4 v5) : g < w.heap.size := lt_of_block h.block
theorem SixA.kept {S : Nat → Prop} (h : SixA w g v0 v1 v2 v3 v4 v5) (k : Keep S w w') (hn : ¬ S g) : SixA w' g v0 v1 v2 v3 v4 v5 := ⟨(k.block g h.lt hn).trans h.block⟩
theorem SixA.free (h : SixA w g v0 v1 v2 v3 v4 v5) (i : Nat) : w.frozen? ⟨g, i, none⟩ = false := by simp [World.frozen?, h.block]
theorem SixA.set0 (h : SixA w g v0 v1 v2 v3 v4 v5) (v : Value) : SixA (w.setCell ⟨g, 0, none⟩ v) g v v1 v2 v3 v4 v5 := ⟨heap_setCell_same w g 0 _ _ v h.block⟩
theorem SixA.set1 (h : SixA w g v0 v1 v2 v3 v4 v5) (v : Value) : SixA (w.setCell ⟨g, 1, none⟩ v) g v0 v v2 v3 v4 v5 := ⟨heap_setCell_same w g 1 _ _ v h.block⟩
theorem SixA.set2 (h : SixA w g v0 v1 v2 v3 v4 v5) (v : Value) : SixA (w.setCell ⟨g, 2, none⟩ v) g v0 v1 v v3 v4 v5 := ⟨heap_setCell_same w g 2 _ _ v h.block⟩
theorem SixA.set3 (h : SixA w g v0 v1 v2 v3 v4 v5) (v : Value) : SixA (w.setCell ⟨g, 3, none⟩ v) g v0 v1 v2 v v4 v5 := ⟨heap_setCell_same w g 3 _ _ v h.block⟩
theorem SixA.set4 (h : SixA w g v0 v1 v2 v3 v4 v5) (v : Value) : SixA (w.setCell ⟨g, 4, none⟩ v) g v0 v1 v2 v3 v v5 := ⟨heap_setCell_same w g 4 _ _ v h.block⟩
theorem SixA.set5 (h : SixA w g v0 v1 v2 v3 v4 v5) (v : Value) : SixA (w.setCell ⟨g, 5, none⟩ v) g v0 v1 v2 v3 v4 v := ⟨heap_setCell_same w g 5 _ _ v h.block⟩
theorem SixA.cells (h : SixA w g v0 v1 v2 v3 v4 v5) : w.cell? ⟨g, 0, none⟩ = some v0 ∧ w.cell? ⟨g, 1, none⟩ = some v1 ∧ w.cell? ⟨g, 2, none⟩ = some v2 ∧ w.cell? ⟨g, 3, none⟩ = some v3 ∧ w.cell? ⟨g, 4, none⟩ = some v4 ∧ w.cell? ⟨g, 5, none⟩ = some v5 := six_cells h.block
end
/-- An answer that is being taken: the reader in g, the answer in g1, the result (all noughts still) in g0. -/
structure TkA (w wr : World) (g g0 g1 : Nat) (st : List UInt8 × Bool) (v0 v1 v2 v3 v4 v5 : Value) : Prop where
  rd : RdE wr g st
  six : SixA wr g1 v0 v1 v2 v3 v4 v5
  res : SixA wr g0 (.int .i64 0) (.int .i64 0) (.int .i64 0) (.int .i64 0) (.slice none 0 0) (.slice none 0 0)
  keep : Keep (fun k => k = g) w wr
  lt : g < g0 ∧ g0 < g1 ∧ w.heap.size ≤ g0
  no : ∀ x ∈ [v0, v1, v2, v3, v4, v5], ∀ z, x ≠ .int .u8 z
section
variable {w wr w' : World} {g g0 g1 : Nat} {st st' : List UInt8 × Bool} {v0 v1 v2 v3 v4 v5 : Value}
theorem TkA.kept (h : TkA w wr g g0 g1 st v0 v1 v2 v3 v4 v5) (k : Keep (fun k => k = g) wr w') (r : RdE w' g st') : TkA w w' g g0 g1 st' v0 v1 v2 v3 v4 v5 :=
  ⟨r, h.six.kept k (fun e : g1 = g => by have := h.lt; omega), h.res.kept k (fun e : g0 = g => by have := h.lt; omega), h.keep.trans k (fun _ _ h => h), h.lt, h.no⟩
theorem TkA.stored (h : TkA w wr g g0 g1 st v0 v1 v2 v3 v4 v5) (i : Nat) (v : Value) {u0 u1 u2 u3 u4 u5 : Value} (hs : SixA (wr.setCell ⟨g1, i, none⟩ v) g1 u0 u1 u2 u3 u4 u5) (hn : ∀ x ∈ [u0, u1, u2, u3, u4, u5], ∀ z, x ≠ .int .u8 z) :
    TkA w (wr.setCell ⟨g1, i, none⟩ v) g g0 g1 st u0 u1 u2 u3 u4 u5 :=
  ⟨h.rd.set h.six.block (by simpa using h.no) (by have := h.lt; omega) i v, hs,
    h.res.kept ((Keep.refl (fun k => k = g1) wr).setCell (p := ⟨g1, i, none⟩) (.inr rfl) v) (fun e : g0 = g1 => by have := h.lt; omega),
    h.keep.setCell (p := ⟨g1, i, none⟩) (.inl (by have := h.lt; show _ ≤ g1; omega)) v, h.lt, hn⟩
end
theorem TkA.set0 {w wr : World} {g g0 g1 : Nat} {st : List UInt8 × Bool} {v0 v1 v2 v3 v4 v5 : Value} (h : TkA w wr g g0 g1 st v0 v1 v2 v3 v4 v5) (v : Value) (hv : ∀ z, v ≠ .int .u8 z) : TkA w (wr.setCell ⟨g1, 0, none⟩ v) g g0 g1 st v v1 v2 v3 v4 v5 :=
  h.stored 0 v (h.six.set0 v) fun x hx => by
    have := h.no
    simp only [List.mem_cons, List.not_mem_nil, or_false] at this hx
    rcases hx with rfl | rfl | rfl | rfl | rfl | rfl
    all_goals (first | exact hv | exact this _ (by simp))
theorem TkA.set1 {w wr : World} {g g0 g1 : Nat} {st : List UInt8 × Bool} {v0 v1 v2 v3 v4 v5 : Value} (h : TkA w wr g g0 g1 st v0 v1 v2 v3 v4 v5) (v : Value) (hv : ∀ z, v ≠ .int .u8 z) : TkA w (wr.setCell ⟨g1, 1, none⟩ v) g g0 g1 st v0 v v2 v3 v4 v5 :=
  h.stored 1 v (h.six.set1 v) fun x hx => by
    have := h.no
    simp only [List.mem_cons, List.not_mem_nil, or_false] at this hx
    rcases hx with rfl | rfl | rfl | rfl | rfl | rfl
    all_goals (first | exact hv | exact this _ (by simp))
theorem TkA.set2 {w wr : World} {g g0 g1 : Nat} {st : List UInt8 × Bool} {v0 v1 v2 v3 v4 v5 : Value} (h : TkA w wr g g0 g1 st v0 v1 v2 v3 v4 v5) (v : Value) (hv : ∀ z, v ≠ .int .u8 z) : TkA w (wr.setCell ⟨g1, 2, none⟩ v) g g0 g1 st v0 v1 v v3 v4 v5 :=
  h.stored 2 v (h.six.set2 v) fun x hx => by
    have := h.no
    simp only [List.mem_cons, List.not_mem_nil, or_false] at this hx
    rcases hx with rfl | rfl | rfl | rfl | rfl | rfl
    all_goals (first | exact hv | exact this _ (by simp))
theorem TkA.set3 {w wr : World} {g g0 g1 : Nat} {st : List UInt8 × Bool} {v0 v1 v2 v3 v4 v5 : Value} (h : TkA w wr g g0 g1 st v0 v1 v2 v3 v4 v5) (v : Value) (hv : ∀ z, v ≠ .int .u8 z) : TkA w (wr.setCell ⟨g1, 3, none⟩ v) g g0 g1 st v0 v1 v2 v v4 v5 :=
  h.stored 3 v (h.six.set3 v) fun x hx => by
    have := h.no
    simp only [List.mem_cons, List.not_mem_nil, or_false] at this hx
    rcases hx with rfl | rfl | rfl | rfl | rfl | rfl
    all_goals (first | exact hv | exact this _ (by simp))
theorem TkA.set4 {w wr : World} {g g0 g1 : Nat} {st : List UInt8 × Bool} {v0 v1 v2 v3 v4 v5 : Value} (h : TkA w wr g g0 g1 st v0 v1 v2 v3 v4 v5) (v : Value) (hv : ∀ z, v ≠ .int .u8 z) : TkA w (wr.setCell ⟨g1, 4, none⟩ v) g g0 g1 st v0 v1 v2 v3 v v5 :=
  h.stored 4 v (h.six.set4 v) fun x hx => by
    have := h.no
    simp only [List.mem_cons, List.not_mem_nil, or_false] at this hx
    rcases hx with rfl | rfl | rfl | rfl | rfl | rfl
    all_goals (first | exact hv | exact this _ (by simp))
theorem TkA.set5 {w wr : World} {g g0 g1 : Nat} {st : List UInt8 × Bool} {v0 v1 v2 v3 v4 v5 : Value} (h : TkA w wr g g0 g1 st v0 v1 v2 v3 v4 v5) (v : Value) (hv : ∀ z, v ≠ .int .u8 z) : TkA w (wr.setCell ⟨g1, 5, none⟩ v) g g0 g1 st v0 v1 v2 v3 v4 v :=
  h.stored 5 v (h.six.set5 v) fun x hx => by
    have := h.no
    simp only [List.mem_cons, List.not_mem_nil, or_false] at this hx
    rcases hx with rfl | rfl | rfl | rfl | rfl | rfl
    all_goals (first | exact hv | exact this _ (by simp))
theorem sixA_outs {w wr : World} {g g0 g1 : Nat} {st : List UInt8 × Bool} {v0 v1 v2 v3 v4 v5 : Value} (h : TkA w wr g g0 g1 st v0 v1 v2 v3 v4 v5) :
    RdE ((((((wr.setCell ⟨g0, 0, none⟩ v0).setCell ⟨g0, 1, none⟩ v1).setCell ⟨g0, 2, none⟩ v2).setCell ⟨g0, 3, none⟩ v3).setCell ⟨g0, 4, none⟩ v4).setCell ⟨g0, 5, none⟩ v5) g st ∧
    SixA ((((((wr.setCell ⟨g0, 0, none⟩ v0).setCell ⟨g0, 1, none⟩ v1).setCell ⟨g0, 2, none⟩ v2).setCell ⟨g0, 3, none⟩ v3).setCell ⟨g0, 4, none⟩ v4).setCell ⟨g0, 5, none⟩ v5) g0 v0 v1 v2 v3 v4 v5 ∧
    Keep (fun k => k = g) w ((((((wr.setCell ⟨g0, 0, none⟩ v0).setCell ⟨g0, 1, none⟩ v1).setCell ⟨g0, 2, none⟩ v2).setCell ⟨g0, 3, none⟩ v3).setCell ⟨g0, 4, none⟩ v4).setCell ⟨g0, 5, none⟩ v5) ∧
    (∀ B A l, Rd wr B A l → Rd ((((((wr.setCell ⟨g0, 0, none⟩ v0).setCell ⟨g0, 1, none⟩ v1).setCell ⟨g0, 2, none⟩ v2).setCell ⟨g0, 3, none⟩ v3).setCell ⟨g0, 4, none⟩ v4).setCell ⟨g0, 5, none⟩ v5) B A l) := by
  have hlt := h.lt
  have hno := h.no
  simp only [List.mem_cons, List.not_mem_nil, or_false] at hno
  have n0 := hno v0 (.inl rfl)
  have n1 := hno v1 (.inr (.inl rfl))
  have n2 := hno v2 (.inr (.inr (.inl rfl)))
  have n3 := hno v3 (.inr (.inr (.inr (.inl rfl))))
  have n4 := hno v4 (.inr (.inr (.inr (.inr (.inl rfl)))))
  have hg : g ≠ g0 := by omega
  have S0 := h.res
  have S1 := S0.set0 v0
  have S2 := S1.set1 v1
  have S3 := S2.set2 v2
  have S4 := S3.set3 v3
  have S5 := S4.set4 v4
  have S6 := S5.set5 v5
  have b0 : ∀ x ∈ [Value.int .i64 0, Value.int .i64 0, Value.int .i64 0, Value.int .i64 0, Value.slice none 0 0, Value.slice none 0 0], ∀ z, x ≠ Value.int .u8 z := by intro x hx z he; subst he; simp only [List.mem_cons, List.not_mem_nil, or_false] at hx; rcases hx with hx | hx | hx | hx | hx | hx;  all_goals cases hx
  have b1 : ∀ x ∈ [v0, Value.int .i64 0, Value.int .i64 0, Value.int .i64 0, Value.slice none 0 0, Value.slice none 0 0], ∀ z, x ≠ Value.int .u8 z := by intro x hx z he; subst he; simp only [List.mem_cons, List.not_mem_nil, or_false] at hx; rcases hx with hx | hx | hx | hx | hx | hx; exact n0 _ hx.symm; all_goals cases hx
  have b2 : ∀ x ∈ [v0, v1, Value.int .i64 0, Value.int .i64 0, Value.slice none 0 0, Value.slice none 0 0], ∀ z, x ≠ Value.int .u8 z := by intro x hx z he; subst he; simp only [List.mem_cons, List.not_mem_nil, or_false] at hx; rcases hx with hx | hx | hx | hx | hx | hx; exact n0 _ hx.symm; exact n1 _ hx.symm; all_goals cases hx
  have b3 : ∀ x ∈ [v0, v1, v2, Value.int .i64 0, Value.slice none 0 0, Value.slice none 0 0], ∀ z, x ≠ Value.int .u8 z := by intro x hx z he; subst he; simp only [List.mem_cons, List.not_mem_nil, or_false] at hx; rcases hx with hx | hx | hx | hx | hx | hx; exact n0 _ hx.symm; exact n1 _ hx.symm; exact n2 _ hx.symm; all_goals cases hx
  have b4 : ∀ x ∈ [v0, v1, v2, v3, Value.slice none 0 0, Value.slice none 0 0], ∀ z, x ≠ Value.int .u8 z := by intro x hx z he; subst he; simp only [List.mem_cons, List.not_mem_nil, or_false] at hx; rcases hx with hx | hx | hx | hx | hx | hx; exact n0 _ hx.symm; exact n1 _ hx.symm; exact n2 _ hx.symm; exact n3 _ hx.symm; all_goals cases hx
  have b5 : ∀ x ∈ [v0, v1, v2, v3, v4, Value.slice none 0 0], ∀ z, x ≠ Value.int .u8 z := by intro x hx z he; subst he; simp only [List.mem_cons, List.not_mem_nil, or_false] at hx; rcases hx with hx | hx | hx | hx | hx | hx; exact n0 _ hx.symm; exact n1 _ hx.symm; exact n2 _ hx.symm; exact n3 _ hx.symm; exact n4 _ hx.symm; all_goals cases hx
  have r0 := h.rd.set S0.block b0 hg 0 v0
  have r1 := r0.set S1.block b1 hg 1 v1
  have r2 := r1.set S2.block b2 hg 2 v2
  have r3 := r2.set S3.block b3 hg 3 v3
  have r4 := r3.set S4.block b4 hg 4 v4
  have r5 := r4.set S5.block b5 hg 5 v5
  have hp : w.heap.size ≤ g0 := hlt.2.2
  exact ⟨r5, S6, (((((h.keep.setCell (p := ⟨g0, 0, none⟩) (.inl hp) v0).setCell (p := ⟨g0, 1, none⟩) (.inl hp) v1).setCell (p := ⟨g0, 2, none⟩) (.inl hp) v2).setCell (p := ⟨g0, 3, none⟩) (.inl hp) v3).setCell (p := ⟨g0, 4, none⟩) (.inl hp) v4).setCell (p := ⟨g0, 5, none⟩) (.inl hp) v5,
    fun B A l hr => (((((hr.store S0.block b0 0 v0).store S1.block b1 1 v1).store S2.block b2 2 v2).store S3.block b3 3 v3).store S4.block b4 4 v4).store S5.block b5 5 v5⟩

/-- SixA cells that are stored over. -/
theorem sixA_put {w : World} {g : Nat} {u0 u1 u2 u3 u4 u5 v0 v1 v2 v3 v4 v5 : Value} (S0 : SixA w g u0 u1 u2 u3 u4 u5) (m0 : NoB u0) (m1 : NoB u1) (m2 : NoB u2) (m3 : NoB u3) (m4 : NoB u4) (m5 : NoB u5) (n0 : NoB v0) (n1 : NoB v1) (n2 : NoB v2) (n3 : NoB v3) (n4 : NoB v4) :
    SixA ((((((w.setCell ⟨g, 0, none⟩ v0).setCell ⟨g, 1, none⟩ v1).setCell ⟨g, 2, none⟩ v2).setCell ⟨g, 3, none⟩ v3).setCell ⟨g, 4, none⟩ v4).setCell ⟨g, 5, none⟩ v5) g v0 v1 v2 v3 v4 v5 ∧
    Keep (fun k => k = g) w ((((((w.setCell ⟨g, 0, none⟩ v0).setCell ⟨g, 1, none⟩ v1).setCell ⟨g, 2, none⟩ v2).setCell ⟨g, 3, none⟩ v3).setCell ⟨g, 4, none⟩ v4).setCell ⟨g, 5, none⟩ v5) ∧
    (∀ B A l, Rd w B A l → Rd ((((((w.setCell ⟨g, 0, none⟩ v0).setCell ⟨g, 1, none⟩ v1).setCell ⟨g, 2, none⟩ v2).setCell ⟨g, 3, none⟩ v3).setCell ⟨g, 4, none⟩ v4).setCell ⟨g, 5, none⟩ v5) B A l) ∧
    ((((((w.setCell ⟨g, 0, none⟩ v0).setCell ⟨g, 1, none⟩ v1).setCell ⟨g, 2, none⟩ v2).setCell ⟨g, 3, none⟩ v3).setCell ⟨g, 4, none⟩ v4).setCell ⟨g, 5, none⟩ v5).heap.size = w.heap.size := by
  have S1 := S0.set0 v0
  have S2 := S1.set1 v1
  have S3 := S2.set2 v2
  have S4 := S3.set3 v3
  have S5 := S4.set4 v4
  have S6 := S5.set5 v5
  have key : ∀ {a b c d e f : Value}, NoB a → NoB b → NoB c → NoB d → NoB e → NoB f → ∀ x ∈ (#[a, b, c, d, e, f] : Array Value).toList, ∀ z, x ≠ .int .u8 z := by
    intro a b c d e f ha hb hc hd he hf x hx
    simp only [List.mem_cons, List.not_mem_nil, or_false] at hx
    rcases hx with rfl | rfl | rfl | rfl | rfl | rfl
    · exact ha
    · exact hb
    · exact hc
    · exact hd
    · exact he
    · exact hf
  refine ⟨S6, ?_, fun B A l hr => (((((hr.store S0.block (key m0 m1 m2 m3 m4 m5) 0 v0).store S1.block (key n0 m1 m2 m3 m4 m5) 1 v1).store S2.block (key n0 n1 m2 m3 m4 m5) 2 v2).store S3.block (key n0 n1 n2 m3 m4 m5) 3 v3).store S4.block (key n0 n1 n2 n3 m4 m5) 4 v4).store S5.block (key n0 n1 n2 n3 n4 m5) 5 v5, ?_⟩
  · exact ((((((Keep.refl (fun k => k = g) w).setCell (p := ⟨g, 0, none⟩) (.inr rfl) v0).setCell (p := ⟨g, 1, none⟩) (.inr rfl) v1).setCell (p := ⟨g, 2, none⟩) (.inr rfl) v2).setCell (p := ⟨g, 3, none⟩) (.inr rfl) v3).setCell (p := ⟨g, 4, none⟩) (.inr rfl) v4).setCell (p := ⟨g, 5, none⟩) (.inr rfl) v5
  · simp only [World.setCell, Array.size_modify]

/-- The cells of an answer. -/
def ansV (a : IAns) (A : Option Addr) (c : Nat) (B : Option Addr) (d : Nat) : Array Value := #[.int .i64 a.err, .int .i64 a.kind, .int .i64 a.size, .int .i64 a.links, .slice A a.data.length c, .slice B a.names.length d]
/-- What takeAnswer leaves. -/
def TakesA (g : Nat) (s : List UInt8 × Bool) (w : World) (e : Ending) (w' : World) : Prop :=
  ∃ A c B d, e = .returned (.agg (ansV (takeA s) A c B d)) ∧ Rd w' w'.heap.size A (takeA s).data ∧ Strs w' w'.heap.size B ((takeA s).names.map ba) ∧ (∀ a : Addr, B = some a → w.heap.size ≤ a.block) ∧ RdE w' g (ansS 6 s) ∧ Keep (fun k => k = g) w w'
set_option maxRecDepth 100000 in
set_option maxHeartbeats 2000000 in
theorem take_any_answer (g : Nat) (s : List UInt8 × Bool) (w : World) (h : RdE w g s) (hb : s.1.length ≤ 70368744177664) :
    Calls Tryd.prog 45 #[.pointer (some ⟨g, 0, none⟩)] w (TakesA g s w) := by
  have hglt := h.lt
  obtain ⟨w1, hw1⟩ : ∃ w1, w.alloc (.cells #[.int .i64 0, .int .i64 0, .int .i64 0, .int .i64 0, .slice none 0 0, .slice none 0 0] 28) = w1 := ⟨_, rfl⟩
  obtain ⟨w2, hw2⟩ : ∃ w2, w1.alloc (.cells #[.int .i64 0, .int .i64 0, .int .i64 0, .int .i64 0, .slice none 0 0, .slice none 0 0] 28) = w2 := ⟨_, rfl⟩
  obtain ⟨g0, hg0⟩ : ∃ g0, w.heap.size = g0 := ⟨_, rfl⟩
  obtain ⟨g1, hg1⟩ : ∃ g1, w1.heap.size = g1 := ⟨_, rfl⟩
  have s1 : w1.heap.size = w.heap.size + 1 := by rw [← hw1]; simp
  have k01 : KF w w1 := by rw [← hw1]; exact (KF.refl _).alloc _
  have k12 : KF w1 w2 := by rw [← hw2]; exact (KF.refl _).alloc _
  have k02 := KF.trans k01 k12
  have Q0 : SixA w1 g0 (.int .i64 0) (.int .i64 0) (.int .i64 0) (.int .i64 0) (.slice none 0 0) (.slice none 0 0) := ⟨by rw [← hw1, ← hg0]; exact heap_alloc_new w _⟩
  have T2 : TkA w w2 g g0 g1 s (.int .i64 0) (.int .i64 0) (.int .i64 0) (.int .i64 0) (.slice none 0 0) (.slice none 0 0) :=
    ⟨h.kept k02, ⟨by rw [← hw2, ← hg1]; exact heap_alloc_new w1 _⟩, Q0.kept k12 (fun h => h), Keep.mono k02 (fun _ _ h => h.elim), ⟨by omega, by omega, by omega⟩, by simp⟩
  have hws : w.heap.size ≤ w2.heap.size := k02.size
  have HW1 := Lib.hid hw1
  have HW2 := Lib.hid hw2
  have HG0 := Lib.hid hg0
  have HG1 := Lib.hid hg1
  have l1 := ansS_len s 1 (by omega)
  have l2 := ansS_len s 2 (by omega)
  have l3 := ansS_len s 3 (by omega)
  have l4 := ansS_len s 4 (by omega)
  have l5 := ansS_len s 5 (by omega)
  clear Q0 k01 k12 hw1 hw2 hg0 hg1 s1 h k02
  have C1 := Lib.hid (int_e g s w2 T2.rd hb)
  go_enter Tryd.func45, Tryd.ntmps45
  go_upto_region 1 with fail
  rw [HW1.out, HG0.out]
  go_upto_region 2 with fail
  rw [HW2.out, HG1.out]
  clear HW1 HW2 HG0 HG1
  go_wp2_with fail
  refine C1.out.mono ?_
  rintro e w3 ⟨rfl, R3, k3⟩
  have T3 := T2.kept k3 (st' := ansS 1 s) R3
  have HF0 : Hid ((takeA s).err = asInt64 (num (tkL 8 s.1 s.2))) := Lib.hid rfl
  generalize asInt64 (num (tkL 8 s.1 s.2)) = fv0 at *
  have T3' := T3.set0 (.int .i64 fv0) (by simp)
  clear C1 R3 k3 T2
  obtain ⟨p0, p1, p2, p3, p4, p5⟩ := T3.six.cells
  have pf := T3.six.free 0
  have C2 := Lib.hid (int_e g (ansS 1 s) _ T3'.rd (by omega))
  clear T3
  go_wp2_with fail
  refine C2.out.mono ?_
  rintro e w4 ⟨rfl, R4, k4⟩
  have T4 := T3'.kept k4 (st' := ansS 2 s) R4
  have HF1 : Hid ((takeA s).kind = asInt64 (num (tkL 8 (ansS 1 s).1 (ansS 1 s).2))) := Lib.hid rfl
  generalize asInt64 (num (tkL 8 (ansS 1 s).1 (ansS 1 s).2)) = fv1 at *
  have T4' := T4.set1 (.int .i64 fv1) (by simp)
  clear p0 p1 p2 p3 p4 p5 pf C2 R4 k4 T3'
  obtain ⟨p0, p1, p2, p3, p4, p5⟩ := T4.six.cells
  have pf := T4.six.free 1
  have C3 := Lib.hid (int_e g (ansS 2 s) _ T4'.rd (by omega))
  clear T4
  go_wp2_with fail
  refine C3.out.mono ?_
  rintro e w5 ⟨rfl, R5, k5⟩
  have T5 := T4'.kept k5 (st' := ansS 3 s) R5
  have HF2 : Hid ((takeA s).size = asInt64 (num (tkL 8 (ansS 2 s).1 (ansS 2 s).2))) := Lib.hid rfl
  generalize asInt64 (num (tkL 8 (ansS 2 s).1 (ansS 2 s).2)) = fv2 at *
  have T5' := T5.set2 (.int .i64 fv2) (by simp)
  clear p0 p1 p2 p3 p4 p5 pf C3 R5 k5 T4'
  obtain ⟨p0, p1, p2, p3, p4, p5⟩ := T5.six.cells
  have pf := T5.six.free 2
  have C4 := Lib.hid (int_e g (ansS 3 s) _ T5'.rd (by omega))
  clear T5
  go_wp2_with fail
  refine C4.out.mono ?_
  rintro e w6 ⟨rfl, R6, k6⟩
  have T6 := T5'.kept k6 (st' := ansS 4 s) R6
  have HF3 : Hid ((takeA s).links = asInt64 (num (tkL 8 (ansS 3 s).1 (ansS 3 s).2))) := Lib.hid rfl
  generalize asInt64 (num (tkL 8 (ansS 3 s).1 (ansS 3 s).2)) = fv3 at *
  have T6' := T6.set3 (.int .i64 fv3) (by simp)
  clear p0 p1 p2 p3 p4 p5 pf C4 R6 k6 T5'
  obtain ⟨p0, p1, p2, p3, p4, p5⟩ := T6.six.cells
  have pf := T6.six.free 3
  have C5 := Lib.hid (by_e g (ansS 4 s) 4096 _ T6'.rd (by omega))
  clear T6
  go_wp2_with fail
  refine C5.out.mono ?_
  rintro e w7 ⟨A7, c7, rfl, r7, _, R7, k7⟩
  have T7 := T6'.kept k7 (st' := ansS 5 s) R7
  have HDD : Hid ((takeA s).data = byV 4096 (ansS 4 s)) := Lib.hid rfl
  generalize byV 4096 (ansS 4 s) = dv at *
  have T7' := T7.set4 (.slice A7 dv.length c7) (by simp)
  have r7' : Rd (w7.setCell ⟨g1, 4, none⟩ (.slice A7 dv.length c7)) w7.heap.size A7 dv := r7.store T7.six.block (by simp) 4 _
  clear p0 p1 p2 p3 p4 p5 pf C5 R7 k7 T6' r7
  obtain ⟨p0, p1, p2, p3, p4, p5⟩ := T7.six.cells
  have pf := T7.six.free 4
  have hg1w : g1 < w7.heap.size := T7.six.lt
  have hz8 : (w7.setCell ⟨g1, 4, none⟩ (.slice A7 dv.length c7)).heap.size = w7.heap.size := by simp [World.setCell]
  obtain ⟨q, hq, RQ⟩ := T7'.rd.q
  have C6 := Lib.hid (list_any g q (ansS 5 s) 64 _ RQ (by omega) hq (by omega) (by omega))
  have HE : Hid (ansS 6 s = lstE 64 (ansS 5 s)) := Lib.hid rfl
  have HX : Hid ((takeA s).names = lstX 64 (ansS 5 s)) := Lib.hid rfl
  generalize lstX 64 (ansS 5 s) = nm at *
  obtain ⟨w8, hw8⟩ : ∃ w8, w7.setCell ⟨g1, 4, none⟩ (.slice A7 dv.length c7) = w8 := ⟨_, rfl⟩
  rw [hw8] at C6 T7' r7' hz8
  have HW8 := Lib.hid hw8
  clear hw8 RQ T7
  go_upto_region 7 with fail
  rw [HW8.out]
  clear p0 p1 p2 p3 p4 p5 pf HW8
  go_wp2_with fail
  refine C6.out.mono ?_
  rintro e w9 ⟨B9, d9, rfl, S9, _, N9, R9, k9⟩
  have T9 := T7'.kept k9 (st' := ansS 6 s) (by rw [HE.out]; exact R9.e)
  have r9 : Rd w9 w7.heap.size A7 dv := T7'.rd.past r7' (by omega) k9
  have hs9 := k9.size
  have T9' := T9.set5 (.slice B9 nm.length d9) (by simp)
  have r9' : Rd (w9.setCell ⟨g1, 5, none⟩ (.slice B9 nm.length d9)) w7.heap.size A7 dv := r9.store T9.six.block (by simp) 5 _
  have S9' := S9.past (w' := w9.setCell ⟨g1, 5, none⟩ (.slice B9 nm.length d9)) (Keep.ofSet (S := fun i => i = g1) rfl _) (fun a ha => by have := N9 a ha; omega)
  clear C6 R9 k9 T7' r7' r9 S9
  obtain ⟨p0, p1, p2, p3, p4, p5⟩ := T9.six.cells
  have pf := T9.six.free 5
  obtain ⟨w10, hw10⟩ : ∃ w10, w9.setCell ⟨g1, 5, none⟩ (.slice B9 nm.length d9) = w10 := ⟨_, rfl⟩
  have hz10 : w10.heap.size = w9.heap.size := by rw [← hw10]; simp [World.setCell]
  rw [hw10] at T9' r9' S9'
  have HW10 := Lib.hid hw10
  clear hw10
  go_upto_region 9 with fail
  rw [HW10.out]
  obtain ⟨q0, q1, q2, q3, q4, q5⟩ := T9'.six.cells
  have f0 := T9'.res.free 0
  have f1 := T9'.res.free 1
  have f2 := T9'.res.free 2
  have f3 := T9'.res.free 3
  have f4 := T9'.res.free 4
  have f5 := T9'.res.free 5
  obtain ⟨u0, u1, u2, u3, u4, u5⟩ := T9'.res.cells
  have hlt := T9'.lt
  have hne : g0 ≠ g1 := by omega
  have FIN := Lib.hid (sixA_outs T9')
  have FIN2 := Lib.hid (sixA_put (v0 := .int .i64 fv0) (v1 := .int .i64 fv1) (v2 := .int .i64 fv2) (v3 := .int .i64 fv3) (v4 := .slice A7 dv.length c7) (v5 := .slice B9 nm.length d9) T9'.res (by simp [NoB]) (by simp [NoB]) (by simp [NoB]) (by simp [NoB]) (by simp [NoB]) (by simp [NoB]) (by simp [NoB]) (by simp [NoB]) (by simp [NoB]) (by simp [NoB]) (by simp [NoB]))
  clear T9 T9' p0 p1 p2 p3 p4 p5 pf HW10
  go_wp2_with fail
  obtain ⟨e1, e2, e3, e4⟩ := FIN.out
  obtain ⟨_, e6, _, e8⟩ := FIN2.out
  obtain ⟨c0, c1, c2, c3, c4', c5'⟩ := e2.cells
  have hr := e4 _ _ _ r9'
  have hs := S9'.past e6 (fun a ha => by have := N9 a ha; omega)
  clear FIN FIN2 r9' S9' e4 e2 e6
  refine bodyPost_ret (v := .agg #[.int .i64 fv0, .int .i64 fv1, .int .i64 fv2, .int .i64 fv3, .slice A7 dv.length c7, .slice B9 nm.length d9]) (by simp [results, Tryd.results45, go_sem, c0, c1, c2, c3, c4', c5']) rfl ?_
  refine ⟨A7, c7, B9, d9, by unfold ansV; rw [HF0.out, HF1.out, HF2.out, HF3.out, HDD.out, HX.out], ?_, ?_, fun a ha => by have := N9 a ha; omega, e1, e3⟩
  · rw [HDD.out]
    exact hr.more (by omega)
  · rw [HX.out]
    exact hs
end Go.Proofs.YtklpebfkgdklmaaDoor
