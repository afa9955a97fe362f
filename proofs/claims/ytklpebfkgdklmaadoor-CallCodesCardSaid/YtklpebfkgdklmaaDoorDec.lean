/-
  WALKS: call.Decode.
-/
import Derived.Test.YtklpebfkgdklmaaDoorBy
import Derived.Test.YtklpebfkgdklmaaDoorEnc
import Derived.Laws.BytesString
import Derived.Laws.IdiomStrings
namespace Go.Proofs.YtklpebfkgdklmaaDoor
open Go.RowKit

/-- 'string(b)', of bytes that are read. -/
theorem string_any {w : World} {B : Nat} {A : Option Addr} {l : Txt} (c : Nat) (h : Rd w B A l) : (convert 22 9 (.slice A l.length c)).run Tryd.prog w = .ok (.string (ba l)) w := by
  rcases l with _ | ⟨b, l⟩
  · rw [run_convert_bytes_string w 22 9 5 A _ c Tryd.underlying22 Tryd.underlying5 Tryd.underlying9]
    cases A <;> simp [Conv.bytesToString, loadCells] <;> rfl
  · obtain ⟨a, rfl, _⟩ := h.some_of (Nat.succ_pos _)
    exact run_convert_bytes_back w 22 9 5 a c (b :: l) Tryd.underlying22 Tryd.underlying5 Tryd.underlying9 fun _ hj => h.at_ hj

/-- The call that is taken; what is left. -/
noncomputable def takeS : Nat → List UInt8 × Bool → List UInt8 × Bool
  | 0, s => s
  | 1, s => tk 1 s
  | 2, s => byS 300 (tk 1 s)
  | 3, s => byS 300 (byS 300 (tk 1 s))
  | 4, s => tk 8 (byS 300 (byS 300 (tk 1 s)))
  | 5, s => tk 8 (tk 8 (byS 300 (byS 300 (tk 1 s))))
  | _, s => byS 4096 (tk 8 (tk 8 (byS 300 (byS 300 (tk 1 s)))))
noncomputable def takeC (s : List UInt8 × Bool) : TCall :=
  ⟨(num (tkL 1 s.1 s.2) : Nat), byV 300 (takeS 1 s), byV 300 (takeS 2 s), asInt64 (num (tkL 8 (takeS 3 s).1 (takeS 3 s).2)), asInt64 (num (tkL 8 (takeS 4 s).1 (takeS 4 s).2)), byV 4096 (takeS 5 s)⟩
theorem takeS_len (s : List UInt8 × Bool) : ∀ k, (takeS k s).1.length ≤ s.1.length
  | 0 => Nat.le_refl _
  | 1 => tk_len _ _
  | 2 => Nat.le_trans (byS_len _ _) (tk_len _ _)
  | 3 => Nat.le_trans (byS_len _ _) (Nat.le_trans (byS_len _ _) (tk_len _ _))
  | 4 => Nat.le_trans (tk_len _ _) (Nat.le_trans (byS_len _ _) (Nat.le_trans (byS_len _ _) (tk_len _ _)))
  | 5 => Nat.le_trans (tk_len _ _) (Nat.le_trans (tk_len _ _) (Nat.le_trans (byS_len _ _) (Nat.le_trans (byS_len _ _) (tk_len _ _))))
  | _ + 6 => Nat.le_trans (byS_len _ _) (Nat.le_trans (tk_len _ _) (Nat.le_trans (tk_len _ _) (Nat.le_trans (byS_len _ _) (Nat.le_trans (byS_len _ _) (tk_len _ _)))))
/-- The cells of a call that grows, field by field. -/
structure Six (w : World) (g : Nat) (v0 v1 v2 v3 v4 v5 : Value) : Prop where
  block : w.heap[g]? = some (.cells #[v0, v1, v2, v3, v4, v5] 24)
section
variable {w w' : World} {g : Nat} {v0 v1 v2 v3 v4 v5 : Value}
theorem Six.lt (h : Six w g v0 v1 v2 v3 v4 v5) : g < w.heap.size := lt_of_block h.block
theorem Six.kept {S : Nat → Prop} (h : Six w g v0 v1 v2 v3 v4 v5) (k : Keep S w w') (hn : ¬ S g) : Six w' g v0 v1 v2 v3 v4 v5 := ⟨(k.block g h.lt hn).trans h.block⟩
theorem Six.free (h : Six w g v0 v1 v2 v3 v4 v5) (i : Nat) : w.frozen? ⟨g, i, none⟩ = false := by simp [World.frozen?, h.block]
theorem Six.set0 (h : Six w g v0 v1 v2 v3 v4 v5) (v : Value) : Six (w.setCell ⟨g, 0, none⟩ v) g v v1 v2 v3 v4 v5 := ⟨heap_setCell_same w g 0 _ _ v h.block⟩
theorem Six.set1 (h : Six w g v0 v1 v2 v3 v4 v5) (v : Value) : Six (w.setCell ⟨g, 1, none⟩ v) g v0 v v2 v3 v4 v5 := ⟨heap_setCell_same w g 1 _ _ v h.block⟩
theorem Six.set2 (h : Six w g v0 v1 v2 v3 v4 v5) (v : Value) : Six (w.setCell ⟨g, 2, none⟩ v) g v0 v1 v v3 v4 v5 := ⟨heap_setCell_same w g 2 _ _ v h.block⟩
theorem Six.set3 (h : Six w g v0 v1 v2 v3 v4 v5) (v : Value) : Six (w.setCell ⟨g, 3, none⟩ v) g v0 v1 v2 v v4 v5 := ⟨heap_setCell_same w g 3 _ _ v h.block⟩
theorem Six.set4 (h : Six w g v0 v1 v2 v3 v4 v5) (v : Value) : Six (w.setCell ⟨g, 4, none⟩ v) g v0 v1 v2 v3 v v5 := ⟨heap_setCell_same w g 4 _ _ v h.block⟩
theorem Six.set5 (h : Six w g v0 v1 v2 v3 v4 v5) (v : Value) : Six (w.setCell ⟨g, 5, none⟩ v) g v0 v1 v2 v3 v4 v := ⟨heap_setCell_same w g 5 _ _ v h.block⟩
theorem Six.cells (h : Six w g v0 v1 v2 v3 v4 v5) : w.cell? ⟨g, 0, none⟩ = some v0 ∧ w.cell? ⟨g, 1, none⟩ = some v1 ∧ w.cell? ⟨g, 2, none⟩ = some v2 ∧ w.cell? ⟨g, 3, none⟩ = some v3 ∧ w.cell? ⟨g, 4, none⟩ = some v4 ∧ w.cell? ⟨g, 5, none⟩ = some v5 := six_cells h.block
end
/-- A reader stands where another block's cell is stored. -/
theorem RdE.set {w : World} {g : Nat} {s : List UInt8 × Bool} (h : RdE w g s) {q : Nat} {cs : Array Value} {T : TypeId} (hq : w.heap[q]? = some (.cells cs T)) (hno : ∀ x ∈ cs.toList, ∀ z, x ≠ .int .u8 z) (hne : g ≠ q) (i : Nat) (v : Value) : RdE (w.setCell ⟨q, i, none⟩ v) g s := by
  obtain ⟨A, c, h⟩ := h
  refine ⟨A, c, ⟨?_, ?_, h.cap, h.nil⟩⟩
  · rw [heap_setCell_other w _ g v hne]
    exact h.block
  · have := h.rd.store hq hno i v
    rw [show (w.setCell ⟨q, i, none⟩ v).heap.size = w.heap.size by simp [World.setCell]]
    exact this

/-- A call that is being taken: the reader in g, the call in g1, the result (all noughts still) in g0. -/
structure Tk (w wr : World) (g g0 g1 : Nat) (st : List UInt8 × Bool) (v0 v1 v2 v3 v4 v5 : Value) : Prop where
  rd : RdE wr g st
  six : Six wr g1 v0 v1 v2 v3 v4 v5
  res : Six wr g0 (.int .i64 0) (.string ⟨#[]⟩) (.string ⟨#[]⟩) (.int .i64 0) (.int .i64 0) (.slice none 0 0)
  keep : Keep (fun k => k = g) w wr
  lt : g < g0 ∧ g0 < g1 ∧ w.heap.size ≤ g0
  no : ∀ x ∈ [v0, v1, v2, v3, v4, v5], ∀ z, x ≠ .int .u8 z
section
variable {w wr w' : World} {g g0 g1 : Nat} {st st' : List UInt8 × Bool} {v0 v1 v2 v3 v4 v5 : Value}
theorem Tk.kept (h : Tk w wr g g0 g1 st v0 v1 v2 v3 v4 v5) (k : Keep (fun k => k = g) wr w') (r : RdE w' g st') : Tk w w' g g0 g1 st' v0 v1 v2 v3 v4 v5 :=
  ⟨r, h.six.kept k (fun e : g1 = g => by have := h.lt; omega), h.res.kept k (fun e : g0 = g => by have := h.lt; omega), h.keep.trans k (fun _ _ h => h), h.lt, h.no⟩
theorem Tk.stored (h : Tk w wr g g0 g1 st v0 v1 v2 v3 v4 v5) (i : Nat) (v : Value) {u0 u1 u2 u3 u4 u5 : Value} (hs : Six (wr.setCell ⟨g1, i, none⟩ v) g1 u0 u1 u2 u3 u4 u5) (hn : ∀ x ∈ [u0, u1, u2, u3, u4, u5], ∀ z, x ≠ .int .u8 z) :
    Tk w (wr.setCell ⟨g1, i, none⟩ v) g g0 g1 st u0 u1 u2 u3 u4 u5 :=
  ⟨h.rd.set h.six.block (by simpa using h.no) (by have := h.lt; omega) i v, hs,
    h.res.kept ((Keep.refl (fun k => k = g1) wr).setCell (p := ⟨g1, i, none⟩) (.inr rfl) v) (fun e : g0 = g1 => by have := h.lt; omega),
    h.keep.setCell (p := ⟨g1, i, none⟩) (.inl (by have := h.lt; show _ ≤ g1; omega)) v, h.lt, hn⟩
end
theorem Tk.set0 {w wr : World} {g g0 g1 : Nat} {st : List UInt8 × Bool} {v0 v1 v2 v3 v4 v5 : Value} (h : Tk w wr g g0 g1 st v0 v1 v2 v3 v4 v5) (v : Value) (hv : ∀ z, v ≠ .int .u8 z) : Tk w (wr.setCell ⟨g1, 0, none⟩ v) g g0 g1 st v v1 v2 v3 v4 v5 :=
  h.stored 0 v (h.six.set0 v) fun x hx => by
    have := h.no
    simp only [List.mem_cons, List.not_mem_nil, or_false] at this hx
    rcases hx with rfl | rfl | rfl | rfl | rfl | rfl
    all_goals (first | exact hv | exact this _ (by simp))
theorem Tk.set1 {w wr : World} {g g0 g1 : Nat} {st : List UInt8 × Bool} {v0 v1 v2 v3 v4 v5 : Value} (h : Tk w wr g g0 g1 st v0 v1 v2 v3 v4 v5) (v : Value) (hv : ∀ z, v ≠ .int .u8 z) : Tk w (wr.setCell ⟨g1, 1, none⟩ v) g g0 g1 st v0 v v2 v3 v4 v5 :=
  h.stored 1 v (h.six.set1 v) fun x hx => by
    have := h.no
    simp only [List.mem_cons, List.not_mem_nil, or_false] at this hx
    rcases hx with rfl | rfl | rfl | rfl | rfl | rfl
    all_goals (first | exact hv | exact this _ (by simp))
theorem Tk.set2 {w wr : World} {g g0 g1 : Nat} {st : List UInt8 × Bool} {v0 v1 v2 v3 v4 v5 : Value} (h : Tk w wr g g0 g1 st v0 v1 v2 v3 v4 v5) (v : Value) (hv : ∀ z, v ≠ .int .u8 z) : Tk w (wr.setCell ⟨g1, 2, none⟩ v) g g0 g1 st v0 v1 v v3 v4 v5 :=
  h.stored 2 v (h.six.set2 v) fun x hx => by
    have := h.no
    simp only [List.mem_cons, List.not_mem_nil, or_false] at this hx
    rcases hx with rfl | rfl | rfl | rfl | rfl | rfl
    all_goals (first | exact hv | exact this _ (by simp))
theorem Tk.set3 {w wr : World} {g g0 g1 : Nat} {st : List UInt8 × Bool} {v0 v1 v2 v3 v4 v5 : Value} (h : Tk w wr g g0 g1 st v0 v1 v2 v3 v4 v5) (v : Value) (hv : ∀ z, v ≠ .int .u8 z) : Tk w (wr.setCell ⟨g1, 3, none⟩ v) g g0 g1 st v0 v1 v2 v v4 v5 :=
  h.stored 3 v (h.six.set3 v) fun x hx => by
    have := h.no
    simp only [List.mem_cons, List.not_mem_nil, or_false] at this hx
    rcases hx with rfl | rfl | rfl | rfl | rfl | rfl
    all_goals (first | exact hv | exact this _ (by simp))
theorem Tk.set4 {w wr : World} {g g0 g1 : Nat} {st : List UInt8 × Bool} {v0 v1 v2 v3 v4 v5 : Value} (h : Tk w wr g g0 g1 st v0 v1 v2 v3 v4 v5) (v : Value) (hv : ∀ z, v ≠ .int .u8 z) : Tk w (wr.setCell ⟨g1, 4, none⟩ v) g g0 g1 st v0 v1 v2 v3 v v5 :=
  h.stored 4 v (h.six.set4 v) fun x hx => by
    have := h.no
    simp only [List.mem_cons, List.not_mem_nil, or_false] at this hx
    rcases hx with rfl | rfl | rfl | rfl | rfl | rfl
    all_goals (first | exact hv | exact this _ (by simp))
theorem Tk.set5 {w wr : World} {g g0 g1 : Nat} {st : List UInt8 × Bool} {v0 v1 v2 v3 v4 v5 : Value} (h : Tk w wr g g0 g1 st v0 v1 v2 v3 v4 v5) (v : Value) (hv : ∀ z, v ≠ .int .u8 z) : Tk w (wr.setCell ⟨g1, 5, none⟩ v) g g0 g1 st v0 v1 v2 v3 v4 v :=
  h.stored 5 v (h.six.set5 v) fun x hx => by
    have := h.no
    simp only [List.mem_cons, List.not_mem_nil, or_false] at this hx
    rcases hx with rfl | rfl | rfl | rfl | rfl | rfl
    all_goals (first | exact hv | exact this _ (by simp))
theorem six_outs {w wr : World} {g g0 g1 : Nat} {st : List UInt8 × Bool} {v0 v1 v2 v3 v4 v5 : Value} (h : Tk w wr g g0 g1 st v0 v1 v2 v3 v4 v5) :
    RdE ((((((wr.setCell ⟨g0, 0, none⟩ v0).setCell ⟨g0, 1, none⟩ v1).setCell ⟨g0, 2, none⟩ v2).setCell ⟨g0, 3, none⟩ v3).setCell ⟨g0, 4, none⟩ v4).setCell ⟨g0, 5, none⟩ v5) g st ∧
    Six ((((((wr.setCell ⟨g0, 0, none⟩ v0).setCell ⟨g0, 1, none⟩ v1).setCell ⟨g0, 2, none⟩ v2).setCell ⟨g0, 3, none⟩ v3).setCell ⟨g0, 4, none⟩ v4).setCell ⟨g0, 5, none⟩ v5) g0 v0 v1 v2 v3 v4 v5 ∧
    Keep (fun k => k = g) w ((((((wr.setCell ⟨g0, 0, none⟩ v0).setCell ⟨g0, 1, none⟩ v1).setCell ⟨g0, 2, none⟩ v2).setCell ⟨g0, 3, none⟩ v3).setCell ⟨g0, 4, none⟩ v4).setCell ⟨g0, 5, none⟩ v5) ∧
    (∀ B A l, Rd wr B A l → Rd ((((((wr.setCell ⟨g0, 0, none⟩ v0).setCell ⟨g0, 1, none⟩ v1).setCell ⟨g0, 2, none⟩ v2).setCell ⟨g0, 3, none⟩ v3).setCell ⟨g0, 4, none⟩ v4).setCell ⟨g0, 5, none⟩ v5) B A l) := by
  have hlt := h.lt
  have hno := h.no
  simp only [List.mem_cons, List.not_mem_nil, or_false] at hno
  have n0 := hno v0 (.inl rfl)
  have n1 := hno v1 (.inr (.inl rfl))
  have n2 := hno v2 (.inr (.inr (.inl rfl)))
  have n3 := hno v3 (.inr (.inr (.inr (.inl rfl))))
  have n4 := hno v4 (.inr (.inr (.inr (.inr (.inl rfl)))))
  have hg : g ≠ g0 := by omega
  have S0 := h.res
  have S1 := S0.set0 v0
  have S2 := S1.set1 v1
  have S3 := S2.set2 v2
  have S4 := S3.set3 v3
  have S5 := S4.set4 v4
  have S6 := S5.set5 v5
  have b0 : ∀ x ∈ [Value.int .i64 0, Value.string ⟨#[]⟩, Value.string ⟨#[]⟩, Value.int .i64 0, Value.int .i64 0, Value.slice none 0 0], ∀ z, x ≠ Value.int .u8 z := by intro x hx z he; subst he; simp only [List.mem_cons, List.not_mem_nil, or_false] at hx; rcases hx with hx | hx | hx | hx | hx | hx;  all_goals cases hx
  have b1 : ∀ x ∈ [v0, Value.string ⟨#[]⟩, Value.string ⟨#[]⟩, Value.int .i64 0, Value.int .i64 0, Value.slice none 0 0], ∀ z, x ≠ Value.int .u8 z := by intro x hx z he; subst he; simp only [List.mem_cons, List.not_mem_nil, or_false] at hx; rcases hx with hx | hx | hx | hx | hx | hx; exact n0 _ hx.symm; all_goals cases hx
  have b2 : ∀ x ∈ [v0, v1, Value.string ⟨#[]⟩, Value.int .i64 0, Value.int .i64 0, Value.slice none 0 0], ∀ z, x ≠ Value.int .u8 z := by intro x hx z he; subst he; simp only [List.mem_cons, List.not_mem_nil, or_false] at hx; rcases hx with hx | hx | hx | hx | hx | hx; exact n0 _ hx.symm; exact n1 _ hx.symm; all_goals cases hx
  have b3 : ∀ x ∈ [v0, v1, v2, Value.int .i64 0, Value.int .i64 0, Value.slice none 0 0], ∀ z, x ≠ Value.int .u8 z := by intro x hx z he; subst he; simp only [List.mem_cons, List.not_mem_nil, or_false] at hx; rcases hx with hx | hx | hx | hx | hx | hx; exact n0 _ hx.symm; exact n1 _ hx.symm; exact n2 _ hx.symm; all_goals cases hx
  have b4 : ∀ x ∈ [v0, v1, v2, v3, Value.int .i64 0, Value.slice none 0 0], ∀ z, x ≠ Value.int .u8 z := by intro x hx z he; subst he; simp only [List.mem_cons, List.not_mem_nil, or_false] at hx; rcases hx with hx | hx | hx | hx | hx | hx; exact n0 _ hx.symm; exact n1 _ hx.symm; exact n2 _ hx.symm; exact n3 _ hx.symm; all_goals cases hx
  have b5 : ∀ x ∈ [v0, v1, v2, v3, v4, Value.slice none 0 0], ∀ z, x ≠ Value.int .u8 z := by intro x hx z he; subst he; simp only [List.mem_cons, List.not_mem_nil, or_false] at hx; rcases hx with hx | hx | hx | hx | hx | hx; exact n0 _ hx.symm; exact n1 _ hx.symm; exact n2 _ hx.symm; exact n3 _ hx.symm; exact n4 _ hx.symm; all_goals cases hx
  have r0 := h.rd.set S0.block b0 hg 0 v0
  have r1 := r0.set S1.block b1 hg 1 v1
  have r2 := r1.set S2.block b2 hg 2 v2
  have r3 := r2.set S3.block b3 hg 3 v3
  have r4 := r3.set S4.block b4 hg 4 v4
  have r5 := r4.set S5.block b5 hg 5 v5
  have hp : w.heap.size ≤ g0 := hlt.2.2
  exact ⟨r5, S6, (((((h.keep.setCell (p := ⟨g0, 0, none⟩) (.inl hp) v0).setCell (p := ⟨g0, 1, none⟩) (.inl hp) v1).setCell (p := ⟨g0, 2, none⟩) (.inl hp) v2).setCell (p := ⟨g0, 3, none⟩) (.inl hp) v3).setCell (p := ⟨g0, 4, none⟩) (.inl hp) v4).setCell (p := ⟨g0, 5, none⟩) (.inl hp) v5,
    fun B A l hr => (((((hr.store S0.block b0 0 v0).store S1.block b1 1 v1).store S2.block b2 2 v2).store S3.block b3 3 v3).store S4.block b4 4 v4).store S5.block b5 5 v5⟩

set_option maxRecDepth 100000 in
set_option maxHeartbeats 2000000 in
theorem take_any_call (g : Nat) (s : List UInt8 × Bool) (w : World) (h : RdE w g s) (hb : s.1.length ≤ 70368744177664) :
    Calls Tryd.prog 43 #[.pointer (some ⟨g, 0, none⟩)] w fun e w' => ∃ A c, e = .returned (.agg #[.int .i64 (takeC s).kind, .string (ba (takeC s).path), .string (ba (takeC s).other), .int .i64 (takeC s).off, .int .i64 (takeC s).n, .slice A (takeC s).data.length c]) ∧
      Rd w' w'.heap.size A (takeC s).data ∧ RdE w' g (takeS 6 s) ∧ Keep (fun k => k = g) w w' := by
  have hglt := h.lt
  obtain ⟨w1, hw1⟩ : ∃ w1, w.alloc (.cells #[.int .i64 0, .string ⟨#[]⟩, .string ⟨#[]⟩, .int .i64 0, .int .i64 0, .slice none 0 0] 24) = w1 := ⟨_, rfl⟩
  obtain ⟨w2, hw2⟩ : ∃ w2, w1.alloc (.cells #[.int .i64 0, .string ⟨#[]⟩, .string ⟨#[]⟩, .int .i64 0, .int .i64 0, .slice none 0 0] 24) = w2 := ⟨_, rfl⟩
  obtain ⟨g0, hg0⟩ : ∃ g0, w.heap.size = g0 := ⟨_, rfl⟩
  obtain ⟨g1, hg1⟩ : ∃ g1, w1.heap.size = g1 := ⟨_, rfl⟩
  have s1 : w1.heap.size = w.heap.size + 1 := by rw [← hw1]; simp
  have k01 : KF w w1 := by rw [← hw1]; exact (KF.refl _).alloc _
  have k12 : KF w1 w2 := by rw [← hw2]; exact (KF.refl _).alloc _
  have k02 := KF.trans k01 k12
  have Q0 : Six w1 g0 (.int .i64 0) (.string ⟨#[]⟩) (.string ⟨#[]⟩) (.int .i64 0) (.int .i64 0) (.slice none 0 0) := ⟨by rw [← hw1, ← hg0]; exact heap_alloc_new w _⟩
  have T2 : Tk w w2 g g0 g1 s (.int .i64 0) (.string ⟨#[]⟩) (.string ⟨#[]⟩) (.int .i64 0) (.int .i64 0) (.slice none 0 0) :=
    ⟨h.kept k02, ⟨by rw [← hw2, ← hg1]; exact heap_alloc_new w1 _⟩, Q0.kept k12 (fun h => h), Keep.mono k02 (fun _ _ h => h.elim), ⟨by omega, by omega, by omega⟩, by simp⟩
  have HW1 := Lib.hid hw1
  have HW2 := Lib.hid hw2
  have HG0 := Lib.hid hg0
  have HG1 := Lib.hid hg1
  have l1 := takeS_len s 1
  have l2 := takeS_len s 2
  have l3 := takeS_len s 3
  have l4 := takeS_len s 4
  have l5 := takeS_len s 5
  clear Q0 k01 k12 hw1 hw2 hg0 hg1 s1 h k02
  have C1 := Lib.hid (byte_e g s w2 T2.rd hb)
  go_enter Tryd.func43, Tryd.ntmps43
  go_upto_region 1 with fail
  rw [HW1.out, HG0.out]
  go_upto_region 2 with fail
  rw [HW2.out, HG1.out]
  clear HW1 HW2 HG0 HG1
  go_wp2_with fail
  refine C1.out.mono ?_
  rintro e w3 ⟨rfl, R3, k3⟩
  have hx : num (tkL 1 s.1 s.2) < 256 := by
    have hlt := num_lt (tkL 1 s.1 s.2)
    have : 256 ^ (tkL 1 s.1 s.2).length ≤ 256 ^ 1 := Nat.pow_le_pow_right (by omega) (tkL_le 1 s.1 s.2)
    omega
  have z0 : wrap64 ((num (tkL 1 s.1 s.2) : Nat) : Int) = ((num (tkL 1 s.1 s.2) : Nat) : Int) := IntWalk.wrap64_in _ ⟨by omega, by omega⟩
  have T3 := T2.kept k3 (st' := takeS 1 s) R3
  have T3' := T3.set0 (.int .i64 ((num (tkL 1 s.1 s.2) : Nat) : Int)) (by simp)
  obtain ⟨p0, p1, p2, p3, p4, p5⟩ := T3.six.cells
  have pf := T3.six.free 0
  have C2 := Lib.hid (by_e g (takeS 1 s) 300 _ T3'.rd (by omega))
  clear C1 R3 k3 T2 T3
  have HK : Hid ((takeC s).kind = ((num (tkL 1 s.1 s.2) : Nat) : Int)) := Lib.hid rfl
  generalize num (tkL 1 s.1 s.2) = kv at *
  go_wp2_with fail
  refine C2.out.mono ?_
  rintro e w4 ⟨A4, c4, rfl, r4, _, R4, k4⟩
  have T4 := T3'.kept k4 (st' := takeS 2 s) R4
  have cv4 := string_any c4 r4
  have HP : Hid ((takeC s).path = byV 300 (takeS 1 s)) := Lib.hid rfl
  generalize byV 300 (takeS 1 s) = pv at *
  have T4' := T4.set1 (.string (ba pv)) (by simp)
  clear p0 p1 p2 p3 p4 p5 pf C2 R4 k4 T3' z0
  obtain ⟨p0, p1, p2, p3, p4, p5⟩ := T4.six.cells
  have pf := T4.six.free 1
  have C3 := Lib.hid (by_e g (takeS 2 s) 300 _ T4'.rd (by omega))
  clear T4
  go_wp2_with fail
  refine C3.out.mono ?_
  rintro e w5 ⟨A5, c5, rfl, r5, _, R5, k5⟩
  have T5 := T4'.kept k5 (st' := takeS 3 s) R5
  have cv5 := string_any c5 r5
  have HO : Hid ((takeC s).other = byV 300 (takeS 2 s)) := Lib.hid rfl
  generalize byV 300 (takeS 2 s) = ov at *
  have T5' := T5.set2 (.string (ba ov)) (by simp)
  clear p0 p1 p2 p3 p4 p5 pf C3 R5 k5 T4' cv4 r4
  obtain ⟨p0, p1, p2, p3, p4, p5⟩ := T5.six.cells
  have pf := T5.six.free 2
  have C4 := Lib.hid (int_e g (takeS 3 s) _ T5'.rd (by omega))
  clear T5
  go_wp2_with fail
  refine C4.out.mono ?_
  rintro e w6 ⟨rfl, R6, k6⟩
  have T6 := T5'.kept k6 (st' := takeS 4 s) R6
  have HF : Hid ((takeC s).off = asInt64 (num (tkL 8 (takeS 3 s).1 (takeS 3 s).2))) := Lib.hid rfl
  generalize asInt64 (num (tkL 8 (takeS 3 s).1 (takeS 3 s).2)) = fv at *
  have T6' := T6.set3 (.int .i64 fv) (by simp)
  clear p0 p1 p2 p3 p4 p5 pf C4 R6 k6 T5' cv5 r5
  obtain ⟨p0, p1, p2, p3, p4, p5⟩ := T6.six.cells
  have pf := T6.six.free 3
  have C5 := Lib.hid (int_e g (takeS 4 s) _ T6'.rd (by omega))
  clear T6
  go_wp2_with fail
  refine C5.out.mono ?_
  rintro e w7 ⟨rfl, R7, k7⟩
  have T7 := T6'.kept k7 (st' := takeS 5 s) R7
  have HNN : Hid ((takeC s).n = asInt64 (num (tkL 8 (takeS 4 s).1 (takeS 4 s).2))) := Lib.hid rfl
  generalize asInt64 (num (tkL 8 (takeS 4 s).1 (takeS 4 s).2)) = nv at *
  have T7' := T7.set4 (.int .i64 nv) (by simp)
  clear p0 p1 p2 p3 p4 p5 pf C5 R7 k7 T6'
  obtain ⟨p0, p1, p2, p3, p4, p5⟩ := T7.six.cells
  have pf := T7.six.free 4
  have C6 := Lib.hid (by_e g (takeS 5 s) 4096 _ T7'.rd (by omega))
  clear T7
  go_wp2_with fail
  refine C6.out.mono ?_
  rintro e w8 ⟨A8, c8, rfl, r8, _, R8, k8⟩
  have T8 := T7'.kept k8 (st' := takeS 6 s) R8
  have HDD : Hid ((takeC s).data = byV 4096 (takeS 5 s)) := Lib.hid rfl
  generalize byV 4096 (takeS 5 s) = dv at *
  have T8' := T8.set5 (.slice A8 dv.length c8) (by simp)
  have r8' : Rd (w8.setCell ⟨g1, 5, none⟩ (.slice A8 dv.length c8)) w8.heap.size A8 dv := r8.store T8.six.block (by simp) 5 _
  clear p0 p1 p2 p3 p4 p5 pf C6 R8 k8 T7' r8
  obtain ⟨p0, p1, p2, p3, p4, p5⟩ := T8.six.cells
  have pf := T8.six.free 5
  obtain ⟨w9, hw9⟩ : ∃ w9, w8.setCell ⟨g1, 5, none⟩ (.slice A8 dv.length c8) = w9 := ⟨_, rfl⟩
  have hz9 : w9.heap.size = w8.heap.size := by rw [← hw9]; simp [World.setCell]
  rw [hw9] at T8' r8'
  have HW9 := Lib.hid hw9
  clear hw9
  go_upto_region 8 with fail
  rw [HW9.out]
  obtain ⟨q0, q1, q2, q3, q4, q5⟩ := T8'.six.cells
  have f0 := T8'.res.free 0
  have f1 := T8'.res.free 1
  have f2 := T8'.res.free 2
  have f3 := T8'.res.free 3
  have f4 := T8'.res.free 4
  have f5 := T8'.res.free 5
  obtain ⟨u0, u1, u2, u3, u4, u5⟩ := T8'.res.cells
  have hne : g0 ≠ g1 := by have := T8'.lt; omega
  have FIN := Lib.hid (six_outs T8')
  clear T8 T8' p0 p1 p2 p3 p4 p5 pf HW9
  go_wp2_with fail
  obtain ⟨e1, e2, e3, e4⟩ := FIN.out
  obtain ⟨c0, c1, c2, c3, c4', c5'⟩ := e2.cells
  have hr := e4 _ _ _ r8'
  have hsz : w8.heap.size ≤ ((((((w9.setCell ⟨g0, 0, none⟩ (.int .i64 (kv : Int))).setCell ⟨g0, 1, none⟩ (.string (ba pv))).setCell ⟨g0, 2, none⟩ (.string (ba ov))).setCell ⟨g0, 3, none⟩ (.int .i64 fv)).setCell ⟨g0, 4, none⟩ (.int .i64 nv)).setCell ⟨g0, 5, none⟩ (.slice A8 dv.length c8)).heap.size := by simp only [World.setCell, Array.size_modify]; omega
  clear FIN r8' e4 e2
  refine bodyPost_ret (v := .agg #[.int .i64 (kv : Int), .string (ba pv), .string (ba ov), .int .i64 fv, .int .i64 nv, .slice A8 dv.length c8]) (by simp [results, Tryd.results43, go_sem, c0, c1, c2, c3, c4', c5']) rfl ?_
  exact ⟨A8, c8, by rw [HK.out, HP.out, HO.out, HF.out, HNN.out, HDD.out], by rw [HDD.out]; exact hr.more hsz, e1, e3⟩
end Go.Proofs.YtklpebfkgdklmaaDoor
