/-
  WALKS: the reference's Decode: what both of its kinds share; of calls.
-/
import Derived.Test.YtklpebfkgdklmaaDoorRefB
import Derived.Test.YtklpebfkgdklmaaDoorDecA
namespace Go.Proofs.YtklpebfkgdklmaaDoor
open Go.RowKit

theorem runwrap_dec (A : Option Addr) (l : List UInt8) (n c : Nat) (w : World) (hn : n = l.length) (hc : n ≤ c) (hb : l.length ≤ 1000000000) (hr : Rd w w.heap.size A l) :
    Calls Tryd.prog 47 #[.slice A n c] w fun e w' => KF w w' ∧ (((l.length < 4 ∨ num (l.drop (l.length - 4)) ≠ crc (l.take (l.length - 4))) ∧ e = .returned (.tuple #[.slice none 0 0, .int .i64 3])) ∨
      (¬ (l.length < 4 ∨ num (l.drop (l.length - 4)) ≠ crc (l.take (l.length - 4))) ∧ ∃ A' c', e = .returned (.tuple #[.slice A' (l.length - 4) c', .int .i64 0]) ∧ Own 5 w' (.slice A' (l.length - 4) c') (l.take (l.length - 4)))) := by
  subst hn
  rcases Nat.lt_or_ge l.length 4 with h4 | h4
  · refine (refUnwrap_few A l.length c w h4).mono ?_
    rintro e w' ⟨rfl, rfl⟩
    exact ⟨KF.refl _, .inl ⟨.inl h4, rfl⟩⟩
  · obtain ⟨k, hk⟩ : ∃ k, l.length = k + 4 := ⟨l.length - 4, by omega⟩
    have e4 : l.length - 4 = k := by omega
    rw [e4, hk]
    refine (refUnwrap_full A l k c (num (l.drop k) = crc (l.take k)) w hk.symm (by omega) (by omega) w.heap.size hr (Nat.le_refl _) Iff.rfl).mono ?_
    rintro e w' ⟨kk, ⟨hy, A', m', c', rfl, rfl, ho⟩ | ⟨hy, rfl⟩⟩
    · exact ⟨kk, .inr ⟨by rintro (h | h); omega; exact h hy, A', c', rfl, ho⟩⟩
    · exact ⟨kk, .inl ⟨.inr hy, rfl⟩⟩
theorem RfE.set {w : World} {g : Nat} {s : List UInt8 × Bool} (h : RfE w g s) {q : Nat} {cs : Array Value} {T : TypeId} (hq : w.heap[q]? = some (.cells cs T)) (hno : ∀ x ∈ cs.toList, ∀ z, x ≠ .int .u8 z) (hne : g ≠ q) (i : Nat) (v : Value) : RfE (w.setCell ⟨q, i, none⟩ v) g s := by
  obtain ⟨A, c, L, a, h, hs⟩ := h
  refine ⟨A, c, L, a, ⟨?_, ?_, h.cap, h.le, h.few⟩, hs⟩
  · rw [heap_setCell_other w _ g v hne]
    exact h.block
  · rw [show (w.setCell ⟨q, i, none⟩ v).heap.size = w.heap.size by simp [World.setCell]]
    exact h.rd.store hq hno i v
theorem RfE.past {w w' : World} {g B : Nat} {s : List UInt8 × Bool} {A : Option Addr} {l : List UInt8} (h : RfE w g s) (hr : Rd w B A l) (hB : B ≤ w.heap.size) (k : Keep (fun i => i = g) w w') : Rd w' B A l := by
  obtain ⟨A0, c, L, a, h, _⟩ := h
  exact hr.past hB h.block Rf.no k
/-- A new reader of the reference. -/
theorem RfE.new {w : World} {A : Option Addr} {n c : Nat} {l : List UInt8} (h : Own 5 w (.slice A n c) l) (hn : n = l.length) (hb : l.length ≤ 1000000000) : RfE (w.alloc (.cells #[.slice A n c, .int .i64 0, .bool false] 82)) w.heap.size (l, false) := by
  subst hn
  obtain ⟨A', c', e, h1, h2, hr, _⟩ := h.shape
  injection e with e1 _ e3
  subst e1 e3
  exact ⟨A, c, l, 0, ⟨heap_alloc_new w _, (hr.alloc (Nat.le_refl _) _).more (by simp), ⟨h1, h2⟩, Nat.zero_le _, by omega⟩, rfl⟩
/-- A call that the reference takes: the reader in g, the call in g1, the result (all noughts still) in g0. -/
structure TkF (w wr : World) (g g0 g1 : Nat) (st : List UInt8 × Bool) (v0 v1 v2 v3 v4 v5 : Value) : Prop where
  rd : RfE wr g st
  six : Six wr g1 v0 v1 v2 v3 v4 v5
  res : Six wr g0 (.int .i64 0) (.string ⟨#[]⟩) (.string ⟨#[]⟩) (.int .i64 0) (.int .i64 0) (.slice none 0 0)
  keep : KF w wr
  lt : g0 < g ∧ g < g1 ∧ w.heap.size ≤ g0
  no : ∀ x ∈ [v0, v1, v2, v3, v4, v5], ∀ z, x ≠ .int .u8 z
section
variable {w wr w' : World} {g g0 g1 : Nat} {st st' : List UInt8 × Bool} {v0 v1 v2 v3 v4 v5 : Value}
theorem TkF.kept (h : TkF w wr g g0 g1 st v0 v1 v2 v3 v4 v5) (k : Keep (fun k => k = g) wr w') (r : RfE w' g st') : TkF w w' g g0 g1 st' v0 v1 v2 v3 v4 v5 :=
  ⟨r, h.six.kept k (fun e : g1 = g => by have := h.lt; omega), h.res.kept k (fun e : g0 = g => by have := h.lt; omega), Keep.trans h.keep k (fun i hi (e : i = g) => by have := h.lt; omega), h.lt, h.no⟩
theorem TkF.stored (h : TkF w wr g g0 g1 st v0 v1 v2 v3 v4 v5) (i : Nat) (v : Value) {u0 u1 u2 u3 u4 u5 : Value} (hs : Six (wr.setCell ⟨g1, i, none⟩ v) g1 u0 u1 u2 u3 u4 u5) (hn : ∀ x ∈ [u0, u1, u2, u3, u4, u5], ∀ z, x ≠ .int .u8 z) :
    TkF w (wr.setCell ⟨g1, i, none⟩ v) g g0 g1 st u0 u1 u2 u3 u4 u5 :=
  ⟨h.rd.set h.six.block (by simpa using h.no) (by have := h.lt; omega) i v, hs,
    h.res.kept ((Keep.refl (fun k => k = g1) wr).setCell (p := ⟨g1, i, none⟩) (.inr rfl) v) (fun e : g0 = g1 => by have := h.lt; omega),
    Keep.setCell h.keep (p := ⟨g1, i, none⟩) (.inl (by have := h.lt; show _ ≤ g1; omega)) v, h.lt, hn⟩
end
theorem TkF.set0 {w wr : World} {g g0 g1 : Nat} {st : List UInt8 × Bool} {v0 v1 v2 v3 v4 v5 : Value} (h : TkF w wr g g0 g1 st v0 v1 v2 v3 v4 v5) (v : Value) (hv : ∀ z, v ≠ .int .u8 z) : TkF w (wr.setCell ⟨g1, 0, none⟩ v) g g0 g1 st v v1 v2 v3 v4 v5 :=
  h.stored 0 v (h.six.set0 v) fun x hx => by
    have := h.no
    simp only [List.mem_cons, List.not_mem_nil, or_false] at this hx
    rcases hx with rfl | rfl | rfl | rfl | rfl | rfl
    all_goals (first | exact hv | exact this _ (by simp))
theorem TkF.set1 {w wr : World} {g g0 g1 : Nat} {st : List UInt8 × Bool} {v0 v1 v2 v3 v4 v5 : Value} (h : TkF w wr g g0 g1 st v0 v1 v2 v3 v4 v5) (v : Value) (hv : ∀ z, v ≠ .int .u8 z) : TkF w (wr.setCell ⟨g1, 1, none⟩ v) g g0 g1 st v0 v v2 v3 v4 v5 :=
  h.stored 1 v (h.six.set1 v) fun x hx => by
    have := h.no
    simp only [List.mem_cons, List.not_mem_nil, or_false] at this hx
    rcases hx with rfl | rfl | rfl | rfl | rfl | rfl
    all_goals (first | exact hv | exact this _ (by simp))
theorem TkF.set2 {w wr : World} {g g0 g1 : Nat} {st : List UInt8 × Bool} {v0 v1 v2 v3 v4 v5 : Value} (h : TkF w wr g g0 g1 st v0 v1 v2 v3 v4 v5) (v : Value) (hv : ∀ z, v ≠ .int .u8 z) : TkF w (wr.setCell ⟨g1, 2, none⟩ v) g g0 g1 st v0 v1 v v3 v4 v5 :=
  h.stored 2 v (h.six.set2 v) fun x hx => by
    have := h.no
    simp only [List.mem_cons, List.not_mem_nil, or_false] at this hx
    rcases hx with rfl | rfl | rfl | rfl | rfl | rfl
    all_goals (first | exact hv | exact this _ (by simp))
theorem TkF.set3 {w wr : World} {g g0 g1 : Nat} {st : List UInt8 × Bool} {v0 v1 v2 v3 v4 v5 : Value} (h : TkF w wr g g0 g1 st v0 v1 v2 v3 v4 v5) (v : Value) (hv : ∀ z, v ≠ .int .u8 z) : TkF w (wr.setCell ⟨g1, 3, none⟩ v) g g0 g1 st v0 v1 v2 v v4 v5 :=
  h.stored 3 v (h.six.set3 v) fun x hx => by
    have := h.no
    simp only [List.mem_cons, List.not_mem_nil, or_false] at this hx
    rcases hx with rfl | rfl | rfl | rfl | rfl | rfl
    all_goals (first | exact hv | exact this _ (by simp))
theorem TkF.set4 {w wr : World} {g g0 g1 : Nat} {st : List UInt8 × Bool} {v0 v1 v2 v3 v4 v5 : Value} (h : TkF w wr g g0 g1 st v0 v1 v2 v3 v4 v5) (v : Value) (hv : ∀ z, v ≠ .int .u8 z) : TkF w (wr.setCell ⟨g1, 4, none⟩ v) g g0 g1 st v0 v1 v2 v3 v v5 :=
  h.stored 4 v (h.six.set4 v) fun x hx => by
    have := h.no
    simp only [List.mem_cons, List.not_mem_nil, or_false] at this hx
    rcases hx with rfl | rfl | rfl | rfl | rfl | rfl
    all_goals (first | exact hv | exact this _ (by simp))
theorem TkF.set5 {w wr : World} {g g0 g1 : Nat} {st : List UInt8 × Bool} {v0 v1 v2 v3 v4 v5 : Value} (h : TkF w wr g g0 g1 st v0 v1 v2 v3 v4 v5) (v : Value) (hv : ∀ z, v ≠ .int .u8 z) : TkF w (wr.setCell ⟨g1, 5, none⟩ v) g g0 g1 st v0 v1 v2 v3 v4 v :=
  h.stored 5 v (h.six.set5 v) fun x hx => by
    have := h.no
    simp only [List.mem_cons, List.not_mem_nil, or_false] at this hx
    rcases hx with rfl | rfl | rfl | rfl | rfl | rfl
    all_goals (first | exact hv | exact this _ (by simp))
/-- An answer that the reference takes: the reader in g, the answer in g1, the result (all noughts still) in g0. -/
structure TkG (w wr : World) (g g0 g1 : Nat) (st : List UInt8 × Bool) (v0 v1 v2 v3 v4 v5 : Value) : Prop where
  rd : RfE wr g st
  six : SixA wr g1 v0 v1 v2 v3 v4 v5
  res : SixA wr g0 (.int .i64 0) (.int .i64 0) (.int .i64 0) (.int .i64 0) (.slice none 0 0) (.slice none 0 0)
  keep : KF w wr
  lt : g0 < g ∧ g < g1 ∧ w.heap.size ≤ g0
  no : ∀ x ∈ [v0, v1, v2, v3, v4, v5], ∀ z, x ≠ .int .u8 z
section
variable {w wr w' : World} {g g0 g1 : Nat} {st st' : List UInt8 × Bool} {v0 v1 v2 v3 v4 v5 : Value}
theorem TkG.kept (h : TkG w wr g g0 g1 st v0 v1 v2 v3 v4 v5) (k : Keep (fun k => k = g) wr w') (r : RfE w' g st') : TkG w w' g g0 g1 st' v0 v1 v2 v3 v4 v5 :=
  ⟨r, h.six.kept k (fun e : g1 = g => by have := h.lt; omega), h.res.kept k (fun e : g0 = g => by have := h.lt; omega), Keep.trans h.keep k (fun i hi (e : i = g) => by have := h.lt; omega), h.lt, h.no⟩
theorem TkG.stored (h : TkG w wr g g0 g1 st v0 v1 v2 v3 v4 v5) (i : Nat) (v : Value) {u0 u1 u2 u3 u4 u5 : Value} (hs : SixA (wr.setCell ⟨g1, i, none⟩ v) g1 u0 u1 u2 u3 u4 u5) (hn : ∀ x ∈ [u0, u1, u2, u3, u4, u5], ∀ z, x ≠ .int .u8 z) :
    TkG w (wr.setCell ⟨g1, i, none⟩ v) g g0 g1 st u0 u1 u2 u3 u4 u5 :=
  ⟨h.rd.set h.six.block (by simpa using h.no) (by have := h.lt; omega) i v, hs,
    h.res.kept ((Keep.refl (fun k => k = g1) wr).setCell (p := ⟨g1, i, none⟩) (.inr rfl) v) (fun e : g0 = g1 => by have := h.lt; omega),
    Keep.setCell h.keep (p := ⟨g1, i, none⟩) (.inl (by have := h.lt; show _ ≤ g1; omega)) v, h.lt, hn⟩
end
theorem TkG.set0 {w wr : World} {g g0 g1 : Nat} {st : List UInt8 × Bool} {v0 v1 v2 v3 v4 v5 : Value} (h : TkG w wr g g0 g1 st v0 v1 v2 v3 v4 v5) (v : Value) (hv : ∀ z, v ≠ .int .u8 z) : TkG w (wr.setCell ⟨g1, 0, none⟩ v) g g0 g1 st v v1 v2 v3 v4 v5 :=
  h.stored 0 v (h.six.set0 v) fun x hx => by
    have := h.no
    simp only [List.mem_cons, List.not_mem_nil, or_false] at this hx
    rcases hx with rfl | rfl | rfl | rfl | rfl | rfl
    all_goals (first | exact hv | exact this _ (by simp))
theorem TkG.set1 {w wr : World} {g g0 g1 : Nat} {st : List UInt8 × Bool} {v0 v1 v2 v3 v4 v5 : Value} (h : TkG w wr g g0 g1 st v0 v1 v2 v3 v4 v5) (v : Value) (hv : ∀ z, v ≠ .int .u8 z) : TkG w (wr.setCell ⟨g1, 1, none⟩ v) g g0 g1 st v0 v v2 v3 v4 v5 :=
  h.stored 1 v (h.six.set1 v) fun x hx => by
    have := h.no
    simp only [List.mem_cons, List.not_mem_nil, or_false] at this hx
    rcases hx with rfl | rfl | rfl | rfl | rfl | rfl
    all_goals (first | exact hv | exact this _ (by simp))
theorem TkG.set2 {w wr : World} {g g0 g1 : Nat} {st : List UInt8 × Bool} {v0 v1 v2 v3 v4 v5 : Value} (h : TkG w wr g g0 g1 st v0 v1 v2 v3 v4 v5) (v : Value) (hv : ∀ z, v ≠ .int .u8 z) : TkG w (wr.setCell ⟨g1, 2, none⟩ v) g g0 g1 st v0 v1 v v3 v4 v5 :=
  h.stored 2 v (h.six.set2 v) fun x hx => by
    have := h.no
    simp only [List.mem_cons, List.not_mem_nil, or_false] at this hx
    rcases hx with rfl | rfl | rfl | rfl | rfl | rfl
    all_goals (first | exact hv | exact this _ (by simp))
theorem TkG.set3 {w wr : World} {g g0 g1 : Nat} {st : List UInt8 × Bool} {v0 v1 v2 v3 v4 v5 : Value} (h : TkG w wr g g0 g1 st v0 v1 v2 v3 v4 v5) (v : Value) (hv : ∀ z, v ≠ .int .u8 z) : TkG w (wr.setCell ⟨g1, 3, none⟩ v) g g0 g1 st v0 v1 v2 v v4 v5 :=
  h.stored 3 v (h.six.set3 v) fun x hx => by
    have := h.no
    simp only [List.mem_cons, List.not_mem_nil, or_false] at this hx
    rcases hx with rfl | rfl | rfl | rfl | rfl | rfl
    all_goals (first | exact hv | exact this _ (by simp))
theorem TkG.set4 {w wr : World} {g g0 g1 : Nat} {st : List UInt8 × Bool} {v0 v1 v2 v3 v4 v5 : Value} (h : TkG w wr g g0 g1 st v0 v1 v2 v3 v4 v5) (v : Value) (hv : ∀ z, v ≠ .int .u8 z) : TkG w (wr.setCell ⟨g1, 4, none⟩ v) g g0 g1 st v0 v1 v2 v3 v v5 :=
  h.stored 4 v (h.six.set4 v) fun x hx => by
    have := h.no
    simp only [List.mem_cons, List.not_mem_nil, or_false] at this hx
    rcases hx with rfl | rfl | rfl | rfl | rfl | rfl
    all_goals (first | exact hv | exact this _ (by simp))
theorem TkG.set5 {w wr : World} {g g0 g1 : Nat} {st : List UInt8 × Bool} {v0 v1 v2 v3 v4 v5 : Value} (h : TkG w wr g g0 g1 st v0 v1 v2 v3 v4 v5) (v : Value) (hv : ∀ z, v ≠ .int .u8 z) : TkG w (wr.setCell ⟨g1, 5, none⟩ v) g g0 g1 st v0 v1 v2 v3 v4 v :=
  h.stored 5 v (h.six.set5 v) fun x hx => by
    have := h.no
    simp only [List.mem_cons, List.not_mem_nil, or_false] at this hx
    rcases hx with rfl | rfl | rfl | rfl | rfl | rfl
    all_goals (first | exact hv | exact this _ (by simp))
end Go.Proofs.YtklpebfkgdklmaaDoor
