/-
  A struct of 7 cells (api.Log) that lies in a block, cell by cell; made by gen_cells.py.
-/
import Derived.Test.YtklpebfkgdklmabDoorUnwrap
import Derived.Test.YtklpebfkgdklmabDoorOctB
import Derived.Test.YtklpebfkgdklmabDoorWn
namespace Go.Proofs.YtklpebfkgdklmabDoor
open Go.RowKit

structure Lg (w : World) (g : Nat) (v0 v1 v2 v3 v4 v5 v6 : Value) : Prop where
  block : w.heap[g]? = some (.cells #[v0, v1, v2, v3, v4, v5, v6] 26)
section
variable {w w' : World} {g : Nat} {v0 v1 v2 v3 v4 v5 v6 : Value}
theorem Lg.lt (h : Lg w g v0 v1 v2 v3 v4 v5 v6) : g < w.heap.size := lt_of_block h.block
theorem Lg.kept {S : Nat → Prop} (h : Lg w g v0 v1 v2 v3 v4 v5 v6) (k : Keep S w w') (hn : ¬ S g) : Lg w' g v0 v1 v2 v3 v4 v5 v6 := ⟨(k.block g h.lt hn).trans h.block⟩
theorem Lg.free (h : Lg w g v0 v1 v2 v3 v4 v5 v6) (i : Nat) : w.frozen? ⟨g, i, none⟩ = false := by simp [World.frozen?, h.block]
theorem Lg.set0 (h : Lg w g v0 v1 v2 v3 v4 v5 v6) (v : Value) : Lg (w.setCell ⟨g, 0, none⟩ v) g v v1 v2 v3 v4 v5 v6 := ⟨heap_setCell_same w g 0 _ _ v h.block⟩
theorem Lg.set1 (h : Lg w g v0 v1 v2 v3 v4 v5 v6) (v : Value) : Lg (w.setCell ⟨g, 1, none⟩ v) g v0 v v2 v3 v4 v5 v6 := ⟨heap_setCell_same w g 1 _ _ v h.block⟩
theorem Lg.set2 (h : Lg w g v0 v1 v2 v3 v4 v5 v6) (v : Value) : Lg (w.setCell ⟨g, 2, none⟩ v) g v0 v1 v v3 v4 v5 v6 := ⟨heap_setCell_same w g 2 _ _ v h.block⟩
theorem Lg.set3 (h : Lg w g v0 v1 v2 v3 v4 v5 v6) (v : Value) : Lg (w.setCell ⟨g, 3, none⟩ v) g v0 v1 v2 v v4 v5 v6 := ⟨heap_setCell_same w g 3 _ _ v h.block⟩
theorem Lg.set4 (h : Lg w g v0 v1 v2 v3 v4 v5 v6) (v : Value) : Lg (w.setCell ⟨g, 4, none⟩ v) g v0 v1 v2 v3 v v5 v6 := ⟨heap_setCell_same w g 4 _ _ v h.block⟩
theorem Lg.set5 (h : Lg w g v0 v1 v2 v3 v4 v5 v6) (v : Value) : Lg (w.setCell ⟨g, 5, none⟩ v) g v0 v1 v2 v3 v4 v v6 := ⟨heap_setCell_same w g 5 _ _ v h.block⟩
theorem Lg.set6 (h : Lg w g v0 v1 v2 v3 v4 v5 v6) (v : Value) : Lg (w.setCell ⟨g, 6, none⟩ v) g v0 v1 v2 v3 v4 v5 v := ⟨heap_setCell_same w g 6 _ _ v h.block⟩
theorem Lg.cells (h : Lg w g v0 v1 v2 v3 v4 v5 v6) : w.cell? ⟨g, 0, none⟩ = some v0 ∧ w.cell? ⟨g, 1, none⟩ = some v1 ∧ w.cell? ⟨g, 2, none⟩ = some v2 ∧ w.cell? ⟨g, 3, none⟩ = some v3 ∧ w.cell? ⟨g, 4, none⟩ = some v4 ∧ w.cell? ⟨g, 5, none⟩ = some v5 ∧ w.cell? ⟨g, 6, none⟩ = some v6 := by
  have hb := h.block
  refine ⟨?_, ?_, ?_, ?_, ?_, ?_, ?_⟩ <;> simp [World.cell?, hb]
end
/-- No byte. -/
def NbLg (v : Value) : Prop := ∀ z, v ≠ .int .u8 z
theorem NbLg.all {v0 v1 v2 v3 v4 v5 v6 : Value} (n0 : NbLg v0) (n1 : NbLg v1) (n2 : NbLg v2) (n3 : NbLg v3) (n4 : NbLg v4) (n5 : NbLg v5) (n6 : NbLg v6) : ∀ x ∈ (#[v0, v1, v2, v3, v4, v5, v6] : Array Value).toList, ∀ z, x ≠ .int .u8 z := by
  intro x hx
  simp only [List.mem_cons, List.not_mem_nil, or_false] at hx
  rcases hx with rfl | rfl | rfl | rfl | rfl | rfl | rfl
  · exact n0
  · exact n1
  · exact n2
  · exact n3
  · exact n4
  · exact n5
  · exact n6
/-- Cells that are stored over. -/
theorem Lg_put {w : World} {g : Nat} {u0 u1 u2 u3 u4 u5 u6 v0 v1 v2 v3 v4 v5 v6 : Value} (S0 : Lg w g u0 u1 u2 u3 u4 u5 u6) (m0 : NbLg u0) (m1 : NbLg u1) (m2 : NbLg u2) (m3 : NbLg u3) (m4 : NbLg u4) (m5 : NbLg u5) (m6 : NbLg u6) (n0 : NbLg v0) (n1 : NbLg v1) (n2 : NbLg v2) (n3 : NbLg v3) (n4 : NbLg v4) (n5 : NbLg v5) :
    Lg (((((((w.setCell ⟨g, 0, none⟩ v0).setCell ⟨g, 1, none⟩ v1).setCell ⟨g, 2, none⟩ v2).setCell ⟨g, 3, none⟩ v3).setCell ⟨g, 4, none⟩ v4).setCell ⟨g, 5, none⟩ v5).setCell ⟨g, 6, none⟩ v6) g v0 v1 v2 v3 v4 v5 v6 ∧ Keep (fun k => k = g) w (((((((w.setCell ⟨g, 0, none⟩ v0).setCell ⟨g, 1, none⟩ v1).setCell ⟨g, 2, none⟩ v2).setCell ⟨g, 3, none⟩ v3).setCell ⟨g, 4, none⟩ v4).setCell ⟨g, 5, none⟩ v5).setCell ⟨g, 6, none⟩ v6) ∧ (∀ B A l, Rd w B A l → Rd (((((((w.setCell ⟨g, 0, none⟩ v0).setCell ⟨g, 1, none⟩ v1).setCell ⟨g, 2, none⟩ v2).setCell ⟨g, 3, none⟩ v3).setCell ⟨g, 4, none⟩ v4).setCell ⟨g, 5, none⟩ v5).setCell ⟨g, 6, none⟩ v6) B A l) ∧ (((((((w.setCell ⟨g, 0, none⟩ v0).setCell ⟨g, 1, none⟩ v1).setCell ⟨g, 2, none⟩ v2).setCell ⟨g, 3, none⟩ v3).setCell ⟨g, 4, none⟩ v4).setCell ⟨g, 5, none⟩ v5).setCell ⟨g, 6, none⟩ v6).heap.size = w.heap.size := by
  have S1 := S0.set0 v0
  have S2 := S1.set1 v1
  have S3 := S2.set2 v2
  have S4 := S3.set3 v3
  have S5 := S4.set4 v4
  have S6 := S5.set5 v5
  have S7 := S6.set6 v6
  exact ⟨S7, ((((((((Keep.refl (fun k => k = g) w).setCell (p := ⟨g, 0, none⟩) (.inr rfl) v0).setCell (p := ⟨g, 1, none⟩) (.inr rfl) v1).setCell (p := ⟨g, 2, none⟩) (.inr rfl) v2).setCell (p := ⟨g, 3, none⟩) (.inr rfl) v3).setCell (p := ⟨g, 4, none⟩) (.inr rfl) v4).setCell (p := ⟨g, 5, none⟩) (.inr rfl) v5).setCell (p := ⟨g, 6, none⟩) (.inr rfl) v6), fun B A l hr => (((((((hr.store S0.block (NbLg.all m0 m1 m2 m3 m4 m5 m6) 0 v0).store S1.block (NbLg.all n0 m1 m2 m3 m4 m5 m6) 1 v1).store S2.block (NbLg.all n0 n1 m2 m3 m4 m5 m6) 2 v2).store S3.block (NbLg.all n0 n1 n2 m3 m4 m5 m6) 3 v3).store S4.block (NbLg.all n0 n1 n2 n3 m4 m5 m6) 4 v4).store S5.block (NbLg.all n0 n1 n2 n3 n4 m5 m6) 5 v5).store S6.block (NbLg.all n0 n1 n2 n3 n4 n5 m6) 6 v6), by simp only [World.setCell, Array.size_modify]⟩

/-- One that is being taken: the reader in g, the struct in g1, the result (all zero still) in g0. -/
structure TkLg (w wr : World) (g g0 g1 : Nat) (st : List UInt8 × Bool) (v0 v1 v2 v3 v4 v5 v6 : Value) : Prop where
  rd : RdE wr g st
  six : Lg wr g1 v0 v1 v2 v3 v4 v5 v6
  res : Lg wr g0 (.int .i64 0) (.int .i64 0) (.int .i64 0) (.int .i64 0) (.int .i64 0) (.int .i64 0) (.slice none 0 0)
  keep : Keep (fun k => k = g) w wr
  lt : g < g0 ∧ g0 < g1 ∧ w.heap.size ≤ g0
  no : NbLg v0 ∧ NbLg v1 ∧ NbLg v2 ∧ NbLg v3 ∧ NbLg v4 ∧ NbLg v5 ∧ NbLg v6
section
variable {w wr w' : World} {g g0 g1 : Nat} {st st' : List UInt8 × Bool} {v0 v1 v2 v3 v4 v5 v6 : Value}
theorem TkLg.kept (h : TkLg w wr g g0 g1 st v0 v1 v2 v3 v4 v5 v6) (k : Keep (fun k => k = g) wr w') (r : RdE w' g st') : TkLg w w' g g0 g1 st' v0 v1 v2 v3 v4 v5 v6 :=
  ⟨r, h.six.kept k (fun e : g1 = g => by have := h.lt; omega), h.res.kept k (fun e : g0 = g => by have := h.lt; omega), h.keep.trans k (fun _ _ h => h), h.lt, h.no⟩
theorem RdE.setLg (h : RdE w g st) {q : Nat} (hq : Lg w q v0 v1 v2 v3 v4 v5 v6) (n0 : NbLg v0) (n1 : NbLg v1) (n2 : NbLg v2) (n3 : NbLg v3) (n4 : NbLg v4) (n5 : NbLg v5) (n6 : NbLg v6) (hne : g ≠ q) (i : Nat) (v : Value) : RdE (w.setCell ⟨q, i, none⟩ v) g st := by
  obtain ⟨A, c, h⟩ := h
  refine ⟨A, c, ⟨?_, ?_, h.cap, h.nil⟩⟩
  · rw [heap_setCell_other w _ g v hne]
    exact h.block
  · have := h.rd.store hq.block (NbLg.all n0 n1 n2 n3 n4 n5 n6) i v
    rw [show (w.setCell ⟨q, i, none⟩ v).heap.size = w.heap.size by simp [World.setCell]]
    exact this
theorem TkLg.set0 (h : TkLg w wr g g0 g1 st v0 v1 v2 v3 v4 v5 v6) (v : Value) (hv : NbLg v) : TkLg w (wr.setCell ⟨g1, 0, none⟩ v) g g0 g1 st v v1 v2 v3 v4 v5 v6 := by
  obtain ⟨n0, n1, n2, n3, n4, n5, n6⟩ := h.no
  exact ⟨h.rd.setLg h.six n0 n1 n2 n3 n4 n5 n6 (by have := h.lt; omega) 0 v, h.six.set0 v, h.res.kept ((Keep.refl (fun k => k = g1) wr).setCell (p := ⟨g1, 0, none⟩) (.inr rfl) v) (fun e : g0 = g1 => by have := h.lt; omega),
    h.keep.setCell (p := ⟨g1, 0, none⟩) (.inl (by have := h.lt; show _ ≤ g1; omega)) v, h.lt, ⟨hv, n1, n2, n3, n4, n5, n6⟩⟩
theorem TkLg.set1 (h : TkLg w wr g g0 g1 st v0 v1 v2 v3 v4 v5 v6) (v : Value) (hv : NbLg v) : TkLg w (wr.setCell ⟨g1, 1, none⟩ v) g g0 g1 st v0 v v2 v3 v4 v5 v6 := by
  obtain ⟨n0, n1, n2, n3, n4, n5, n6⟩ := h.no
  exact ⟨h.rd.setLg h.six n0 n1 n2 n3 n4 n5 n6 (by have := h.lt; omega) 1 v, h.six.set1 v, h.res.kept ((Keep.refl (fun k => k = g1) wr).setCell (p := ⟨g1, 1, none⟩) (.inr rfl) v) (fun e : g0 = g1 => by have := h.lt; omega),
    h.keep.setCell (p := ⟨g1, 1, none⟩) (.inl (by have := h.lt; show _ ≤ g1; omega)) v, h.lt, ⟨n0, hv, n2, n3, n4, n5, n6⟩⟩
theorem TkLg.set2 (h : TkLg w wr g g0 g1 st v0 v1 v2 v3 v4 v5 v6) (v : Value) (hv : NbLg v) : TkLg w (wr.setCell ⟨g1, 2, none⟩ v) g g0 g1 st v0 v1 v v3 v4 v5 v6 := by
  obtain ⟨n0, n1, n2, n3, n4, n5, n6⟩ := h.no
  exact ⟨h.rd.setLg h.six n0 n1 n2 n3 n4 n5 n6 (by have := h.lt; omega) 2 v, h.six.set2 v, h.res.kept ((Keep.refl (fun k => k = g1) wr).setCell (p := ⟨g1, 2, none⟩) (.inr rfl) v) (fun e : g0 = g1 => by have := h.lt; omega),
    h.keep.setCell (p := ⟨g1, 2, none⟩) (.inl (by have := h.lt; show _ ≤ g1; omega)) v, h.lt, ⟨n0, n1, hv, n3, n4, n5, n6⟩⟩
theorem TkLg.set3 (h : TkLg w wr g g0 g1 st v0 v1 v2 v3 v4 v5 v6) (v : Value) (hv : NbLg v) : TkLg w (wr.setCell ⟨g1, 3, none⟩ v) g g0 g1 st v0 v1 v2 v v4 v5 v6 := by
  obtain ⟨n0, n1, n2, n3, n4, n5, n6⟩ := h.no
  exact ⟨h.rd.setLg h.six n0 n1 n2 n3 n4 n5 n6 (by have := h.lt; omega) 3 v, h.six.set3 v, h.res.kept ((Keep.refl (fun k => k = g1) wr).setCell (p := ⟨g1, 3, none⟩) (.inr rfl) v) (fun e : g0 = g1 => by have := h.lt; omega),
    h.keep.setCell (p := ⟨g1, 3, none⟩) (.inl (by have := h.lt; show _ ≤ g1; omega)) v, h.lt, ⟨n0, n1, n2, hv, n4, n5, n6⟩⟩
theorem TkLg.set4 (h : TkLg w wr g g0 g1 st v0 v1 v2 v3 v4 v5 v6) (v : Value) (hv : NbLg v) : TkLg w (wr.setCell ⟨g1, 4, none⟩ v) g g0 g1 st v0 v1 v2 v3 v v5 v6 := by
  obtain ⟨n0, n1, n2, n3, n4, n5, n6⟩ := h.no
  exact ⟨h.rd.setLg h.six n0 n1 n2 n3 n4 n5 n6 (by have := h.lt; omega) 4 v, h.six.set4 v, h.res.kept ((Keep.refl (fun k => k = g1) wr).setCell (p := ⟨g1, 4, none⟩) (.inr rfl) v) (fun e : g0 = g1 => by have := h.lt; omega),
    h.keep.setCell (p := ⟨g1, 4, none⟩) (.inl (by have := h.lt; show _ ≤ g1; omega)) v, h.lt, ⟨n0, n1, n2, n3, hv, n5, n6⟩⟩
theorem TkLg.set5 (h : TkLg w wr g g0 g1 st v0 v1 v2 v3 v4 v5 v6) (v : Value) (hv : NbLg v) : TkLg w (wr.setCell ⟨g1, 5, none⟩ v) g g0 g1 st v0 v1 v2 v3 v4 v v6 := by
  obtain ⟨n0, n1, n2, n3, n4, n5, n6⟩ := h.no
  exact ⟨h.rd.setLg h.six n0 n1 n2 n3 n4 n5 n6 (by have := h.lt; omega) 5 v, h.six.set5 v, h.res.kept ((Keep.refl (fun k => k = g1) wr).setCell (p := ⟨g1, 5, none⟩) (.inr rfl) v) (fun e : g0 = g1 => by have := h.lt; omega),
    h.keep.setCell (p := ⟨g1, 5, none⟩) (.inl (by have := h.lt; show _ ≤ g1; omega)) v, h.lt, ⟨n0, n1, n2, n3, n4, hv, n6⟩⟩
theorem TkLg.set6 (h : TkLg w wr g g0 g1 st v0 v1 v2 v3 v4 v5 v6) (v : Value) (hv : NbLg v) : TkLg w (wr.setCell ⟨g1, 6, none⟩ v) g g0 g1 st v0 v1 v2 v3 v4 v5 v := by
  obtain ⟨n0, n1, n2, n3, n4, n5, n6⟩ := h.no
  exact ⟨h.rd.setLg h.six n0 n1 n2 n3 n4 n5 n6 (by have := h.lt; omega) 6 v, h.six.set6 v, h.res.kept ((Keep.refl (fun k => k = g1) wr).setCell (p := ⟨g1, 6, none⟩) (.inr rfl) v) (fun e : g0 = g1 => by have := h.lt; omega),
    h.keep.setCell (p := ⟨g1, 6, none⟩) (.inl (by have := h.lt; show _ ≤ g1; omega)) v, h.lt, ⟨n0, n1, n2, n3, n4, n5, hv⟩⟩
theorem Lg_outs (h : TkLg w wr g g0 g1 st v0 v1 v2 v3 v4 v5 v6) :
    RdE (((((((wr.setCell ⟨g0, 0, none⟩ v0).setCell ⟨g0, 1, none⟩ v1).setCell ⟨g0, 2, none⟩ v2).setCell ⟨g0, 3, none⟩ v3).setCell ⟨g0, 4, none⟩ v4).setCell ⟨g0, 5, none⟩ v5).setCell ⟨g0, 6, none⟩ v6) g st ∧ Lg (((((((wr.setCell ⟨g0, 0, none⟩ v0).setCell ⟨g0, 1, none⟩ v1).setCell ⟨g0, 2, none⟩ v2).setCell ⟨g0, 3, none⟩ v3).setCell ⟨g0, 4, none⟩ v4).setCell ⟨g0, 5, none⟩ v5).setCell ⟨g0, 6, none⟩ v6) g0 v0 v1 v2 v3 v4 v5 v6 ∧ Keep (fun k => k = g) w (((((((wr.setCell ⟨g0, 0, none⟩ v0).setCell ⟨g0, 1, none⟩ v1).setCell ⟨g0, 2, none⟩ v2).setCell ⟨g0, 3, none⟩ v3).setCell ⟨g0, 4, none⟩ v4).setCell ⟨g0, 5, none⟩ v5).setCell ⟨g0, 6, none⟩ v6) ∧ (∀ B A l, Rd wr B A l → Rd (((((((wr.setCell ⟨g0, 0, none⟩ v0).setCell ⟨g0, 1, none⟩ v1).setCell ⟨g0, 2, none⟩ v2).setCell ⟨g0, 3, none⟩ v3).setCell ⟨g0, 4, none⟩ v4).setCell ⟨g0, 5, none⟩ v5).setCell ⟨g0, 6, none⟩ v6) B A l) ∧ (((((((wr.setCell ⟨g0, 0, none⟩ v0).setCell ⟨g0, 1, none⟩ v1).setCell ⟨g0, 2, none⟩ v2).setCell ⟨g0, 3, none⟩ v3).setCell ⟨g0, 4, none⟩ v4).setCell ⟨g0, 5, none⟩ v5).setCell ⟨g0, 6, none⟩ v6).heap.size = wr.heap.size := by
  obtain ⟨n0, n1, n2, n3, n4, n5, n6⟩ := h.no
  have hlt := h.lt
  have hg : g ≠ g0 := by omega
  have hp : w.heap.size ≤ g0 := hlt.2.2
  have S0 := h.res
  obtain ⟨e1, e2, e3, e4⟩ := Lg_put (v0 := v0) (v1 := v1) (v2 := v2) (v3 := v3) (v4 := v4) (v5 := v5) (v6 := v6) h.res (by simp [NbLg]) (by simp [NbLg]) (by simp [NbLg]) (by simp [NbLg]) (by simp [NbLg]) (by simp [NbLg]) (by simp [NbLg]) n0 n1 n2 n3 n4 n5
  have S1 := S0.set0 v0
  have S2 := S1.set1 v1
  have S3 := S2.set2 v2
  have S4 := S3.set3 v3
  have S5 := S4.set4 v4
  have S6 := S5.set5 v5
  have S7 := S6.set6 v6
  have r0 := h.rd.setLg S0 (by simp [NbLg]) (by simp [NbLg]) (by simp [NbLg]) (by simp [NbLg]) (by simp [NbLg]) (by simp [NbLg]) (by simp [NbLg]) hg 0 v0
  have r1 := r0.setLg S1 n0 (by simp [NbLg]) (by simp [NbLg]) (by simp [NbLg]) (by simp [NbLg]) (by simp [NbLg]) (by simp [NbLg]) hg 1 v1
  have r2 := r1.setLg S2 n0 n1 (by simp [NbLg]) (by simp [NbLg]) (by simp [NbLg]) (by simp [NbLg]) (by simp [NbLg]) hg 2 v2
  have r3 := r2.setLg S3 n0 n1 n2 (by simp [NbLg]) (by simp [NbLg]) (by simp [NbLg]) (by simp [NbLg]) hg 3 v3
  have r4 := r3.setLg S4 n0 n1 n2 n3 (by simp [NbLg]) (by simp [NbLg]) (by simp [NbLg]) hg 4 v4
  have r5 := r4.setLg S5 n0 n1 n2 n3 n4 (by simp [NbLg]) (by simp [NbLg]) hg 5 v5
  have r6 := r5.setLg S6 n0 n1 n2 n3 n4 n5 (by simp [NbLg]) hg 6 v6
  exact ⟨r6, e1, h.keep.trans e2 (fun i hi (e : i = g0) => by omega), e3, e4⟩
end
end Go.Proofs.YtklpebfkgdklmabDoor
