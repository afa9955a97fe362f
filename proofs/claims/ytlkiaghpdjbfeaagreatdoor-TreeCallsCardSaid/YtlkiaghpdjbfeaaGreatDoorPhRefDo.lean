/-
  The reference's do, kind by kind.
-/
import Derived.Test.YtlkiaghpdjbfeaaGreatDoorPhRefUp
import Derived.Test.YtlkiaghpdjbfeaaGreatDoorPhRefPut2
import Derived.Test.YtlkiaghpdjbfeaaGreatDoorPk1
namespace Go.Proofs.YtlkiaghpdjbfeaaGreatDoor
open Go.RowKit

/-- The answer that says nothing. -/
def zAns : Array Value := #[.int .i64 0, .int .i64 0, .int .i64 0, .int .i64 0, .slice none 0 0, .slice none 0 0]
/-- Six cells. -/
def Six6 (w : World) (b : Nat) (t : TypeId) (v0 v1 v2 v3 v4 v5 : Value) : Prop := w.heap[b]? = some (.cells #[v0, v1, v2, v3, v4, v5] t (0, 0))
theorem Six6.cells {w : World} {b : Nat} {t : TypeId} {v0 v1 v2 v3 v4 v5 : Value} (h : Six6 w b t v0 v1 v2 v3 v4 v5) :
    w.cell? ⟨b, 0, none⟩ = some v0 ∧ w.cell? ⟨b, 1, none⟩ = some v1 ∧ w.cell? ⟨b, 2, none⟩ = some v2 ∧ w.cell? ⟨b, 3, none⟩ = some v3 ∧ w.cell? ⟨b, 4, none⟩ = some v4 ∧ w.cell? ⟨b, 5, none⟩ = some v5 := by
  have h : w.heap[b]? = some (.cells #[v0, v1, v2, v3, v4, v5] t (0, 0)) := h
  refine ⟨?_, ?_, ?_, ?_, ?_, ?_⟩ <;> simp [World.cell?, h]
theorem Six6.free {w : World} {b : Nat} {t : TypeId} {v0 v1 v2 v3 v4 v5 : Value} (h : Six6 w b t v0 v1 v2 v3 v4 v5) (j : Nat) : w.frozen? ⟨b, j, none⟩ = false := by
  have h : w.heap[b]? = some (.cells #[v0, v1, v2, v3, v4, v5] t (0, 0)) := h
  simp [World.frozen?, h]
theorem Six6.lt {w : World} {b : Nat} {t : TypeId} {v0 v1 v2 v3 v4 v5 : Value} (h : Six6 w b t v0 v1 v2 v3 v4 v5) : b < w.heap.size := lt_of_block h
theorem Six6.kept {S : Nat → Prop} {w w' : World} {b : Nat} {t : TypeId} {v0 v1 v2 v3 v4 v5 : Value} (h : Six6 w b t v0 v1 v2 v3 v4 v5) (k : Keep S w w') (hn : ¬ S b) : Six6 w' b t v0 v1 v2 v3 v4 v5 := (k.block b h.lt hn).trans h

/-- Six cells that are stored over. -/
theorem Six6.put {w : World} {g : Nat} {t : TypeId} {u0 u1 u2 u3 u4 u5 : Value} (h : Six6 w g t u0 u1 u2 u3 u4 u5) (v0 v1 v2 v3 v4 v5 : Value) :
    Six6 ((((((w.setCell ⟨g, 0, none⟩ v0).setCell ⟨g, 1, none⟩ v1).setCell ⟨g, 2, none⟩ v2).setCell ⟨g, 3, none⟩ v3).setCell ⟨g, 4, none⟩ v4).setCell ⟨g, 5, none⟩ v5) g t v0 v1 v2 v3 v4 v5 ∧
    Keep (fun k => k = g) w ((((((w.setCell ⟨g, 0, none⟩ v0).setCell ⟨g, 1, none⟩ v1).setCell ⟨g, 2, none⟩ v2).setCell ⟨g, 3, none⟩ v3).setCell ⟨g, 4, none⟩ v4).setCell ⟨g, 5, none⟩ v5) := by
  constructor
  · have h0 := Go.heap_setCell_same w g 0 _ t v0 h
    have h1 := Go.heap_setCell_same _ g 1 _ t v1 h0
    have h2 := Go.heap_setCell_same _ g 2 _ t v2 h1
    have h3 := Go.heap_setCell_same _ g 3 _ t v3 h2
    have h4 := Go.heap_setCell_same _ g 4 _ t v4 h3
    have h5 := Go.heap_setCell_same _ g 5 _ t v5 h4
    exact h5
  · exact ((((((Keep.refl (fun k => k = g) w).setCell (p := ⟨g, 0, none⟩) (.inr rfl) v0).setCell (p := ⟨g, 1, none⟩) (.inr rfl) v1).setCell (p := ⟨g, 2, none⟩) (.inr rfl) v2).setCell (p := ⟨g, 3, none⟩) (.inr rfl) v3).setCell (p := ⟨g, 4, none⟩) (.inr rfl) v4).setCell (p := ⟨g, 5, none⟩) (.inr rfl) v5
/-- What a call of do begins with: the call in block b, the answer in b + 1, nothing in b + 2. -/
structure DoS (b : Nat) (kd off n : Int) (p o d : Value) (W : World) : Prop where
  call : Six6 W b 31 (.int .i64 kd) p o (.int .i64 off) (.int .i64 n) d
  res : Six6 W (b + 1) 36 (.int .i64 0) (.int .i64 0) (.int .i64 0) (.int .i64 0) (.slice none 0 0) (.slice none 0 0)
  non : Six6 W (b + 1 + 1) 36 (.int .i64 0) (.int .i64 0) (.int .i64 0) (.int .i64 0) (.slice none 0 0) (.slice none 0 0)
theorem DoS.kept {S : Nat → Prop} {b : Nat} {kd off n : Int} {p o d : Value} {W W' : World} (h : DoS b kd off n p o d W) (k : Keep S W W') (h0 : ¬ S b) (h1 : ¬ S (b + 1)) (h2 : ¬ S (b + 1 + 1)) : DoS b kd off n p o d W' :=
  ⟨h.call.kept k h0, h.res.kept k h1, h.non.kept k h2⟩
theorem DoS.new (w : World) (kd off n : Int) (p o d : Value) : DoS w.heap.size kd off n p o d (((w.alloc (.cells #[.int .i64 kd, p, o, .int .i64 off, .int .i64 n, d] 31)).alloc (.cells #[.int .i64 0, .int .i64 0, .int .i64 0, .int .i64 0, .slice none 0 0, .slice none 0 0] 36)).alloc (.cells #[.int .i64 0, .int .i64 0, .int .i64 0, .int .i64 0, .slice none 0 0, .slice none 0 0] 36)) := by
  refine ⟨?_, ?_, ?_⟩
  · unfold Six6
    rw [Below.heap_alloc _ _ _ (by simp; omega), Below.heap_alloc _ _ _ (by simp)]
    exact heap_alloc_new w _
  · unfold Six6
    rw [Below.heap_alloc _ _ _ (by simp)]
    have := heap_alloc_new (w.alloc (.cells #[.int .i64 kd, p, o, .int .i64 off, .int .i64 n, d] 31)) (.cells #[.int .i64 0, .int .i64 0, .int .i64 0, .int .i64 0, .slice none 0 0, .slice none 0 0] 36)
    rwa [World.size_alloc] at this
  · unfold Six6
    have := heap_alloc_new ((w.alloc (.cells #[.int .i64 kd, p, o, .int .i64 off, .int .i64 n, d] 31)).alloc (.cells #[.int .i64 0, .int .i64 0, .int .i64 0, .int .i64 0, .slice none 0 0, .slice none 0 0] 36)) (.cells #[.int .i64 0, .int .i64 0, .int .i64 0, .int .i64 0, .slice none 0 0, .slice none 0 0] 36)
    rwa [World.size_alloc, World.size_alloc] at this

set_option maxRecDepth 100000 in
set_option maxHeartbeats 4000000 in
theorem rdo_low (w : World) (g : Nat) (kd off n : Int) (p o d : Value) (hk : kd < 1) :
    Calls Tryz.prog 27 #[.pointer (some ⟨g, 0, none⟩), .agg #[.int .i64 kd, p, o, .int .i64 off, .int .i64 n, d]] w fun e w' => e = .returned (.tuple #[.agg zAns, .int .i64 1]) ∧ KF w w' := by
  obtain ⟨b, hb⟩ : ∃ b, w.heap.size = b := ⟨_, rfl⟩
  obtain ⟨W, hW⟩ : ∃ W, (((w.alloc (.cells #[.int .i64 kd, p, o, .int .i64 off, .int .i64 n, d] 31)).alloc (.cells #[.int .i64 0, .int .i64 0, .int .i64 0, .int .i64 0, .slice none 0 0, .slice none 0 0] 36)).alloc (.cells #[.int .i64 0, .int .i64 0, .int .i64 0, .int .i64 0, .slice none 0 0, .slice none 0 0] 36)) = W := ⟨_, rfl⟩
  have S := DoS.new w kd off n p o d
  rw [hb, hW] at S
  have kW : KF w W := by rw [← hW]; exact (((KF.refl w).alloc _).alloc _).alloc _
  have HW := Lib.hid hW
  have HBB := Lib.hid hb
  have HS := Lib.hid S
  have HK := Lib.hid kW
  clear hb hW S kW
  go_enter Tryz.func27, Tryz.ntmps27
  go_upto_region 2 with fail
  rw [HW.out, HBB.out]
  have FIN := Lib.hid (HS.out.res.put (.int .i64 0) (.int .i64 0) (.int .i64 0) (.int .i64 0) (.slice none 0 0) (.slice none 0 0))
  obtain ⟨q0, q1, q2, q3, q4, q5⟩ := HS.out.call.cells
  obtain ⟨r0, r1, r2, r3, r4, r5⟩ := HS.out.res.cells
  obtain ⟨n0, n1, n2, n3, n4, n5⟩ := HS.out.non.cells
  have f0 := HS.out.res.free 0
  have f1 := HS.out.res.free 1
  have f2 := HS.out.res.free 2
  have f3 := HS.out.res.free 3
  have f4 := HS.out.res.free 4
  have f5 := HS.out.res.free 5
  have hwb : w.heap.size ≤ b + 1 := by have := HBB.out; omega
  clear HW
  go_wp2_with fail
  obtain ⟨e1, e2⟩ := FIN.out
  obtain ⟨d0, d1, d2, d3, d4, d5⟩ := e1.cells
  clear FIN q0 q1 q2 q3 q4 q5 r0 r1 r2 r3 r4 r5 n0 n1 n2 n3 n4 n5 f0 f1 f2 f3 f4 f5
  refine bodyPost_ret (v := .tuple #[.agg zAns, .int .i64 1]) (by simp [results, Tryz.results27, go_sem, d0, d1, d2, d3, d4, d5, zAns]) rfl ?_
  exact ⟨rfl, Keep.trans HK.out e2 (fun i hi h => by omega)⟩
set_option maxRecDepth 100000 in
set_option maxHeartbeats 4000000 in
theorem rdo_high (w : World) (g : Nat) (kd off n : Int) (p o d : Value) (hk : 12 < kd) :
    Calls Tryz.prog 27 #[.pointer (some ⟨g, 0, none⟩), .agg #[.int .i64 kd, p, o, .int .i64 off, .int .i64 n, d]] w fun e w' => e = .returned (.tuple #[.agg zAns, .int .i64 1]) ∧ KF w w' := by
  have hk2 : ¬ kd < 1 := by omega
  obtain ⟨b, hb⟩ : ∃ b, w.heap.size = b := ⟨_, rfl⟩
  obtain ⟨W, hW⟩ : ∃ W, (((w.alloc (.cells #[.int .i64 kd, p, o, .int .i64 off, .int .i64 n, d] 31)).alloc (.cells #[.int .i64 0, .int .i64 0, .int .i64 0, .int .i64 0, .slice none 0 0, .slice none 0 0] 36)).alloc (.cells #[.int .i64 0, .int .i64 0, .int .i64 0, .int .i64 0, .slice none 0 0, .slice none 0 0] 36)) = W := ⟨_, rfl⟩
  have S := DoS.new w kd off n p o d
  rw [hb, hW] at S
  have kW : KF w W := by rw [← hW]; exact (((KF.refl w).alloc _).alloc _).alloc _
  have HW := Lib.hid hW
  have HBB := Lib.hid hb
  have HS := Lib.hid S
  have HK := Lib.hid kW
  clear hb hW S kW
  go_enter Tryz.func27, Tryz.ntmps27
  go_upto_region 2 with fail
  rw [HW.out, HBB.out]
  have FIN := Lib.hid (HS.out.res.put (.int .i64 0) (.int .i64 0) (.int .i64 0) (.int .i64 0) (.slice none 0 0) (.slice none 0 0))
  obtain ⟨q0, q1, q2, q3, q4, q5⟩ := HS.out.call.cells
  obtain ⟨r0, r1, r2, r3, r4, r5⟩ := HS.out.res.cells
  obtain ⟨n0, n1, n2, n3, n4, n5⟩ := HS.out.non.cells
  have f0 := HS.out.res.free 0
  have f1 := HS.out.res.free 1
  have f2 := HS.out.res.free 2
  have f3 := HS.out.res.free 3
  have f4 := HS.out.res.free 4
  have f5 := HS.out.res.free 5
  have hwb : w.heap.size ≤ b + 1 := by have := HBB.out; omega
  clear HW
  go_wp2_with fail
  obtain ⟨e1, e2⟩ := FIN.out
  obtain ⟨d0, d1, d2, d3, d4, d5⟩ := e1.cells
  clear FIN q0 q1 q2 q3 q4 q5 r0 r1 r2 r3 r4 r5 n0 n1 n2 n3 n4 n5 f0 f1 f2 f3 f4 f5
  refine bodyPost_ret (v := .tuple #[.agg zAns, .int .i64 1]) (by simp [results, Tryz.results27, go_sem, d0, d1, d2, d3, d4, d5, zAns]) rfl ?_
  exact ⟨rfl, Keep.trans HK.out e2 (fun i hi h => by omega)⟩
set_option maxRecDepth 100000 in
set_option maxHeartbeats 4000000 in
theorem rdo_sync (w : World) (g : Nat) (kd off n : Int) (p o d : Value) (hk : kd = 12) :
    Calls Tryz.prog 27 #[.pointer (some ⟨g, 0, none⟩), .agg #[.int .i64 kd, p, o, .int .i64 off, .int .i64 n, d]] w fun e w' => e = .returned (.tuple #[.agg zAns, .int .i64 0]) ∧ KF w w' := by
  subst hk
  obtain ⟨b, hb⟩ : ∃ b, w.heap.size = b := ⟨_, rfl⟩
  obtain ⟨W, hW⟩ : ∃ W, (((w.alloc (.cells #[.int .i64 12, p, o, .int .i64 off, .int .i64 n, d] 31)).alloc (.cells #[.int .i64 0, .int .i64 0, .int .i64 0, .int .i64 0, .slice none 0 0, .slice none 0 0] 36)).alloc (.cells #[.int .i64 0, .int .i64 0, .int .i64 0, .int .i64 0, .slice none 0 0, .slice none 0 0] 36)) = W := ⟨_, rfl⟩
  have S := DoS.new w 12 off n p o d
  rw [hb, hW] at S
  have kW : KF w W := by rw [← hW]; exact (((KF.refl w).alloc _).alloc _).alloc _
  have HW := Lib.hid hW
  have HBB := Lib.hid hb
  have HS := Lib.hid S
  have HK := Lib.hid kW
  clear hb hW S kW
  go_enter Tryz.func27, Tryz.ntmps27
  go_upto_region 2 with fail
  rw [HW.out, HBB.out]
  have FIN := Lib.hid (HS.out.res.put (.int .i64 0) (.int .i64 0) (.int .i64 0) (.int .i64 0) (.slice none 0 0) (.slice none 0 0))
  obtain ⟨q0, q1, q2, q3, q4, q5⟩ := HS.out.call.cells
  obtain ⟨r0, r1, r2, r3, r4, r5⟩ := HS.out.res.cells
  obtain ⟨n0, n1, n2, n3, n4, n5⟩ := HS.out.non.cells
  have f0 := HS.out.res.free 0
  have f1 := HS.out.res.free 1
  have f2 := HS.out.res.free 2
  have f3 := HS.out.res.free 3
  have f4 := HS.out.res.free 4
  have f5 := HS.out.res.free 5
  have hwb : w.heap.size ≤ b + 1 := by have := HBB.out; omega
  clear HW
  go_wp2_with fail
  obtain ⟨e1, e2⟩ := FIN.out
  obtain ⟨d0, d1, d2, d3, d4, d5⟩ := e1.cells
  clear FIN q0 q1 q2 q3 q4 q5 r0 r1 r2 r3 r4 r5 n0 n1 n2 n3 n4 n5 f0 f1 f2 f3 f4 f5
  refine bodyPost_ret (v := .tuple #[.agg zAns, .int .i64 0]) (by simp [results, Tryz.results27, go_sem, d0, d1, d2, d3, d4, d5, zAns]) rfl ?_
  exact ⟨rfl, Keep.trans HK.out e2 (fun i hi h => by omega)⟩
end Go.Proofs.YtlkiaghpdjbfeaaGreatDoor
