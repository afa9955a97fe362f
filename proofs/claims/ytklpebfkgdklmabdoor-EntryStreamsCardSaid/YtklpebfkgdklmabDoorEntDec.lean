/-
  WALKS: entry's take, summed.Take of entries, entry.Decode.
-/
import Derived.Test.YtklpebfkgdklmabDoorEntEnc
import Derived.Test.YtklpebfkgdklmabDoorBy
namespace Go.Proofs.YtklpebfkgdklmabDoor
open Go.RowKit Go.Shelf

/-- The reader behind an entry's fields; the entry. -/
noncomputable def eS : Nat → List UInt8 × Bool → List UInt8 × Bool
  | 0, s => s
  | 1, s => tk 1 s
  | 2, s => tk 4 (tk 1 s)
  | 3, s => tk 4 (tk 4 (tk 1 s))
  | 4, s => tk 4 (tk 4 (tk 4 (tk 1 s)))
  | 5, s => tk 1 (tk 4 (tk 4 (tk 4 (tk 1 s))))
  | 6, s => tk 8 (tk 1 (tk 4 (tk 4 (tk 4 (tk 1 s)))))
  | _, s => byS 65506 (tk 8 (tk 1 (tk 4 (tk 4 (tk 4 (tk 1 s))))))
noncomputable def takeE (s : List UInt8 × Bool) : TLog :=
  ⟨(num (tkL 1 s.1 s.2) : Nat), (num (tkL 4 (eS 1 s).1 (eS 1 s).2) : Nat), (num (tkL 4 (eS 2 s).1 (eS 2 s).2) : Nat), (num (tkL 4 (eS 3 s).1 (eS 3 s).2) : Nat), (num (tkL 1 (eS 4 s).1 (eS 4 s).2) : Nat), asInt64 (num (tkL 8 (eS 5 s).1 (eS 5 s).2)), byV 65506 (eS 6 s)⟩
theorem eS_len (s : List UInt8 × Bool) (k : Nat) (hk : k ≤ 6) : (eS k s).1.length ≤ s.1.length := by
  have h1 := tk_len 1 s
  have h2 := tk_len 4 (eS 1 s)
  have h3 := tk_len 4 (eS 2 s)
  have h4 := tk_len 4 (eS 3 s)
  have h5 := tk_len 1 (eS 4 s)
  have h6 := tk_len 8 (eS 5 s)
  match k, hk with
  | 0, _ => exact Nat.le_refl _
  | 1, _ => exact h1
  | 2, _ => exact Nat.le_trans h2 h1
  | 3, _ => exact Nat.le_trans h3 (Nat.le_trans h2 h1)
  | 4, _ => exact Nat.le_trans h4 (Nat.le_trans h3 (Nat.le_trans h2 h1))
  | 5, _ => exact Nat.le_trans h5 (Nat.le_trans h4 (Nat.le_trans h3 (Nat.le_trans h2 h1)))
  | 6, _ => exact Nat.le_trans h6 (Nat.le_trans h5 (Nat.le_trans h4 (Nat.le_trans h3 (Nat.le_trans h2 h1))))
theorem num_tkL (n : Nat) (hn : n ≤ 4) (l : List UInt8) (b : Bool) : num (tkL n l b) < 4294967296 := by
  have hlt := num_lt (tkL n l b)
  have : 256 ^ (tkL n l b).length ≤ 256 ^ 4 := Nat.pow_le_pow_right (by omega) (Nat.le_trans (tkL_le n l b) hn)
  omega
theorem wrap_four {n : Nat} (h : n < 4294967296) : wrap64 (n : Int) = (n : Int) := IntWalk.wrap64_in _ ⟨by omega, by omega⟩
/-- Number, of four bytes. -/
theorem num4_e (g : Nat) (s : List UInt8 × Bool) (w : World) (h : RdE w g s) (hb : s.1.length ≤ 70368744177664) :
    Calls Tryd.prog 40 #[.pointer (some ⟨g, 0, none⟩), .int .i64 4] w (Took w g (.int .u64 (num (tkL 4 s.1 s.2) : Nat)) (tk 4 s)) := by
  have h := number_e g s 4 w h hb
  rw [show sz 4 = 4 by decide] at h
  exact h
abbrev zlog : Array Value := #[.int .i64 0, .int .i64 0, .int .i64 0, .int .i64 0, .int .i64 0, .int .i64 0, .slice none 0 0]
set_option maxRecDepth 100000 in
set_option maxHeartbeats 2000000 in
theorem take_any_log (g : Nat) (s : List UInt8 × Bool) (w : World) (h : RdE w g s) (hb : s.1.length ≤ 70368744177664) :
    Calls Tryd.prog 25 #[.pointer (some ⟨g, 0, none⟩)] w fun e w' => ∃ A c, e = .returned (.agg (ecells (takeE s) A (takeE s).pay.length c)) ∧
      Rd w' w'.heap.size A (takeE s).pay ∧ RdE w' g (eS 7 s) ∧ Keep (fun k => k = g) w w' := by
  have hglt := h.lt
  obtain ⟨w1, hw1⟩ : ∃ w1, w.alloc (.cells zlog 26) = w1 := ⟨_, rfl⟩
  obtain ⟨w2, hw2⟩ : ∃ w2, w1.alloc (.cells zlog 26) = w2 := ⟨_, rfl⟩
  obtain ⟨g0, hg0⟩ : ∃ g0, w.heap.size = g0 := ⟨_, rfl⟩
  obtain ⟨g1, hg1⟩ : ∃ g1, w1.heap.size = g1 := ⟨_, rfl⟩
  have s1 : w1.heap.size = w.heap.size + 1 := by rw [← hw1]; simp
  have k01 : KF w w1 := by rw [← hw1]; exact (KF.refl _).alloc _
  have k12 : KF w1 w2 := by rw [← hw2]; exact (KF.refl _).alloc _
  have k02 := KF.trans k01 k12
  have Q0 : Lg w1 g0 (.int .i64 0) (.int .i64 0) (.int .i64 0) (.int .i64 0) (.int .i64 0) (.int .i64 0) (.slice none 0 0) := ⟨by rw [← hw1, ← hg0]; exact heap_alloc_new w _⟩
  have T2 : TkLg w w2 g g0 g1 s (.int .i64 0) (.int .i64 0) (.int .i64 0) (.int .i64 0) (.int .i64 0) (.int .i64 0) (.slice none 0 0) :=
    ⟨h.kept k02, ⟨by rw [← hw2, ← hg1]; exact heap_alloc_new w1 _⟩, Q0.kept k12 (fun h => h), Keep.mono k02 (fun _ _ h => h.elim), ⟨by omega, by omega, by omega⟩, by simp [NbLg]⟩
  have HW1 := Lib.hid hw1
  have HW2 := Lib.hid hw2
  have HG0 := Lib.hid hg0
  have HG1 := Lib.hid hg1
  have l1 := eS_len s 1 (by omega)
  have l2 := eS_len s 2 (by omega)
  have l3 := eS_len s 3 (by omega)
  have l4 := eS_len s 4 (by omega)
  have l5 := eS_len s 5 (by omega)
  have l6 := eS_len s 6 (by omega)
  clear Q0 k01 k12 hw1 hw2 hg0 hg1 s1 h k02
  have C1 := Lib.hid (byte_e g s w2 T2.rd hb)
  go_enter Tryd.func25, Tryd.ntmps25
  go_upto_region 1 with fail
  rw [HW1.out, HG0.out]
  go_upto_region 2 with fail
  rw [HW2.out, HG1.out]
  clear HW1 HW2 HG0 HG1
  go_wp2_with fail
  refine C1.out.mono ?_
  rintro e w3 ⟨rfl, R3, k3⟩
  have T3 := T2.kept k3 (st' := eS 1 s) R3
  have hx : num (tkL 1 s.1 s.2) < 4294967296 := num_tkL 1 (by omega) _ _
  have HF0 : Hid ((takeE s).kind = ((num (tkL 1 s.1 s.2) : Nat) : Int)) := Lib.hid rfl
  generalize num (tkL 1 s.1 s.2) = nv0 at *
  have T3' := T3.set0 (.int .i64 (nv0 : Int)) (by simp [NbLg])
  clear C1 R3 k3 T2
  obtain ⟨p0, p1, p2, p3, p4, p5, p6⟩ := T3.six.cells
  have pf := T3.six.free 0
  clear T3
  have C2 := Lib.hid (num4_e g (eS 1 s) _ T3'.rd (by omega))
  have z0 : wrap64 (nv0 : Int) = (nv0 : Int) := wrap_four hx
  clear hx
  go_wp2_with fail
  refine C2.out.mono ?_
  rintro e w4 ⟨rfl, R4, k4⟩
  clear p0 p1 p2 p3 p4 p5 p6 pf z0
  have T4 := T3'.kept k4 (st' := eS 2 s) R4
  have hx : num (tkL 4 (eS 1 s).1 (eS 1 s).2) < 4294967296 := num_tkL 4 (by omega) _ _
  have HF1 : Hid ((takeE s).client = ((num (tkL 4 (eS 1 s).1 (eS 1 s).2) : Nat) : Int)) := Lib.hid rfl
  generalize num (tkL 4 (eS 1 s).1 (eS 1 s).2) = nv1 at *
  have T4' := T4.set1 (.int .i64 (nv1 : Int)) (by simp [NbLg])
  clear C2 R4 k4 T3'
  obtain ⟨p0, p1, p2, p3, p4, p5, p6⟩ := T4.six.cells
  have pf := T4.six.free 1
  clear T4
  have C3 := Lib.hid (num4_e g (eS 2 s) _ T4'.rd (by omega))
  have z0 : wrap64 (nv1 : Int) = (nv1 : Int) := wrap_four hx
  clear hx
  go_wp2_with fail
  refine C3.out.mono ?_
  rintro e w5 ⟨rfl, R5, k5⟩
  clear p0 p1 p2 p3 p4 p5 p6 pf z0
  have T5 := T4'.kept k5 (st' := eS 3 s) R5
  have hx : num (tkL 4 (eS 2 s).1 (eS 2 s).2) < 4294967296 := num_tkL 4 (by omega) _ _
  have HF2 : Hid ((takeE s).birth = ((num (tkL 4 (eS 2 s).1 (eS 2 s).2) : Nat) : Int)) := Lib.hid rfl
  generalize num (tkL 4 (eS 2 s).1 (eS 2 s).2) = nv2 at *
  have T5' := T5.set2 (.int .i64 (nv2 : Int)) (by simp [NbLg])
  clear C3 R5 k5 T4'
  obtain ⟨p0, p1, p2, p3, p4, p5, p6⟩ := T5.six.cells
  have pf := T5.six.free 2
  clear T5
  have C4 := Lib.hid (num4_e g (eS 3 s) _ T5'.rd (by omega))
  have z0 : wrap64 (nv2 : Int) = (nv2 : Int) := wrap_four hx
  clear hx
  go_wp2_with fail
  refine C4.out.mono ?_
  rintro e w6 ⟨rfl, R6, k6⟩
  clear p0 p1 p2 p3 p4 p5 p6 pf z0
  have T6 := T5'.kept k6 (st' := eS 4 s) R6
  have hx : num (tkL 4 (eS 3 s).1 (eS 3 s).2) < 4294967296 := num_tkL 4 (by omega) _ _
  have HF3 : Hid ((takeE s).number = ((num (tkL 4 (eS 3 s).1 (eS 3 s).2) : Nat) : Int)) := Lib.hid rfl
  generalize num (tkL 4 (eS 3 s).1 (eS 3 s).2) = nv3 at *
  have T6' := T6.set3 (.int .i64 (nv3 : Int)) (by simp [NbLg])
  clear C4 R6 k6 T5'
  obtain ⟨p0, p1, p2, p3, p4, p5, p6⟩ := T6.six.cells
  have pf := T6.six.free 3
  clear T6
  have C5 := Lib.hid (byte_e g (eS 4 s) _ T6'.rd (by omega))
  have z0 : wrap64 (nv3 : Int) = (nv3 : Int) := wrap_four hx
  clear hx
  go_wp2_with fail
  refine C5.out.mono ?_
  rintro e w7 ⟨rfl, R7, k7⟩
  clear p0 p1 p2 p3 p4 p5 p6 pf z0
  have T7 := T6'.kept k7 (st' := eS 5 s) R7
  have hx : num (tkL 1 (eS 4 s).1 (eS 4 s).2) < 4294967296 := num_tkL 1 (by omega) _ _
  have HF4 : Hid ((takeE s).stream = ((num (tkL 1 (eS 4 s).1 (eS 4 s).2) : Nat) : Int)) := Lib.hid rfl
  generalize num (tkL 1 (eS 4 s).1 (eS 4 s).2) = nv4 at *
  have T7' := T7.set4 (.int .i64 (nv4 : Int)) (by simp [NbLg])
  clear C5 R7 k7 T6'
  obtain ⟨p0, p1, p2, p3, p4, p5, p6⟩ := T7.six.cells
  have pf := T7.six.free 4
  clear T7
  have C6 := Lib.hid (int_e g (eS 5 s) _ T7'.rd (by omega))
  have z0 : wrap64 (nv4 : Int) = (nv4 : Int) := wrap_four hx
  clear hx
  go_wp2_with fail
  refine C6.out.mono ?_
  rintro e w8 ⟨rfl, R8, k8⟩
  clear p0 p1 p2 p3 p4 p5 p6 pf z0
  have T8 := T7'.kept k8 (st' := eS 6 s) R8
  have HF5 : Hid ((takeE s).back = asInt64 (num (tkL 8 (eS 5 s).1 (eS 5 s).2))) := Lib.hid rfl
  generalize asInt64 (num (tkL 8 (eS 5 s).1 (eS 5 s).2)) = nv5 at *
  have T8' := T8.set5 (.int .i64 nv5) (by simp [NbLg])
  clear C6 R8 k8 T7'
  obtain ⟨p0, p1, p2, p3, p4, p5, p6⟩ := T8.six.cells
  have pf := T8.six.free 5
  clear T8
  have C7 := Lib.hid (by_e g (eS 6 s) 65506 _ T8'.rd (by omega))
  go_wp2_with fail
  refine C7.out.mono ?_
  rintro e w9 ⟨A8, c8, rfl, r8, _, R9, k9⟩
  clear p0 p1 p2 p3 p4 p5 p6 pf
  have T9 := T8'.kept k9 (st' := eS 7 s) R9
  have HF6 : Hid ((takeE s).pay = byV 65506 (eS 6 s)) := Lib.hid rfl
  generalize byV 65506 (eS 6 s) = dv at *
  have T9' := T9.set6 (.slice A8 dv.length c8) (by simp [NbLg])
  have r9 : Rd (w9.setCell ⟨g1, 6, none⟩ (.slice A8 dv.length c8)) w9.heap.size A8 dv := by
    obtain ⟨n0, n1, n2, n3, n4, n5, n6⟩ := T9.no
    exact r8.store T9.six.block (NbLg.all n0 n1 n2 n3 n4 n5 n6) 6 _
  clear C7 R9 k9 T8' r8
  obtain ⟨p0, p1, p2, p3, p4, p5, p6⟩ := T9.six.cells
  have pf := T9.six.free 6
  obtain ⟨w10, hw10⟩ : ∃ w10, w9.setCell ⟨g1, 6, none⟩ (.slice A8 dv.length c8) = w10 := ⟨_, rfl⟩
  have hz10 : w10.heap.size = w9.heap.size := by rw [← hw10]; simp [World.setCell]
  rw [hw10] at T9' r9
  have HW10 := Lib.hid hw10
  clear hw10
  go_upto_region 9 with fail
  rw [HW10.out]
  obtain ⟨q0, q1, q2, q3, q4, q5, q6⟩ := T9'.six.cells
  obtain ⟨u0, u1, u2, u3, u4, u5, u6⟩ := T9'.res.cells
  have f0 := T9'.res.free 0
  have f1 := T9'.res.free 1
  have f2 := T9'.res.free 2
  have f3 := T9'.res.free 3
  have f4 := T9'.res.free 4
  have f5 := T9'.res.free 5
  have f6 := T9'.res.free 6
  have hne : g0 ≠ g1 := by have := T9'.lt; omega
  have FIN := Lib.hid (Lg_outs T9')
  clear T9 T9' p0 p1 p2 p3 p4 p5 p6 pf HW10
  go_wp2_with fail
  obtain ⟨e1, e2, e3, e4, e5⟩ := FIN.out
  obtain ⟨cc0, cc1, cc2, cc3, cc4, cc5, cc6⟩ := e2.cells
  have hr := e4 _ _ _ r9
  have hsz := Nat.le_of_eq (hz10.symm.trans e5.symm)
  clear FIN r9 e4 e2
  refine bodyPost_ret (v := .agg #[.int .i64 (nv0 : Int), .int .i64 (nv1 : Int), .int .i64 (nv2 : Int), .int .i64 (nv3 : Int), .int .i64 (nv4 : Int), .int .i64 nv5, .slice A8 dv.length c8]) (by simp [results, Tryd.results25, go_sem, cc0, cc1, cc2, cc3, cc4, cc5, cc6]) rfl ?_
  exact ⟨A8, c8, by unfold ecells; rw [HF0.out, HF1.out, HF2.out, HF3.out, HF4.out, HF5.out, HF6.out], by rw [HF6.out]; exact hr.more hsz, e1, e3⟩
end Go.Proofs.YtklpebfkgdklmabDoor
