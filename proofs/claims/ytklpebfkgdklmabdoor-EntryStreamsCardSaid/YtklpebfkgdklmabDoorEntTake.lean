/-
  WALKS: summed.Take of entries; entry.Decode.
-/
import Derived.Test.YtklpebfkgdklmabDoorEntDec
namespace Go.Proofs.YtklpebfkgdklmabDoor
open Go.RowKit Go.Shelf

/-- What is taken of bytes, if they are whole. -/
noncomputable def takenE (l : List UInt8) : Option TLog :=
  if l.length < 4 ∨ num (l.drop (l.length - 4)) ≠ crc (l.take (l.length - 4)) then none else if endOf (eS 7 (l.take (l.length - 4), false)) = 0 then some (takeE (l.take (l.length - 4), false)) else none
def DecsE (l : List UInt8) (w : World) (e : Ending) (w' : World) : Prop :=
  KF w w' ∧ ((∃ x A c, takenE l = some x ∧ e = .returned (.tuple #[.agg (ecells x A x.pay.length c), .int .i64 0]) ∧ Rd w' w'.heap.size A x.pay) ∨
    (takenE l = none ∧ e = .returned (.tuple #[.agg zlog, .int .i64 3])))
set_option maxRecDepth 100000 in
set_option maxHeartbeats 2000000 in
theorem etake_any (A : Option Addr) (l : List UInt8) (n c : Nat) (w : World) (hn : n = l.length) (hc : n ≤ c) (hm : c ≤ maxLen) (hb : l.length ≤ 1000000000) (ht : Tab w) (hr : Rd w w.heap.size A l) :
    Calls Tryd.prog 24 #[.slice A n c, .func (.func 25) #[] #[]] w (DecsE l w) := by
  obtain ⟨w1, hw1⟩ : ∃ w1, w.alloc (.cells zlog 26) = w1 := ⟨_, rfl⟩
  obtain ⟨w2, hw2⟩ : ∃ w2, w1.alloc (.cells zlog 26) = w2 := ⟨_, rfl⟩
  obtain ⟨g0, hg0⟩ : ∃ g0, w.heap.size = g0 := ⟨_, rfl⟩
  obtain ⟨g1, hg1⟩ : ∃ g1, w1.heap.size = g1 := ⟨_, rfl⟩
  have s1 : w1.heap.size = w.heap.size + 1 := by rw [← hw1]; simp
  have s2 : w2.heap.size = w1.heap.size + 1 := by rw [← hw2]; simp
  have k01 : KF w w1 := by rw [← hw1]; exact (KF.refl _).alloc _
  have k12 : KF w1 w2 := by rw [← hw2]; exact (KF.refl _).alloc _
  have k02 := KF.trans k01 k12
  have Q0 : Lg w1 g0 (.int .i64 0) (.int .i64 0) (.int .i64 0) (.int .i64 0) (.int .i64 0) (.int .i64 0) (.slice none 0 0) := ⟨by rw [← hw1, ← hg0]; exact heap_alloc_new w _⟩
  have P0 := Q0.kept k12 (fun h => h)
  have P1 : Lg w2 g1 (.int .i64 0) (.int .i64 0) (.int .i64 0) (.int .i64 0) (.int .i64 0) (.int .i64 0) (.slice none 0 0) := ⟨by rw [← hw2, ← hg1]; exact heap_alloc_new w1 _⟩
  have CU := Lib.hid (unwrap_dec A l n c w2 hn hc hm hb (ht.kept k02 (fun h => h)) ((hr.keepF k02 (Nat.le_refl _)).more k02.size))
  have HW1 := Lib.hid hw1
  have HW2 := Lib.hid hw2
  have HG0 := Lib.hid hg0
  have HG1 := Lib.hid hg1
  have hlt1 : g0 < g1 := by omega
  have hg1l : g1 < w2.heap.size := by omega
  have hwg : w.heap.size ≤ g0 := by omega
  clear Q0 k01 k12 hw1 hw2 hg0 hg1 s1 s2 hn
  go_enter Tryd.func24, Tryd.ntmps24
  go_upto_region 1 with fail
  rw [HW1.out, HG0.out]
  go_upto_region 2 with fail
  rw [HW2.out, HG1.out]
  clear HW1 HW2 HG0 HG1
  go_wp2_with fail
  refine CU.out.mono ?_
  rintro e w3 ⟨k3, ⟨hbad, rfl⟩ | ⟨hgood, A3, c3, rfl, o3, n3⟩⟩
  · have HD : Hid (takenE l = none) := Lib.hid (by unfold takenE; rw [if_pos hbad])
    have P03 := P0.kept k3 (fun h => h)
    have P13 := P1.kept k3 (fun h => h)
    obtain ⟨q0, q1, q2, q3, q4, q5, q6⟩ := P13.cells
    obtain ⟨u0, u1, u2, u3, u4, u5, u6⟩ := P03.cells
    have f0 := P03.free 0
    have f1 := P03.free 1
    have f2 := P03.free 2
    have f3 := P03.free 3
    have f4 := P03.free 4
    have f5 := P03.free 5
    have f6 := P03.free 6
    have hne : g0 ≠ g1 := by omega
    have FIN := Lib.hid (Lg_put (v0 := .int .i64 0) (v1 := .int .i64 0) (v2 := .int .i64 0) (v3 := .int .i64 0) (v4 := .int .i64 0) (v5 := .int .i64 0) (v6 := .slice none 0 0) P03 (by simp [NbLg]) (by simp [NbLg]) (by simp [NbLg]) (by simp [NbLg]) (by simp [NbLg]) (by simp [NbLg]) (by simp [NbLg]) (by simp [NbLg]) (by simp [NbLg]) (by simp [NbLg]) (by simp [NbLg]) (by simp [NbLg]) (by simp [NbLg]))
    have kw3 := KF.trans k02 k3
    clear P03 P13 P0 P1 CU hbad
    go_wp2_with fail
    obtain ⟨e1, e2, _, _⟩ := FIN.out
    obtain ⟨d0, d1, d2, d3, d4, d5, d6⟩ := e1.cells
    clear FIN
    refine bodyPost_ret (v := .tuple #[.agg zlog, .int .i64 3]) (by simp [results, Tryd.results24, go_sem, d0, d1, d2, d3, d4, d5, d6]) rfl ?_
    exact ⟨Keep.trans kw3 e2 (fun i hi (h : i = g0) => by omega), .inr ⟨HD.out, rfl⟩⟩
  · have HD : Hid (takenE l = if endOf (eS 7 (l.take (l.length - 4), false)) = 0 then some (takeE (l.take (l.length - 4), false)) else none) := Lib.hid (by unfold takenE; rw [if_neg hgood])
    have hk4 : (l.take (l.length - 4)).length = l.length - 4 := by rw [List.length_take]; omega
    have hkb : (l.take (l.length - 4)).length ≤ 1000000000 := by omega
    clear hgood CU ht hr n3
    generalize l.take (l.length - 4) = m at *
    generalize l.length - 4 = mk at *
    have HMK := Lib.hid hk4
    clear hk4
    have CR := Lib.hid (read_any A3 m mk c3 w3 HMK.out.symm (by omega) w3.heap.size o3.rd (Nat.le_refl _))
    have P03 := P0.kept k3 (fun h => h)
    have P13 := P1.kept k3 (fun h => h)
    have kw3 := KF.trans k02 k3
    have hw3g : g1 < w3.heap.size := Nat.lt_of_lt_of_le hg1l k3.size
    clear P0 P1 k02
    go_wp2_with fail
    refine CR.out.mono ?_
    rintro e w4 ⟨g, A4, c4, rfl, r4, hg, k4⟩
    have R4 : RdE w4 g (m, false) := ⟨A4, c4, r4⟩
    have CT := Lib.hid (take_any_log g (m, false) w4 R4 (by show m.length ≤ _; omega))
    have P04 := P03.kept k4 (fun h => h)
    have P14 := P13.kept k4 (fun h => h)
    have kw4 := KF.trans kw3 k4
    clear P03 P13 CR r4 o3
    go_wp2_with fail
    refine CT.out.mono ?_
    rintro e w5 ⟨A5, c5, rfl, r5, R5, k5⟩
    have P05 := P04.kept k5 (fun h : g0 = g => by omega)
    have P15 := P14.kept k5 (fun h : g1 = g => by omega)
    have kw5 : KF w w5 := Keep.trans kw4 k5 (fun i hi (h : i = g) => by have := kw3.size; omega)
    clear P04 P14 CT R4
    generalize takeE (m, false) = x at *
    generalize eS 7 (m, false) = st at *
    generalize hdl : x.pay.length = dl at *
    have HDL := Lib.hid hdl
    clear hdl
    obtain ⟨w6, hw6⟩ : ∃ w6, w5.alloc (.cells (ecells x A5 dl c5) 26) = w6 := ⟨_, rfl⟩
    obtain ⟨g2, hg2⟩ : ∃ g2, w5.heap.size = g2 := ⟨_, rfl⟩
    have k56 : KF w5 w6 := by rw [← hw6]; exact (KF.refl _).alloc _
    have P26 : Lg w6 g2 (.int .i64 x.kind) (.int .i64 x.client) (.int .i64 x.birth) (.int .i64 x.number) (.int .i64 x.stream) (.int .i64 x.back) (.slice A5 dl c5) := ⟨by rw [← hw6, ← hg2]; exact heap_alloc_new w5 _⟩
    have P06 := P05.kept k56 (fun h => h)
    have P16 := P15.kept k56 (fun h => h)
    have r6 : Rd w6 w5.heap.size A5 x.pay := r5.keepF k56 (Nat.le_refl _)
    have kw6 := KF.trans kw5 k56
    have CE := Lib.hid (end_e g st w6 (R5.kept k56))
    have hg2l : g1 < g2 := by have := k4.size; have := k5.size; omega
    have hs6 := k56.size
    have HW6 := Lib.hid hw6
    have HG2 := Lib.hid hg2
    clear hw6 hg2 P05 P15 r5 R5
    go_upto_region 7 with fail
    rw [HW6.out, HG2.out]
    go_wp2_with fail
    refine CE.out.mono ?_
    rintro e w7 ⟨rfl, rfl⟩
    obtain ⟨u0, u1, u2, u3, u4, u5, u6⟩ := P06.cells
    have f0 := P06.free 0
    have f1 := P06.free 1
    have f2 := P06.free 2
    have f3 := P06.free 3
    have f4 := P06.free 4
    have f5 := P06.free 5
    have f6 := P06.free 6
    by_cases hend : endOf st = 0
    · have z1 : (endOf st != 0) = false := by rw [hend]; rfl
      have HD2 : Hid (takenE l = some x) := Lib.hid (by rw [HD.out, if_pos hend])
      obtain ⟨q0, q1, q2, q3, q4, q5, q6⟩ := P26.cells
      have hne : g0 ≠ g2 := by omega
      have FIN := Lib.hid (Lg_put (v0 := .int .i64 x.kind) (v1 := .int .i64 x.client) (v2 := .int .i64 x.birth) (v3 := .int .i64 x.number) (v4 := .int .i64 x.stream) (v5 := .int .i64 x.back) (v6 := .slice A5 dl c5) P06 (by simp [NbLg]) (by simp [NbLg]) (by simp [NbLg]) (by simp [NbLg]) (by simp [NbLg]) (by simp [NbLg]) (by simp [NbLg]) (by simp [NbLg]) (by simp [NbLg]) (by simp [NbLg]) (by simp [NbLg]) (by simp [NbLg]) (by simp [NbLg]))
      clear P06 P16 P26 CE HD hend
      go_wp2_with fail
      obtain ⟨e1, e2, e3, e4⟩ := FIN.out
      obtain ⟨d0, d1, d2, d3, d4, d5, d6⟩ := e1.cells
      have hr6 := e3 _ _ _ r6
      have hs7 : w5.heap.size ≤ _ := Nat.le_trans hs6 (Nat.le_of_eq e4.symm)
      clear FIN e1 e3
      refine bodyPost_ret (v := .tuple #[.agg (ecells x A5 dl c5), .int .i64 0]) (by simp [results, Tryd.results24, go_sem, d0, d1, d2, d3, d4, d5, d6]) rfl ?_
      exact ⟨Keep.trans kw6 e2 (fun i hi (h : i = g0) => by omega), .inl ⟨x, A5, c5, HD2.out, by rw [HDL.out], hr6.more hs7⟩⟩
    · have z1 : (endOf st != 0) = true := bne_iff_ne.2 hend
      have h3 : endOf st = 3 := by unfold endOf at hend ⊢; split at hend <;> simp_all
      have HD2 : Hid (takenE l = none) := Lib.hid (by rw [HD.out, if_neg hend])
      obtain ⟨q0, q1, q2, q3, q4, q5, q6⟩ := P16.cells
      have hne : g0 ≠ g1 := by omega
      have FIN := Lib.hid (Lg_put (v0 := .int .i64 0) (v1 := .int .i64 0) (v2 := .int .i64 0) (v3 := .int .i64 0) (v4 := .int .i64 0) (v5 := .int .i64 0) (v6 := .slice none 0 0) P06 (by simp [NbLg]) (by simp [NbLg]) (by simp [NbLg]) (by simp [NbLg]) (by simp [NbLg]) (by simp [NbLg]) (by simp [NbLg]) (by simp [NbLg]) (by simp [NbLg]) (by simp [NbLg]) (by simp [NbLg]) (by simp [NbLg]) (by simp [NbLg]))
      clear P06 P16 P26 CE HD hend z1
      rw [h3]
      clear h3
      go_wp2_with fail
      obtain ⟨e1, e2, _, _⟩ := FIN.out
      obtain ⟨d0, d1, d2, d3, d4, d5, d6⟩ := e1.cells
      clear FIN
      refine bodyPost_ret (v := .tuple #[.agg zlog, .int .i64 3]) (by simp [results, Tryd.results24, go_sem, d0, d1, d2, d3, d4, d5, d6]) rfl ?_
      exact ⟨Keep.trans kw6 e2 (fun i hi (h : i = g0) => by omega), .inr ⟨HD2.out, rfl⟩⟩

/-- The entry of bytes, if there is one. -/
noncomputable def decE (l : List UInt8) : Option TLog := (takenE l).filter rightB
def DecsR (l : List UInt8) (w : World) (e : Ending) (w' : World) : Prop :=
  KF w w' ∧ ((∃ x A c, decE l = some x ∧ e = .returned (.tuple #[.agg (ecells x A x.pay.length c), .int .i64 0]) ∧ Rd w' w'.heap.size A x.pay) ∨
    (decE l = none ∧ e = .returned (.tuple #[.agg zlog, .int .i64 3])))
set_option maxRecDepth 100000 in
set_option maxHeartbeats 1000000 in
theorem edecode_any (A : Option Addr) (l : List UInt8) (n c : Nat) (w : World) (hn : n = l.length) (hc : n ≤ c) (hm : c ≤ maxLen) (hb : l.length ≤ 1000000000) (ht : Tab w) (hr : Rd w w.heap.size A l) :
    Calls Tryd.prog 10 #[.slice A n c] w (DecsR l w) := by
  obtain ⟨w1, hw1⟩ : ∃ w1, w.alloc (.cells zlog 26) = w1 := ⟨_, rfl⟩
  obtain ⟨g0, hg0⟩ : ∃ g0, w.heap.size = g0 := ⟨_, rfl⟩
  have k01 : KF w w1 := by rw [← hw1]; exact (KF.refl _).alloc _
  have P0 : Lg w1 g0 (.int .i64 0) (.int .i64 0) (.int .i64 0) (.int .i64 0) (.int .i64 0) (.int .i64 0) (.slice none 0 0) := ⟨by rw [← hw1, ← hg0]; exact heap_alloc_new w _⟩
  have CU := Lib.hid (etake_any A l n c w1 hn hc hm hb (ht.kept k01 (fun h => h)) ((hr.keepF k01 (Nat.le_refl _)).more k01.size))
  have HW1 := Lib.hid hw1
  have HG0 := Lib.hid hg0
  have hwg : w.heap.size ≤ g0 := by omega
  have hg0l : g0 < w1.heap.size := by rw [← hw1, ← hg0]; simp
  clear hw1 hg0 hn
  go_enter Tryd.func10, Tryd.ntmps10
  go_upto_region 1 with fail
  rw [HW1.out, HG0.out]
  clear HW1 HG0
  go_wp2_with fail
  refine CU.out.mono ?_
  rintro e w3 ⟨k3, ⟨x, A3, c3, hx, rfl, r3⟩ | ⟨hx, rfl⟩⟩
  · have HX : Hid (decE l = (some x).filter rightB) := Lib.hid (by unfold decE; rw [hx])
    generalize hdl : x.pay.length = dl at *
    have HDL := Lib.hid hdl
    obtain ⟨w4, hw4⟩ : ∃ w4, w3.alloc (.cells (ecells x A3 dl c3) 26) = w4 := ⟨_, rfl⟩
    obtain ⟨g1, hg1⟩ : ∃ g1, w3.heap.size = g1 := ⟨_, rfl⟩
    have k34 : KF w3 w4 := by rw [← hw4]; exact (KF.refl _).alloc _
    have P14 : Lg w4 g1 (.int .i64 x.kind) (.int .i64 x.client) (.int .i64 x.birth) (.int .i64 x.number) (.int .i64 x.stream) (.int .i64 x.back) (.slice A3 dl c3) := ⟨by rw [← hw4, ← hg1]; exact heap_alloc_new w3 _⟩
    have P04 := (P0.kept k3 (fun h => h)).kept k34 (fun h => h)
    have r4 : Rd w4 w3.heap.size A3 x.pay := r3.keepF k34 (Nat.le_refl _)
    have kw4 := KF.trans (KF.trans k01 k3) k34
    have CR := Lib.hid (right_any x A3 dl c3 w4 hdl.symm)
    have hne : g0 ≠ g1 := by have := k3.size; omega
    obtain ⟨q0, q1, q2, q3, q4, q5, q6⟩ := P14.cells
    have HW4 := Lib.hid hw4
    have HG1 := Lib.hid hg1
    have hs4 := k34.size
    clear hw4 hg1 P0 r3 hx CU hdl k3 k34 k01
    go_upto_region 2 with fail
    rw [HW4.out, HG1.out]
    go_wp2_with fail
    refine CR.out.mono ?_
    rintro e w5 ⟨rfl, k5⟩
    clear q0 q1 q2 q3 q4 q5 q6 CR
    have P15 := P14.kept k5 (fun h => h)
    have P05 := P04.kept k5 (fun h => h)
    have r5 : Rd w5 w3.heap.size A3 x.pay := r4.keepF k5 hs4
    have kw5 := KF.trans kw4 k5
    have hs5 := Nat.le_trans hs4 k5.size
    obtain ⟨q0, q1, q2, q3, q4, q5, q6⟩ := P15.cells
    obtain ⟨u0, u1, u2, u3, u4, u5, u6⟩ := P05.cells
    have f0 := P05.free 0
    have f1 := P05.free 1
    have f2 := P05.free 2
    have f3 := P05.free 3
    have f4 := P05.free 4
    have f5 := P05.free 5
    have f6 := P05.free 6
    have HF : Hid (decE l = if rightB x = true then some x else none) := Lib.hid (by rw [HX.out]; simp [Option.filter])
    clear HX
    generalize rightB x = rb at *
    rcases rb with _ | _
    · have HD : Hid (decE l = none) := Lib.hid (by rw [HF.out]; simp)
      have FIN := Lib.hid (Lg_put (v0 := .int .i64 0) (v1 := .int .i64 0) (v2 := .int .i64 0) (v3 := .int .i64 0) (v4 := .int .i64 0) (v5 := .int .i64 0) (v6 := .slice none 0 0) P05 (by simp [NbLg]) (by simp [NbLg]) (by simp [NbLg]) (by simp [NbLg]) (by simp [NbLg]) (by simp [NbLg]) (by simp [NbLg]) (by simp [NbLg]) (by simp [NbLg]) (by simp [NbLg]) (by simp [NbLg]) (by simp [NbLg]) (by simp [NbLg]))
      clear P14 P04 P15 P05 r4 HF
      go_wp2_with fail
      obtain ⟨e1, e2, _, _⟩ := FIN.out
      obtain ⟨d0, d1, d2, d3, d4, d5, d6⟩ := e1.cells
      clear FIN
      refine bodyPost_ret (v := .tuple #[.agg zlog, .int .i64 3]) (by simp [results, Tryd.results10, go_sem, d0, d1, d2, d3, d4, d5, d6]) rfl ?_
      exact ⟨Keep.trans kw5 e2 (fun i hi (h : i = g0) => by omega), .inr ⟨HD.out, rfl⟩⟩
    · have HD : Hid (decE l = some x) := Lib.hid (by rw [HF.out]; simp)
      have FIN := Lib.hid (Lg_put (v0 := .int .i64 x.kind) (v1 := .int .i64 x.client) (v2 := .int .i64 x.birth) (v3 := .int .i64 x.number) (v4 := .int .i64 x.stream) (v5 := .int .i64 x.back) (v6 := .slice A3 dl c3) P05 (by simp [NbLg]) (by simp [NbLg]) (by simp [NbLg]) (by simp [NbLg]) (by simp [NbLg]) (by simp [NbLg]) (by simp [NbLg]) (by simp [NbLg]) (by simp [NbLg]) (by simp [NbLg]) (by simp [NbLg]) (by simp [NbLg]) (by simp [NbLg]))
      clear P14 P04 P15 P05 r4 HF
      go_wp2_with fail
      obtain ⟨e1, e2, e3, e4⟩ := FIN.out
      obtain ⟨d0, d1, d2, d3, d4, d5, d6⟩ := e1.cells
      have hr6 := e3 _ _ _ r5
      have hs7 : w3.heap.size ≤ _ := Nat.le_trans hs5 (Nat.le_of_eq e4.symm)
      clear FIN e1 e3
      refine bodyPost_ret (v := .tuple #[.agg (ecells x A3 dl c3), .int .i64 0]) (by simp [results, Tryd.results10, go_sem, d0, d1, d2, d3, d4, d5, d6]) rfl ?_
      exact ⟨Keep.trans kw5 e2 (fun i hi (h : i = g0) => by omega), .inl ⟨x, A3, c3, HD.out, by rw [HDL.out], hr6.more hs7⟩⟩
  · have HX : Hid (decE l = none) := Lib.hid (by unfold decE; rw [hx]; rfl)
    obtain ⟨w4, hw4⟩ : ∃ w4, w3.alloc (.cells zlog 26) = w4 := ⟨_, rfl⟩
    have k34 : KF w3 w4 := by rw [← hw4]; exact (KF.refl _).alloc _
    have P04 := (P0.kept k3 (fun h => h)).kept k34 (fun h => h)
    have kw4 := KF.trans (KF.trans k01 k3) k34
    have HW4 := Lib.hid hw4
    obtain ⟨u0, u1, u2, u3, u4, u5, u6⟩ := P04.cells
    have f0 := P04.free 0
    have f1 := P04.free 1
    have f2 := P04.free 2
    have f3 := P04.free 3
    have f4 := P04.free 4
    have f5 := P04.free 5
    have f6 := P04.free 6
    have FIN := Lib.hid (Lg_put (v0 := .int .i64 0) (v1 := .int .i64 0) (v2 := .int .i64 0) (v3 := .int .i64 0) (v4 := .int .i64 0) (v5 := .int .i64 0) (v6 := .slice none 0 0) P04 (by simp [NbLg]) (by simp [NbLg]) (by simp [NbLg]) (by simp [NbLg]) (by simp [NbLg]) (by simp [NbLg]) (by simp [NbLg]) (by simp [NbLg]) (by simp [NbLg]) (by simp [NbLg]) (by simp [NbLg]) (by simp [NbLg]) (by simp [NbLg]))
    clear hw4 P0 hx CU k3 k34 k01 P04
    go_upto_region 2 with fail
    rw [HW4.out]
    go_wp2_with fail
    obtain ⟨e1, e2, _, _⟩ := FIN.out
    obtain ⟨d0, d1, d2, d3, d4, d5, d6⟩ := e1.cells
    clear FIN
    refine bodyPost_ret (v := .tuple #[.agg zlog, .int .i64 3]) (by simp [results, Tryd.results10, go_sem, d0, d1, d2, d3, d4, d5, d6]) rfl ?_
    exact ⟨Keep.trans kw4 e2 (fun i hi (h : i = g0) => by omega), .inr ⟨HX.out, rfl⟩⟩
end Go.Proofs.YtklpebfkgdklmabDoor
