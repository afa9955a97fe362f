/-
  WALKS: the reference's Decode of calls.
-/
import Derived.Test.YtklpebfkgdklmaaDoorRefT
namespace Go.Proofs.YtklpebfkgdklmaaDoor
open Go.RowKit

set_option maxRecDepth 100000 in
set_option maxHeartbeats 2000000 in
theorem rdecode_any (A : Option Addr) (l : List UInt8) (n c : Nat) (w : World) (hn : n = l.length) (hc : n ≤ c) (hb : l.length ≤ 1000000000) (hr : Rd w w.heap.size A l) :
    Calls Tryd.prog 20 #[.slice A n c] w (Decs l w) := by
  obtain ⟨w1, hw1⟩ : ∃ w1, w.alloc (.cells zcall 24) = w1 := ⟨_, rfl⟩
  obtain ⟨g0, hg0⟩ : ∃ g0, w.heap.size = g0 := ⟨_, rfl⟩
  have s1 : w1.heap.size = w.heap.size + 1 := by rw [← hw1]; simp
  have k01 : KF w w1 := by rw [← hw1]; exact (KF.refl _).alloc _
  have P0 : Six w1 g0 (.int .i64 0) (.string ⟨#[]⟩) (.string ⟨#[]⟩) (.int .i64 0) (.int .i64 0) (.slice none 0 0) := ⟨by rw [← hw1, ← hg0]; exact heap_alloc_new w _⟩
  have CU := Lib.hid (runwrap_dec A l n c w1 hn hc hb ((hr.keepF k01 (Nat.le_refl _)).more k01.size))
  have HW1 := Lib.hid hw1
  have HG0 := Lib.hid hg0
  have hg0l : g0 < w1.heap.size := by omega
  have hwg : w.heap.size ≤ g0 := by omega
  clear hw1 hg0 s1 hn
  go_enter Tryd.func20, Tryd.ntmps20
  go_upto_region 1 with fail
  rw [HW1.out, HG0.out]
  clear HW1 HG0
  go_wp2_with fail
  refine CU.out.mono ?_
  rintro e w3 ⟨k3, ⟨hbad, rfl⟩ | ⟨hgood, A3, c3, rfl, o3⟩⟩
  · have HD : Hid (decC l = none) := Lib.hid (by unfold decC; rw [if_pos hbad])
    have P03 := P0.kept k3 (fun h => h)
    obtain ⟨u0, u1, u2, u3, u4, u5⟩ := P03.cells
    have f0 := P03.free 0
    have f1 := P03.free 1
    have f2 := P03.free 2
    have f3 := P03.free 3
    have f4 := P03.free 4
    have f5 := P03.free 5
    have FIN := Lib.hid (six_put (v0 := .int .i64 0) (v1 := .string ⟨#[]⟩) (v2 := .string ⟨#[]⟩) (v3 := .int .i64 0) (v4 := .int .i64 0) (v5 := .slice none 0 0) P03 (by simp [NoB]) (by simp [NoB]) (by simp [NoB]) (by simp [NoB]) (by simp [NoB]) (by simp [NoB]) (by simp [NoB]) (by simp [NoB]) (by simp [NoB]) (by simp [NoB]) (by simp [NoB]))
    have kw3 := KF.trans k01 k3
    clear P03 P0 CU hbad
    go_wp2_with fail
    obtain ⟨e1, e2, _, _⟩ := FIN.out
    obtain ⟨c0, c1, c2, c3, c4, c5⟩ := e1.cells
    clear FIN
    refine bodyPost_ret (v := .tuple #[.agg zcall, .int .i64 3]) (by simp [results, Tryd.results20, go_sem, c0, c1, c2, c3, c4, c5]) rfl ?_
    exact ⟨Keep.trans kw3 e2 (fun i hi (h : i = g0) => by omega), .inr ⟨HD.out, rfl⟩⟩
  · have HD : Hid (decC l = if endOf (takeS 6 (l.take (l.length - 4), false)) = 0 then some (takeC (l.take (l.length - 4), false)) else none) := Lib.hid (by unfold decC; rw [if_neg hgood])
    have hk4 : (l.take (l.length - 4)).length = l.length - 4 := by rw [List.length_take]; omega
    have hkb : (l.take (l.length - 4)).length ≤ 1000000000 := by omega
    clear hgood CU hr
    generalize l.take (l.length - 4) = m at *
    generalize l.length - 4 = mk at *
    obtain ⟨w4, hw4⟩ : ∃ w4, w3.alloc (.cells #[.slice A3 mk c3, .int .i64 0, .bool false] 82) = w4 := ⟨_, rfl⟩
    obtain ⟨g, hg⟩ : ∃ g, w3.heap.size = g := ⟨_, rfl⟩
    have R4 : RfE w4 g (m, false) := by rw [← hw4, ← hg]; exact RfE.new o3 hk4.symm hkb
    have k34 : KF w3 w4 := by rw [← hw4]; exact (KF.refl _).alloc _
    have P04 := (P0.kept k3 (fun h => h)).kept k34 (fun h => h)
    have kw4 := KF.trans (KF.trans k01 k3) k34
    have hg0g : g0 < g := by have := k3.size; omega
    have C1 := Lib.hid (rnumber_any g (m, false) 1 w4 R4 (by omega))
    rw [show ((1 : Nat) : Int) = 1 from rfl] at C1
    have HW4 := Lib.hid hw4
    have HG := Lib.hid hg
    have hx : num (tkL 1 m false) < 256 := by
      have hlt := num_lt (tkL 1 m false)
      have : 256 ^ (tkL 1 m false).length ≤ 256 ^ 1 := Nat.pow_le_pow_right (by omega) (tkL_le 1 m false)
      omega
    clear hw4 hg hk4 hkb P0 o3 k01 k34
    go_upto_region 5 with fail
    rw [HW4.out, HG.out]
    clear HW4 HG
    go_wp2_with fail
    refine C1.out.mono ?_
    rintro e w5 ⟨rfl, R5, k5⟩
    have P05 := P04.kept k5 (fun h : g0 = g => by omega)
    have kw5 : KF w w5 := Keep.trans kw4 k5 (fun i hi (h : i = g) => by omega)
    have HK : Hid ((takeC (m, false)).kind = ((num (tkL 1 m false) : Nat) : Int)) := Lib.hid rfl
    generalize num (tkL 1 m false) = kv at *
    have z0 : wrap64 (kv : Int) = (kv : Int) := IntWalk.wrap64_in _ ⟨by omega, by omega⟩
    have z1 : IntKind.i64.wrap (kv : Int) = (kv : Int) := by rw [IntKind.wrap_i64]; omega
    obtain ⟨w6, hw6⟩ : ∃ w6, w5.alloc (.cells #[.int .i64 (kv : Int), .string ⟨#[]⟩, .string ⟨#[]⟩, .int .i64 0, .int .i64 0, .slice none 0 0] 24) = w6 := ⟨_, rfl⟩
    obtain ⟨g1, hg1⟩ : ∃ g1, w5.heap.size = g1 := ⟨_, rfl⟩
    have k56 : KF w5 w6 := by rw [← hw6]; exact (KF.refl _).alloc _
    have T6 : TkF w w6 g g0 g1 (takeS 1 (m, false)) (.int .i64 (kv : Int)) (.string ⟨#[]⟩) (.string ⟨#[]⟩) (.int .i64 0) (.int .i64 0) (.slice none 0 0) :=
      ⟨R5.kept k56, ⟨by rw [← hw6, ← hg1]; exact heap_alloc_new w5 _⟩, P05.kept k56 (fun h => h), KF.trans kw5 k56, ⟨by omega, by have := R5.lt; omega, by omega⟩, by simp⟩
    have HW6 := Lib.hid hw6
    have HG1 := Lib.hid hg1
    clear hw6 hg1 P04 P05 C1 R4 R5 k5 k56 kw4 kw5 hx
    have C2 := Lib.hid (rbytes_any g (takeS 1 (m, false)) 300 w6 T6.rd (by omega))
    go_upto_region 6 with fail
    rw [HW6.out, HG1.out]
    clear HW6 HG1 z0 z1
    go_wp2_with fail
    refine C2.out.mono ?_
    rintro e w7 ⟨A7, n7, c7, rfl, hn7, r7, q7, R7, k7⟩
    obtain rfl := hn7.out
    have T7 := T6.kept k7 (st' := takeS 2 (m, false)) R7
    have cv7 := string_any c7 r7
    have HV1 : Hid ((takeC (m, false)).path = byV 300 (takeS 1 (m, false))) := Lib.hid rfl
    generalize byV 300 (takeS 1 (m, false)) = fv1 at *
    have T7' := T7.set1 (.string (ba fv1)) (by simp)
    clear C2 R7 k7 T6
    obtain ⟨p0, p1, p2, p3, p4, p5⟩ := T7.six.cells
    have pf := T7.six.free 1
    have C3 := Lib.hid (rbytes_any g (takeS 2 (m, false)) 300 _ T7'.rd (by omega))
    clear T7
    go_wp2_with fail
    refine C3.out.mono ?_
    rintro e w8 ⟨A8, n8, c8, rfl, hn8, r8, q8, R8, k8⟩
    obtain rfl := hn8.out
    have T8 := T7'.kept k8 (st' := takeS 3 (m, false)) R8
    have cv8 := string_any c8 r8
    have HV2 : Hid ((takeC (m, false)).other = byV 300 (takeS 2 (m, false))) := Lib.hid rfl
    generalize byV 300 (takeS 2 (m, false)) = fv2 at *
    have T8' := T8.set2 (.string (ba fv2)) (by simp)
    clear p0 p1 p2 p3 p4 p5 pf C3 R8 k8 T7' cv7 r7 q7
    obtain ⟨p0, p1, p2, p3, p4, p5⟩ := T8.six.cells
    have pf := T8.six.free 2
    have C4 := Lib.hid (rnumber_any g (takeS 3 (m, false)) 8 _ T8'.rd (by omega))
    rw [show ((8 : Nat) : Int) = 8 from rfl] at C4
    clear T8
    go_wp2_with fail
    refine C4.out.mono ?_
    rintro e w9 ⟨rfl, R9, k9⟩
    have T9 := T8'.kept k9 (st' := takeS 4 (m, false)) R9
    have HV3 : Hid ((takeC (m, false)).off = wrap64 ((num (tkL 8 (takeS 3 (m, false)).1 (takeS 3 (m, false)).2) : Nat) : Int)) := Lib.hid rfl
    generalize num (tkL 8 (takeS 3 (m, false)).1 (takeS 3 (m, false)).2) = xv3 at *
    have T9' := T9.set3 (.int .i64 (wrap64 (xv3 : Int))) (by simp)
    clear p0 p1 p2 p3 p4 p5 pf C4 R9 k9 T8' cv8 r8 q8
    obtain ⟨p0, p1, p2, p3, p4, p5⟩ := T9.six.cells
    have pf := T9.six.free 3
    have C5 := Lib.hid (rnumber_any g (takeS 4 (m, false)) 8 _ T9'.rd (by omega))
    rw [show ((8 : Nat) : Int) = 8 from rfl] at C5
    clear T9
    go_wp2_with fail
    refine C5.out.mono ?_
    rintro e w10 ⟨rfl, R10, k10⟩
    have T10 := T9'.kept k10 (st' := takeS 5 (m, false)) R10
    have HV4 : Hid ((takeC (m, false)).n = wrap64 ((num (tkL 8 (takeS 4 (m, false)).1 (takeS 4 (m, false)).2) : Nat) : Int)) := Lib.hid rfl
    generalize num (tkL 8 (takeS 4 (m, false)).1 (takeS 4 (m, false)).2) = xv4 at *
    have T10' := T10.set4 (.int .i64 (wrap64 (xv4 : Int))) (by simp)
    clear p0 p1 p2 p3 p4 p5 pf C5 R10 k10 T9'
    obtain ⟨p0, p1, p2, p3, p4, p5⟩ := T10.six.cells
    have pf := T10.six.free 4
    have C6 := Lib.hid (rbytes_any g (takeS 5 (m, false)) 4096 _ T10'.rd (by omega))
    clear T10
    go_wp2_with fail
    refine C6.out.mono ?_
    rintro e w11 ⟨A11, n11, c11, rfl, hn11, r11, q11, R11, k11⟩
    obtain rfl := hn11.out
    have T11 := T10'.kept k11 (st' := takeS 6 (m, false)) R11
    have HV5 : Hid ((takeC (m, false)).data = byV 4096 (takeS 5 (m, false))) := Lib.hid rfl
    generalize byV 4096 (takeS 5 (m, false)) = fv5 at *
    have T11' := T11.set5 (.slice A11 fv5.length c11) (by simp)
    have r11' : Rd (w11.setCell ⟨g1, 5, none⟩ (.slice A11 fv5.length c11)) w11.heap.size A11 fv5 := r11.store T11.six.block (by simp) 5 _
    clear p0 p1 p2 p3 p4 p5 pf C6 R11 k11 T10' r11
    obtain ⟨p0, p1, p2, p3, p4, p5⟩ := T11.six.cells
    have pf := T11.six.free 5
    have CE := Lib.hid (rend_any g (takeS 6 (m, false)) _ T11'.rd)
    obtain ⟨w12, hw12⟩ : ∃ w12, w11.setCell ⟨g1, 5, none⟩ (.slice A11 fv5.length c11) = w12 := ⟨_, rfl⟩
    have hz12 : w12.heap.size = w11.heap.size := by rw [← hw12]; simp [World.setCell]
    rw [hw12] at CE T11' r11'
    have HW12 := Lib.hid hw12
    clear hw12
    go_upto_region 11 with fail
    rw [HW12.out]
    clear p0 p1 p2 p3 p4 p5 pf HW12 T11
    go_wp2_with fail
    refine CE.out.mono ?_
    rintro e w13 ⟨rfl, nq, rfl⟩
    have kD : KF w12 (w12.drewN nq) := (KF.refl _).drewN nq
    have P1 := T11'.six.kept kD (fun h => h)
    have P0 := T11'.res.kept kD (fun h => h)
    have r13 : Rd (w12.drewN nq) w12.heap.size A11 fv5 := (r11'.keepF kD (by omega)).more (by omega)
    have kw := KF.trans T11'.keep kD
    have hsz : w12.heap.size ≤ (w12.drewN nq).heap.size := kD.size
    have hlt := T11'.lt
    have hne : g0 ≠ g1 := by omega
    clear T11' CE r11' kD
    generalize w12.drewN nq = w13 at *
    generalize takeS 6 (m, false) = st at *
    obtain ⟨u0, u1, u2, u3, u4, u5⟩ := P0.cells
    have f0 := P0.free 0
    have f1 := P0.free 1
    have f2 := P0.free 2
    have f3 := P0.free 3
    have f4 := P0.free 4
    have f5 := P0.free 5
    by_cases hend : endOf st = 0
    · have z1 : (endOf st != 0) = false := by rw [hend]; rfl
      have HD2 : Hid (decC l = some (takeC (m, false))) := Lib.hid (by rw [HD.out, if_pos hend])
      obtain ⟨q0, q1, q2, q3, q4, q5⟩ := P1.cells
      have FIN := Lib.hid (six_put (v0 := .int .i64 (kv : Int)) (v1 := .string (ba fv1)) (v2 := .string (ba fv2)) (v3 := .int .i64 (wrap64 (xv3 : Int))) (v4 := .int .i64 (wrap64 (xv4 : Int))) (v5 := .slice A11 fv5.length c11) P0 (by simp [NoB]) (by simp [NoB]) (by simp [NoB]) (by simp [NoB]) (by simp [NoB]) (by simp [NoB]) (by simp [NoB]) (by simp [NoB]) (by simp [NoB]) (by simp [NoB]) (by simp [NoB]))
      have HE : Hid (∀ A c d, d = fv5.length → Value.agg #[.int .i64 (kv : Int), .string (ba fv1), .string (ba fv2), .int .i64 (wrap64 (xv3 : Int)), .int .i64 (wrap64 (xv4 : Int)), .slice A d c] = .agg #[.int .i64 (takeC (m, false)).kind, .string (ba (takeC (m, false)).path), .string (ba (takeC (m, false)).other), .int .i64 (takeC (m, false)).off, .int .i64 (takeC (m, false)).n, .slice A (takeC (m, false)).data.length c]) := Lib.hid fun A c d hd => by rw [HK.out, HV1.out, HV2.out, HV3.out, HV4.out, HV5.out, hd]
      clear P0 P1 HD hend
      go_wp2_with fail
      obtain ⟨e1, e2, e3, e4⟩ := FIN.out
      obtain ⟨c0, c1, c2, c3', c4, c5'⟩ := e1.cells
      have hr6 := e3 _ _ _ r13
      have hs7 : w12.heap.size ≤ _ := Nat.le_trans hsz (Nat.le_of_eq e4.symm)
      clear FIN e1 e3
      refine bodyPost_ret (v := .tuple #[.agg #[.int .i64 (kv : Int), .string (ba fv1), .string (ba fv2), .int .i64 (wrap64 (xv3 : Int)), .int .i64 (wrap64 (xv4 : Int)), .slice A11 fv5.length c11], .int .i64 0]) (by simp [results, Tryd.results20, go_sem, c0, c1, c2, c3', c4, c5']) rfl ?_
      exact ⟨Keep.trans kw e2 (fun i hi (h : i = g0) => by omega), .inl ⟨takeC (m, false), A11, c11, HD2.out, by rw [HE.out _ _ _ rfl], by rw [HV5.out]; exact hr6.more hs7⟩⟩
    · have z1 : (endOf st != 0) = true := bne_iff_ne.2 hend
      have HD2 : Hid (decC l = none) := Lib.hid (by rw [HD.out, if_neg hend])
      have FIN := Lib.hid (six_put (v0 := .int .i64 0) (v1 := .string ⟨#[]⟩) (v2 := .string ⟨#[]⟩) (v3 := .int .i64 0) (v4 := .int .i64 0) (v5 := .slice none 0 0) P0 (by simp [NoB]) (by simp [NoB]) (by simp [NoB]) (by simp [NoB]) (by simp [NoB]) (by simp [NoB]) (by simp [NoB]) (by simp [NoB]) (by simp [NoB]) (by simp [NoB]) (by simp [NoB]))
      clear P0 P1 HD hend
      go_wp2_with fail
      obtain ⟨e1, e2, _, _⟩ := FIN.out
      obtain ⟨c0, c1, c2, c3', c4, c5'⟩ := e1.cells
      clear FIN
      refine bodyPost_ret (v := .tuple #[.agg zcall, .int .i64 3]) (by simp [results, Tryd.results20, go_sem, c0, c1, c2, c3', c4, c5']) rfl ?_
      exact ⟨Keep.trans kw e2 (fun i hi (h : i = g0) => by omega), .inr ⟨HD2.out, rfl⟩⟩
end Go.Proofs.YtklpebfkgdklmaaDoor
