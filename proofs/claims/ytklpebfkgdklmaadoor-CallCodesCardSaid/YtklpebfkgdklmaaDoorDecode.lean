/-
  WALKS: call.decode of calls, call.Decode.
-/
import Derived.Test.YtklpebfkgdklmaaDoorDec
namespace Go.Proofs.YtklpebfkgdklmaaDoor
open Go.RowKit

def NoB (v : Value) : Prop := ∀ z, v ≠ .int .u8 z
/-- Six cells that are stored over. -/
theorem six_put {w : World} {g : Nat} {u0 u1 u2 u3 u4 u5 v0 v1 v2 v3 v4 v5 : Value} (S0 : Six w g u0 u1 u2 u3 u4 u5) (m0 : NoB u0) (m1 : NoB u1) (m2 : NoB u2) (m3 : NoB u3) (m4 : NoB u4) (m5 : NoB u5) (n0 : NoB v0) (n1 : NoB v1) (n2 : NoB v2) (n3 : NoB v3) (n4 : NoB v4) :
    Six ((((((w.setCell ⟨g, 0, none⟩ v0).setCell ⟨g, 1, none⟩ v1).setCell ⟨g, 2, none⟩ v2).setCell ⟨g, 3, none⟩ v3).setCell ⟨g, 4, none⟩ v4).setCell ⟨g, 5, none⟩ v5) g v0 v1 v2 v3 v4 v5 ∧
    Keep (fun k => k = g) w ((((((w.setCell ⟨g, 0, none⟩ v0).setCell ⟨g, 1, none⟩ v1).setCell ⟨g, 2, none⟩ v2).setCell ⟨g, 3, none⟩ v3).setCell ⟨g, 4, none⟩ v4).setCell ⟨g, 5, none⟩ v5) ∧
    (∀ B A l, Rd w B A l → Rd ((((((w.setCell ⟨g, 0, none⟩ v0).setCell ⟨g, 1, none⟩ v1).setCell ⟨g, 2, none⟩ v2).setCell ⟨g, 3, none⟩ v3).setCell ⟨g, 4, none⟩ v4).setCell ⟨g, 5, none⟩ v5) B A l) ∧
    ((((((w.setCell ⟨g, 0, none⟩ v0).setCell ⟨g, 1, none⟩ v1).setCell ⟨g, 2, none⟩ v2).setCell ⟨g, 3, none⟩ v3).setCell ⟨g, 4, none⟩ v4).setCell ⟨g, 5, none⟩ v5).heap.size = w.heap.size := by
  have S1 := S0.set0 v0
  have S2 := S1.set1 v1
  have S3 := S2.set2 v2
  have S4 := S3.set3 v3
  have S5 := S4.set4 v4
  have S6 := S5.set5 v5
  have key : ∀ {a b c d e f : Value}, NoB a → NoB b → NoB c → NoB d → NoB e → NoB f → ∀ x ∈ (#[a, b, c, d, e, f] : Array Value).toList, ∀ z, x ≠ .int .u8 z := by
    intro a b c d e f ha hb hc hd he hf x hx
    simp only [List.mem_cons, List.not_mem_nil, or_false] at hx
    rcases hx with rfl | rfl | rfl | rfl | rfl | rfl
    · exact ha
    · exact hb
    · exact hc
    · exact hd
    · exact he
    · exact hf
  refine ⟨S6, ?_, fun B A l hr => (((((hr.store S0.block (key m0 m1 m2 m3 m4 m5) 0 v0).store S1.block (key n0 m1 m2 m3 m4 m5) 1 v1).store S2.block (key n0 n1 m2 m3 m4 m5) 2 v2).store S3.block (key n0 n1 n2 m3 m4 m5) 3 v3).store S4.block (key n0 n1 n2 n3 m4 m5) 4 v4).store S5.block (key n0 n1 n2 n3 n4 m5) 5 v5, ?_⟩
  · exact ((((((Keep.refl (fun k => k = g) w).setCell (p := ⟨g, 0, none⟩) (.inr rfl) v0).setCell (p := ⟨g, 1, none⟩) (.inr rfl) v1).setCell (p := ⟨g, 2, none⟩) (.inr rfl) v2).setCell (p := ⟨g, 3, none⟩) (.inr rfl) v3).setCell (p := ⟨g, 4, none⟩) (.inr rfl) v4).setCell (p := ⟨g, 5, none⟩) (.inr rfl) v5
  · simp only [World.setCell, Array.size_modify]

/-- The call of bytes, if there is one. -/
noncomputable def decC (l : List UInt8) : Option TCall :=
  if l.length < 4 ∨ num (l.drop (l.length - 4)) ≠ crc (l.take (l.length - 4)) then none else if endOf (takeS 6 (l.take (l.length - 4), false)) = 0 then some (takeC (l.take (l.length - 4), false)) else none
/-- What Decode leaves. -/
def Decs (l : List UInt8) (w : World) (e : Ending) (w' : World) : Prop :=
  KF w w' ∧ ((∃ x A c, decC l = some x ∧ e = .returned (.tuple #[.agg #[.int .i64 x.kind, .string (ba x.path), .string (ba x.other), .int .i64 x.off, .int .i64 x.n, .slice A x.data.length c], .int .i64 0]) ∧ Rd w' w'.heap.size A x.data) ∨
    (decC l = none ∧ e = .returned (.tuple #[.agg #[.int .i64 0, .string ⟨#[]⟩, .string ⟨#[]⟩, .int .i64 0, .int .i64 0, .slice none 0 0], .int .i64 3])))
abbrev zcall : Array Value := #[.int .i64 0, .string ⟨#[]⟩, .string ⟨#[]⟩, .int .i64 0, .int .i64 0, .slice none 0 0]
set_option maxRecDepth 100000 in
set_option maxHeartbeats 2000000 in
theorem decode_gen (A : Option Addr) (l : List UInt8) (n c : Nat) (w : World) (hn : n = l.length) (hc : n ≤ c) (hm : c ≤ maxLen) (hb : l.length ≤ 1000000000) (ht : Tab w) (hr : Rd w w.heap.size A l) :
    Calls Tryd.prog 42 #[.slice A n c, .func (.func 43) #[] #[]] w (Decs l w) := by
  obtain ⟨w1, hw1⟩ : ∃ w1, w.alloc (.cells zcall 24) = w1 := ⟨_, rfl⟩
  obtain ⟨w2, hw2⟩ : ∃ w2, w1.alloc (.cells zcall 24) = w2 := ⟨_, rfl⟩
  obtain ⟨g0, hg0⟩ : ∃ g0, w.heap.size = g0 := ⟨_, rfl⟩
  obtain ⟨g1, hg1⟩ : ∃ g1, w1.heap.size = g1 := ⟨_, rfl⟩
  have s1 : w1.heap.size = w.heap.size + 1 := by rw [← hw1]; simp
  have s2 : w2.heap.size = w1.heap.size + 1 := by rw [← hw2]; simp
  have k01 : KF w w1 := by rw [← hw1]; exact (KF.refl _).alloc _
  have k12 : KF w1 w2 := by rw [← hw2]; exact (KF.refl _).alloc _
  have k02 := KF.trans k01 k12
  have Q0 : Six w1 g0 (.int .i64 0) (.string ⟨#[]⟩) (.string ⟨#[]⟩) (.int .i64 0) (.int .i64 0) (.slice none 0 0) := ⟨by rw [← hw1, ← hg0]; exact heap_alloc_new w _⟩
  have P0 := Q0.kept k12 (fun h => h)
  have P1 : Six w2 g1 (.int .i64 0) (.string ⟨#[]⟩) (.string ⟨#[]⟩) (.int .i64 0) (.int .i64 0) (.slice none 0 0) := ⟨by rw [← hw2, ← hg1]; exact heap_alloc_new w1 _⟩
  have CU := Lib.hid (unwrap_dec A l n c w2 hn hc hm hb (ht.kept k02 (fun h => h)) ((hr.keepF k02 (Nat.le_refl _)).more k02.size))
  have HW1 := Lib.hid hw1
  have HW2 := Lib.hid hw2
  have HG0 := Lib.hid hg0
  have HG1 := Lib.hid hg1
  have hlt1 : g0 < g1 := by omega
  have hg1l : g1 < w2.heap.size := by omega
  have hwg : w.heap.size ≤ g0 := by omega
  clear Q0 k01 k12 hw1 hw2 hg0 hg1 s1 s2 hn
  go_enter Tryd.func42, Tryd.ntmps42
  go_upto_region 1 with fail
  rw [HW1.out, HG0.out]
  go_upto_region 2 with fail
  rw [HW2.out, HG1.out]
  clear HW1 HW2 HG0 HG1
  go_wp2_with fail
  refine CU.out.mono ?_
  rintro e w3 ⟨k3, ⟨hbad, rfl⟩ | ⟨hgood, A3, c3, rfl, o3, n3⟩⟩
  · have HD : Hid (decC l = none) := Lib.hid (by unfold decC; rw [if_pos hbad])
    have P03 := P0.kept k3 (fun h => h)
    have P13 := P1.kept k3 (fun h => h)
    obtain ⟨q0, q1, q2, q3, q4, q5⟩ := P13.cells
    obtain ⟨u0, u1, u2, u3, u4, u5⟩ := P03.cells
    have f0 := P03.free 0
    have f1 := P03.free 1
    have f2 := P03.free 2
    have f3 := P03.free 3
    have f4 := P03.free 4
    have f5 := P03.free 5
    have hne : g0 ≠ g1 := by omega
    have FIN := Lib.hid (six_put (v0 := .int .i64 0) (v1 := .string ⟨#[]⟩) (v2 := .string ⟨#[]⟩) (v3 := .int .i64 0) (v4 := .int .i64 0) (v5 := .slice none 0 0) P03 (by simp [NoB]) (by simp [NoB]) (by simp [NoB]) (by simp [NoB]) (by simp [NoB]) (by simp [NoB]) (by simp [NoB]) (by simp [NoB]) (by simp [NoB]) (by simp [NoB]) (by simp [NoB]))
    have kw3 := KF.trans k02 k3
    clear P03 P13 P0 P1 CU hbad
    go_wp2_with fail
    obtain ⟨e1, e2, _, _⟩ := FIN.out
    obtain ⟨c0, c1, c2, c3, c4, c5⟩ := e1.cells
    clear FIN
    refine bodyPost_ret (v := .tuple #[.agg zcall, .int .i64 3]) (by simp [results, Tryd.results42, go_sem, c0, c1, c2, c3, c4, c5]) rfl ?_
    exact ⟨Keep.trans kw3 e2 (fun i hi (h : i = g0) => by omega), .inr ⟨HD.out, rfl⟩⟩
  · have HD : Hid (decC l = if endOf (takeS 6 (l.take (l.length - 4), false)) = 0 then some (takeC (l.take (l.length - 4), false)) else none) := Lib.hid (by unfold decC; rw [if_neg hgood])
    have hk4 : (l.take (l.length - 4)).length = l.length - 4 := by rw [List.length_take]; omega
    have hkb : (l.take (l.length - 4)).length ≤ 1000000000 := by omega
    clear hgood CU ht hr n3
    generalize l.take (l.length - 4) = m at *
    generalize l.length - 4 = mk at *
    have HMK := Lib.hid hk4
    clear hk4
    have CR := Lib.hid (read_any A3 m mk c3 w3 HMK.out.symm (by omega) w3.heap.size o3.rd (Nat.le_refl _))
    have P03 := P0.kept k3 (fun h => h)
    have P13 := P1.kept k3 (fun h => h)
    have kw3 := KF.trans k02 k3
    have hw3g : g1 < w3.heap.size := Nat.lt_of_lt_of_le hg1l k3.size
    clear P0 P1 k02
    go_wp2_with fail
    refine CR.out.mono ?_
    rintro e w4 ⟨g, A4, c4, rfl, r4, hg, k4⟩
    have R4 : RdE w4 g (m, false) := ⟨A4, c4, r4⟩
    have CT := Lib.hid (take_any_call g (m, false) w4 R4 (by show m.length ≤ _; omega))
    have P04 := P03.kept k4 (fun h => h)
    have P14 := P13.kept k4 (fun h => h)
    have kw4 := KF.trans kw3 k4
    clear P03 P13 CR r4 o3
    go_wp2_with fail
    refine CT.out.mono ?_
    rintro e w5 ⟨A5, c5, rfl, r5, R5, k5⟩
    have P05 := P04.kept k5 (fun h : g0 = g => by omega)
    have P15 := P14.kept k5 (fun h : g1 = g => by omega)
    have kw5 : KF w w5 := Keep.trans kw4 k5 (fun i hi (h : i = g) => by have := kw3.size; omega)
    clear P04 P14 CT R4
    generalize takeC (m, false) = x at *
    have hts : Hid (takeS 6 (m, false) = takeS 6 (m, false)) := Lib.hid rfl
    generalize takeS 6 (m, false) = st at *
    generalize hdl : x.data.length = dl at *
    have HDL := Lib.hid hdl
    clear hdl hts
    obtain ⟨w6, hw6⟩ : ∃ w6, w5.alloc (.cells #[.int .i64 x.kind, .string (ba x.path), .string (ba x.other), .int .i64 x.off, .int .i64 x.n, .slice A5 dl c5] 24) = w6 := ⟨_, rfl⟩
    obtain ⟨g2, hg2⟩ : ∃ g2, w5.heap.size = g2 := ⟨_, rfl⟩
    have k56 : KF w5 w6 := by rw [← hw6]; exact (KF.refl _).alloc _
    have P26 : Six w6 g2 (.int .i64 x.kind) (.string (ba x.path)) (.string (ba x.other)) (.int .i64 x.off) (.int .i64 x.n) (.slice A5 dl c5) := ⟨by rw [← hw6, ← hg2]; exact heap_alloc_new w5 _⟩
    have P06 := P05.kept k56 (fun h => h)
    have P16 := P15.kept k56 (fun h => h)
    have r6 : Rd w6 w5.heap.size A5 x.data := r5.keepF k56 (Nat.le_refl _)
    have kw6 := KF.trans kw5 k56
    have CE := Lib.hid (end_e g st w6 (R5.kept k56))
    have hg2l : g1 < g2 := by have := k4.size; have := k5.size; omega
    have hs6 := k56.size
    have HW6 := Lib.hid hw6
    have HG2 := Lib.hid hg2
    clear hw6 hg2 P05 P15 r5 R5
    go_upto_region 7 with fail
    rw [HW6.out, HG2.out]
    go_wp2_with fail
    refine CE.out.mono ?_
    rintro e w7 ⟨rfl, rfl⟩
    obtain ⟨u0, u1, u2, u3, u4, u5⟩ := P06.cells
    have f0 := P06.free 0
    have f1 := P06.free 1
    have f2 := P06.free 2
    have f3 := P06.free 3
    have f4 := P06.free 4
    have f5 := P06.free 5
    by_cases hend : endOf st = 0
    · have z1 : (endOf st != 0) = false := by rw [hend]; rfl
      have HD2 : Hid (decC l = some x) := Lib.hid (by rw [HD.out, if_pos hend])
      obtain ⟨q0, q1, q2, q3, q4, q5⟩ := P26.cells
      have hne : g0 ≠ g2 := by omega
      have FIN := Lib.hid (six_put (v0 := .int .i64 x.kind) (v1 := .string (ba x.path)) (v2 := .string (ba x.other)) (v3 := .int .i64 x.off) (v4 := .int .i64 x.n) (v5 := .slice A5 dl c5) P06 (by simp [NoB]) (by simp [NoB]) (by simp [NoB]) (by simp [NoB]) (by simp [NoB]) (by simp [NoB]) (by simp [NoB]) (by simp [NoB]) (by simp [NoB]) (by simp [NoB]) (by simp [NoB]))
      clear P06 P16 P26 CE HD hend
      go_wp2_with fail
      obtain ⟨e1, e2, e3, e4⟩ := FIN.out
      obtain ⟨c0, c1, c2, c3, c4, c5'⟩ := e1.cells
      have hr6 := e3 _ _ _ r6
      have hs7 : w5.heap.size ≤ _ := Nat.le_trans hs6 (Nat.le_of_eq e4.symm)
      clear FIN e1 e3
      refine bodyPost_ret (v := .tuple #[.agg #[.int .i64 x.kind, .string (ba x.path), .string (ba x.other), .int .i64 x.off, .int .i64 x.n, .slice A5 dl c5], .int .i64 0]) (by simp [results, Tryd.results42, go_sem, c0, c1, c2, c3, c4, c5']) rfl ?_
      exact ⟨Keep.trans kw6 e2 (fun i hi (h : i = g0) => by omega), .inl ⟨x, A5, c5, HD2.out, by rw [HDL.out], hr6.more hs7⟩⟩
    · have z1 : (endOf st != 0) = true := bne_iff_ne.2 hend
      have h3 : endOf st = 3 := by unfold endOf at hend ⊢; split at hend <;> simp_all
      have HD2 : Hid (decC l = none) := Lib.hid (by rw [HD.out, if_neg hend])
      obtain ⟨q0, q1, q2, q3, q4, q5⟩ := P16.cells
      have hne : g0 ≠ g1 := by omega
      have FIN := Lib.hid (six_put (v0 := .int .i64 0) (v1 := .string ⟨#[]⟩) (v2 := .string ⟨#[]⟩) (v3 := .int .i64 0) (v4 := .int .i64 0) (v5 := .slice none 0 0) P06 (by simp [NoB]) (by simp [NoB]) (by simp [NoB]) (by simp [NoB]) (by simp [NoB]) (by simp [NoB]) (by simp [NoB]) (by simp [NoB]) (by simp [NoB]) (by simp [NoB]) (by simp [NoB]))
      clear P06 P16 P26 CE HD hend z1
      rw [h3]
      clear h3
      go_wp2_with fail
      obtain ⟨e1, e2, _, _⟩ := FIN.out
      obtain ⟨c0, c1, c2, c3, c4, c5'⟩ := e1.cells
      clear FIN
      refine bodyPost_ret (v := .tuple #[.agg zcall, .int .i64 3]) (by simp [results, Tryd.results42, go_sem, c0, c1, c2, c3, c4, c5']) rfl ?_
      exact ⟨Keep.trans kw6 e2 (fun i hi (h : i = g0) => by omega), .inr ⟨HD2.out, rfl⟩⟩

set_option maxRecDepth 100000 in
set_option maxHeartbeats 1000000 in
theorem decode_any (A : Option Addr) (l : List UInt8) (n c : Nat) (w : World) (hn : n = l.length) (hc : n ≤ c) (hm : c ≤ maxLen) (hb : l.length ≤ 1000000000) (ht : Tab w) (hr : Rd w w.heap.size A l) :
    Calls Tryd.prog 16 #[.slice A n c] w (Decs l w) := by
  obtain ⟨w1, hw1⟩ : ∃ w1, w.alloc (.cells zcall 24) = w1 := ⟨_, rfl⟩
  obtain ⟨g0, hg0⟩ : ∃ g0, w.heap.size = g0 := ⟨_, rfl⟩
  have k01 : KF w w1 := by rw [← hw1]; exact (KF.refl _).alloc _
  have P0 : Six w1 g0 (.int .i64 0) (.string ⟨#[]⟩) (.string ⟨#[]⟩) (.int .i64 0) (.int .i64 0) (.slice none 0 0) := ⟨by rw [← hw1, ← hg0]; exact heap_alloc_new w _⟩
  have CU := Lib.hid (decode_gen A l n c w1 hn hc hm hb (ht.kept k01 (fun h => h)) ((hr.keepF k01 (Nat.le_refl _)).more k01.size))
  have HW1 := Lib.hid hw1
  have HG0 := Lib.hid hg0
  have hwg : w.heap.size ≤ g0 := by omega
  clear hw1 hg0 hn
  go_enter Tryd.func16, Tryd.ntmps16
  go_upto_region 1 with fail
  rw [HW1.out, HG0.out]
  clear HW1 HG0
  go_wp2_with fail
  refine CU.out.mono ?_
  rintro e w3 ⟨k3, ⟨x, A3, c3, hx, rfl, r3⟩ | ⟨hx, rfl⟩⟩
  · have HX := Lib.hid hx
    have P03 := P0.kept k3 (fun h => h)
    obtain ⟨u0, u1, u2, u3, u4, u5⟩ := P03.cells
    have f0 := P03.free 0
    have f1 := P03.free 1
    have f2 := P03.free 2
    have f3 := P03.free 3
    have f4 := P03.free 4
    have f5 := P03.free 5
    generalize hdl : x.data.length = dl at *
    have HDL := Lib.hid hdl
    have FIN := Lib.hid (six_put (v0 := .int .i64 x.kind) (v1 := .string (ba x.path)) (v2 := .string (ba x.other)) (v3 := .int .i64 x.off) (v4 := .int .i64 x.n) (v5 := .slice A3 dl c3) P03 (by simp [NoB]) (by simp [NoB]) (by simp [NoB]) (by simp [NoB]) (by simp [NoB]) (by simp [NoB]) (by simp [NoB]) (by simp [NoB]) (by simp [NoB]) (by simp [NoB]) (by simp [NoB]))
    have kw3 := KF.trans k01 k3
    clear P03 P0 CU hx hdl
    go_wp2_with fail
    obtain ⟨e1, e2, e3, e4⟩ := FIN.out
    obtain ⟨c0, c1, c2, c3', c4, c5⟩ := e1.cells
    have hr6 := e3 _ _ _ r3
    have hs7 : w3.heap.size ≤ _ := Nat.le_of_eq e4.symm
    clear FIN e1 e3
    refine bodyPost_ret (v := .tuple #[.agg #[.int .i64 x.kind, .string (ba x.path), .string (ba x.other), .int .i64 x.off, .int .i64 x.n, .slice A3 dl c3], .int .i64 0]) (by simp [results, Tryd.results16, go_sem, c0, c1, c2, c3', c4, c5]) rfl ?_
    exact ⟨Keep.trans kw3 e2 (fun i hi (h : i = g0) => by omega), .inl ⟨x, A3, c3, HX.out, by rw [HDL.out], hr6.more hs7⟩⟩
  · have HX := Lib.hid hx
    have P03 := P0.kept k3 (fun h => h)
    obtain ⟨u0, u1, u2, u3, u4, u5⟩ := P03.cells
    have f0 := P03.free 0
    have f1 := P03.free 1
    have f2 := P03.free 2
    have f3 := P03.free 3
    have f4 := P03.free 4
    have f5 := P03.free 5
    have FIN := Lib.hid (six_put (v0 := .int .i64 0) (v1 := .string ⟨#[]⟩) (v2 := .string ⟨#[]⟩) (v3 := .int .i64 0) (v4 := .int .i64 0) (v5 := .slice none 0 0) P03 (by simp [NoB]) (by simp [NoB]) (by simp [NoB]) (by simp [NoB]) (by simp [NoB]) (by simp [NoB]) (by simp [NoB]) (by simp [NoB]) (by simp [NoB]) (by simp [NoB]) (by simp [NoB]))
    have kw3 := KF.trans k01 k3
    clear P03 P0 CU hx
    go_wp2_with fail
    obtain ⟨e1, e2, _, _⟩ := FIN.out
    obtain ⟨c0, c1, c2, c3', c4, c5⟩ := e1.cells
    clear FIN
    refine bodyPost_ret (v := .tuple #[.agg zcall, .int .i64 3]) (by simp [results, Tryd.results16, go_sem, c0, c1, c2, c3', c4, c5]) rfl ?_
    exact ⟨Keep.trans kw3 e2 (fun i hi (h : i = g0) => by omega), .inr ⟨HX.out, rfl⟩⟩
end Go.Proofs.YtklpebfkgdklmaaDoor
