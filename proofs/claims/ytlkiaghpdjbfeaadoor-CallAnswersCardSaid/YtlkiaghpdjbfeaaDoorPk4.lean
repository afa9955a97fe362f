/-
  WALKS: call.decode of calls, call.Decode.
  WALKS: takeAnswer of package call.
  WALKS: call.decode of answers, call.DecodeAnswer.
  WALKS: call.EncodeAnswer; what is put of an answer comes back.
  The call of a call's bytes is that call.
  The answer of an answer's bytes is that answer.
  What a tree answers may be read back: bounds of answers. Over no program.
  The reference's SameAnswer, of two answers that are one (their numbers whatever ints).
  WALKS: call.Stream.
  What the laws of calls as bytes share: speaks.
  The law's great (layer 5): what it lets through is small.
  The reference's Find.
-/
import Derived.Test.YtlkiaghpdjbfeaaDoorPk3
import Derived.Test.YtlkiaghpdjbfeaaDoorPk1
import Derived.Test.YtlkiaghpdjbfeaaDoorPk2
import Derived.Test.YtlkiaghpdjbfeaaDoorPhRef
namespace Go.Proofs.YtlkiaghpdjbfeaaDoor
open Go.RowKit

def NoB (v : Value) : Prop := ∀ z, v ≠ .int .u8 z
/-- Six cells that are stored over. -/
theorem six_put {w : World} {g : Nat} {u0 u1 u2 u3 u4 u5 v0 v1 v2 v3 v4 v5 : Value} (S0 : Six w g u0 u1 u2 u3 u4 u5) (m0 : NoB u0) (m1 : NoB u1) (m2 : NoB u2) (m3 : NoB u3) (m4 : NoB u4) (m5 : NoB u5) (n0 : NoB v0) (n1 : NoB v1) (n2 : NoB v2) (n3 : NoB v3) (n4 : NoB v4) :
    Six ((((((w.setCell ⟨g, 0, none⟩ v0).setCell ⟨g, 1, none⟩ v1).setCell ⟨g, 2, none⟩ v2).setCell ⟨g, 3, none⟩ v3).setCell ⟨g, 4, none⟩ v4).setCell ⟨g, 5, none⟩ v5) g v0 v1 v2 v3 v4 v5 ∧
    Keep (fun k => k = g) w ((((((w.setCell ⟨g, 0, none⟩ v0).setCell ⟨g, 1, none⟩ v1).setCell ⟨g, 2, none⟩ v2).setCell ⟨g, 3, none⟩ v3).setCell ⟨g, 4, none⟩ v4).setCell ⟨g, 5, none⟩ v5) ∧
    (∀ B A l, Rd w B A l → Rd ((((((w.setCell ⟨g, 0, none⟩ v0).setCell ⟨g, 1, none⟩ v1).setCell ⟨g, 2, none⟩ v2).setCell ⟨g, 3, none⟩ v3).setCell ⟨g, 4, none⟩ v4).setCell ⟨g, 5, none⟩ v5) B A l) ∧
    ((((((w.setCell ⟨g, 0, none⟩ v0).setCell ⟨g, 1, none⟩ v1).setCell ⟨g, 2, none⟩ v2).setCell ⟨g, 3, none⟩ v3).setCell ⟨g, 4, none⟩ v4).setCell ⟨g, 5, none⟩ v5).heap.size = w.heap.size := by
  have S1 := S0.set0 v0
  have S2 := S1.set1 v1
  have S3 := S2.set2 v2
  have S4 := S3.set3 v3
  have S5 := S4.set4 v4
  have S6 := S5.set5 v5
  have key : ∀ {a b c d e f : Value}, NoB a → NoB b → NoB c → NoB d → NoB e → NoB f → ∀ x ∈ (#[a, b, c, d, e, f] : Array Value).toList, ∀ z, x ≠ .int .u8 z := by
    intro a b c d e f ha hb hc hd he hf x hx
    simp only [List.mem_cons, List.not_mem_nil, or_false] at hx
    rcases hx with rfl | rfl | rfl | rfl | rfl | rfl
    · exact ha
    · exact hb
    · exact hc
    · exact hd
    · exact he
    · exact hf
  refine ⟨S6, ?_, fun B A l hr => (((((hr.store S0.block (key m0 m1 m2 m3 m4 m5) 0 v0).store S1.block (key n0 m1 m2 m3 m4 m5) 1 v1).store S2.block (key n0 n1 m2 m3 m4 m5) 2 v2).store S3.block (key n0 n1 n2 m3 m4 m5) 3 v3).store S4.block (key n0 n1 n2 n3 m4 m5) 4 v4).store S5.block (key n0 n1 n2 n3 n4 m5) 5 v5, ?_⟩
  · exact ((((((Keep.refl (fun k => k = g) w).setCell (p := ⟨g, 0, none⟩) (.inr rfl) v0).setCell (p := ⟨g, 1, none⟩) (.inr rfl) v1).setCell (p := ⟨g, 2, none⟩) (.inr rfl) v2).setCell (p := ⟨g, 3, none⟩) (.inr rfl) v3).setCell (p := ⟨g, 4, none⟩) (.inr rfl) v4).setCell (p := ⟨g, 5, none⟩) (.inr rfl) v5
  · simp only [World.setCell, Array.size_modify]

/-- The call of bytes, if there is one. -/
noncomputable def decC (l : List UInt8) : Option TCall :=
  if l.length < 4 ∨ num (l.drop (l.length - 4)) ≠ crc (l.take (l.length - 4)) then none else if endOf (takeS 6 (l.take (l.length - 4), false)) = 0 then some (takeC (l.take (l.length - 4), false)) else none
/-- What Decode leaves. -/
def Decs (l : List UInt8) (w : World) (e : Ending) (w' : World) : Prop :=
  KF w w' ∧ ((∃ x A c, decC l = some x ∧ e = .returned (.tuple #[.agg #[.int .i64 x.kind, .string (ba x.path), .string (ba x.other), .int .i64 x.off, .int .i64 x.n, .slice A x.data.length c], .int .i64 0]) ∧ Rd w' w'.heap.size A x.data) ∨
    (decC l = none ∧ e = .returned (.tuple #[.agg #[.int .i64 0, .string ⟨#[]⟩, .string ⟨#[]⟩, .int .i64 0, .int .i64 0, .slice none 0 0], .int .i64 3])))
abbrev zcall : Array Value := #[.int .i64 0, .string ⟨#[]⟩, .string ⟨#[]⟩, .int .i64 0, .int .i64 0, .slice none 0 0]
set_option maxRecDepth 100000 in
set_option maxHeartbeats 2000000 in
theorem decode_gen (A : Option Addr) (l : List UInt8) (n c : Nat) (w : World) (hn : n = l.length) (hc : n ≤ c) (hm : c ≤ maxLen) (hb : l.length ≤ 1000000000) (ht : Tab w) (hr : Rd w w.heap.size A l) :
    Calls Tryd.prog 25 #[.slice A n c, .func (.func 26) #[] #[]] w (Decs l w) := by
  obtain ⟨w1, hw1⟩ : ∃ w1, w.alloc (.cells zcall 28) = w1 := ⟨_, rfl⟩
  obtain ⟨w2, hw2⟩ : ∃ w2, w1.alloc (.cells zcall 28) = w2 := ⟨_, rfl⟩
  obtain ⟨g0, hg0⟩ : ∃ g0, w.heap.size = g0 := ⟨_, rfl⟩
  obtain ⟨g1, hg1⟩ : ∃ g1, w1.heap.size = g1 := ⟨_, rfl⟩
  have s1 : w1.heap.size = w.heap.size + 1 := by rw [← hw1]; simp
  have s2 : w2.heap.size = w1.heap.size + 1 := by rw [← hw2]; simp
  have k01 : KF w w1 := by rw [← hw1]; exact (KF.refl _).alloc _
  have k12 : KF w1 w2 := by rw [← hw2]; exact (KF.refl _).alloc _
  have k02 := KF.trans k01 k12
  have Q0 : Six w1 g0 (.int .i64 0) (.string ⟨#[]⟩) (.string ⟨#[]⟩) (.int .i64 0) (.int .i64 0) (.slice none 0 0) := ⟨by rw [← hw1, ← hg0]; exact heap_alloc_new w _⟩
  have P0 := Q0.kept k12 (fun h => h)
  have P1 : Six w2 g1 (.int .i64 0) (.string ⟨#[]⟩) (.string ⟨#[]⟩) (.int .i64 0) (.int .i64 0) (.slice none 0 0) := ⟨by rw [← hw2, ← hg1]; exact heap_alloc_new w1 _⟩
  have CU := Lib.hid (unwrap_dec A l n c w2 hn hc hm hb (ht.kept k02 (fun h => h)) ((hr.keepF k02 (Nat.le_refl _)).more k02.size))
  have HW1 := Lib.hid hw1
  have HW2 := Lib.hid hw2
  have HG0 := Lib.hid hg0
  have HG1 := Lib.hid hg1
  have hlt1 : g0 < g1 := by omega
  have hg1l : g1 < w2.heap.size := by omega
  have hwg : w.heap.size ≤ g0 := by omega
  clear Q0 k01 k12 hw1 hw2 hg0 hg1 s1 s2 hn
  go_enter Tryd.func25, Tryd.ntmps25
  go_upto_region 1 with fail
  rw [HW1.out, HG0.out]
  go_upto_region 2 with fail
  rw [HW2.out, HG1.out]
  clear HW1 HW2 HG0 HG1
  go_wp2_with fail
  refine CU.out.mono ?_
  rintro e w3 ⟨k3, ⟨hbad, rfl⟩ | ⟨hgood, A3, c3, rfl, o3, n3⟩⟩
  · have HD : Hid (decC l = none) := Lib.hid (by unfold decC; rw [if_pos hbad])
    have P03 := P0.kept k3 (fun h => h)
    have P13 := P1.kept k3 (fun h => h)
    obtain ⟨q0, q1, q2, q3, q4, q5⟩ := P13.cells
    obtain ⟨u0, u1, u2, u3, u4, u5⟩ := P03.cells
    have f0 := P03.free 0
    have f1 := P03.free 1
    have f2 := P03.free 2
    have f3 := P03.free 3
    have f4 := P03.free 4
    have f5 := P03.free 5
    have hne : g0 ≠ g1 := by omega
    have FIN := Lib.hid (six_put (v0 := .int .i64 0) (v1 := .string ⟨#[]⟩) (v2 := .string ⟨#[]⟩) (v3 := .int .i64 0) (v4 := .int .i64 0) (v5 := .slice none 0 0) P03 (by simp [NoB]) (by simp [NoB]) (by simp [NoB]) (by simp [NoB]) (by simp [NoB]) (by simp [NoB]) (by simp [NoB]) (by simp [NoB]) (by simp [NoB]) (by simp [NoB]) (by simp [NoB]))
    have kw3 := KF.trans k02 k3
    clear P03 P13 P0 P1 CU hbad
    go_wp2_with fail
    obtain ⟨e1, e2, _, _⟩ := FIN.out
    obtain ⟨c0, c1, c2, c3, c4, c5⟩ := e1.cells
    clear FIN
    refine bodyPost_ret (v := .tuple #[.agg zcall, .int .i64 3]) (by simp [results, Tryd.results25, go_sem, c0, c1, c2, c3, c4, c5]) rfl ?_
    exact ⟨Keep.trans kw3 e2 (fun i hi (h : i = g0) => by omega), .inr ⟨HD.out, rfl⟩⟩
  · have HD : Hid (decC l = if endOf (takeS 6 (l.take (l.length - 4), false)) = 0 then some (takeC (l.take (l.length - 4), false)) else none) := Lib.hid (by unfold decC; rw [if_neg hgood])
    have hk4 : (l.take (l.length - 4)).length = l.length - 4 := by rw [List.length_take]; omega
    have hkb : (l.take (l.length - 4)).length ≤ 1000000000 := by omega
    clear hgood CU ht hr n3
    generalize l.take (l.length - 4) = m at *
    generalize l.length - 4 = mk at *
    have HMK := Lib.hid hk4
    clear hk4
    have CR := Lib.hid (read_any A3 m mk c3 w3 HMK.out.symm (by omega) w3.heap.size o3.rd (Nat.le_refl _))
    have P03 := P0.kept k3 (fun h => h)
    have P13 := P1.kept k3 (fun h => h)
    have kw3 := KF.trans k02 k3
    have hw3g : g1 < w3.heap.size := Nat.lt_of_lt_of_le hg1l k3.size
    clear P0 P1 k02
    go_wp2_with fail
    refine CR.out.mono ?_
    rintro e w4 ⟨g, A4, c4, rfl, r4, hg, k4⟩
    have R4 : RdE w4 g (m, false) := ⟨A4, c4, r4⟩
    have CT := Lib.hid (take_any_call g (m, false) w4 R4 (by show m.length ≤ _; omega))
    have P04 := P03.kept k4 (fun h => h)
    have P14 := P13.kept k4 (fun h => h)
    have kw4 := KF.trans kw3 k4
    clear P03 P13 CR r4 o3
    go_wp2_with fail
    refine CT.out.mono ?_
    rintro e w5 ⟨A5, c5, rfl, r5, R5, k5⟩
    have P05 := P04.kept k5 (fun h : g0 = g => by omega)
    have P15 := P14.kept k5 (fun h : g1 = g => by omega)
    have kw5 : KF w w5 := Keep.trans kw4 k5 (fun i hi (h : i = g) => by have := kw3.size; omega)
    clear P04 P14 CT R4
    generalize takeC (m, false) = x at *
    have hts : Hid (takeS 6 (m, false) = takeS 6 (m, false)) := Lib.hid rfl
    generalize takeS 6 (m, false) = st at *
    generalize hdl : x.data.length = dl at *
    have HDL := Lib.hid hdl
    clear hdl hts
    obtain ⟨w6, hw6⟩ : ∃ w6, w5.alloc (.cells #[.int .i64 x.kind, .string (ba x.path), .string (ba x.other), .int .i64 x.off, .int .i64 x.n, .slice A5 dl c5] 28) = w6 := ⟨_, rfl⟩
    obtain ⟨g2, hg2⟩ : ∃ g2, w5.heap.size = g2 := ⟨_, rfl⟩
    have k56 : KF w5 w6 := by rw [← hw6]; exact (KF.refl _).alloc _
    have P26 : Six w6 g2 (.int .i64 x.kind) (.string (ba x.path)) (.string (ba x.other)) (.int .i64 x.off) (.int .i64 x.n) (.slice A5 dl c5) := ⟨by rw [← hw6, ← hg2]; exact heap_alloc_new w5 _⟩
    have P06 := P05.kept k56 (fun h => h)
    have P16 := P15.kept k56 (fun h => h)
    have r6 : Rd w6 w5.heap.size A5 x.data := r5.keepF k56 (Nat.le_refl _)
    have kw6 := KF.trans kw5 k56
    have CE := Lib.hid (end_e g st w6 (R5.kept k56))
    have hg2l : g1 < g2 := by have := k4.size; have := k5.size; omega
    have hs6 := k56.size
    have HW6 := Lib.hid hw6
    have HG2 := Lib.hid hg2
    clear hw6 hg2 P05 P15 r5 R5
    go_upto_region 7 with fail
    rw [HW6.out, HG2.out]
    go_wp2_with fail
    refine CE.out.mono ?_
    rintro e w7 ⟨rfl, rfl⟩
    obtain ⟨u0, u1, u2, u3, u4, u5⟩ := P06.cells
    have f0 := P06.free 0
    have f1 := P06.free 1
    have f2 := P06.free 2
    have f3 := P06.free 3
    have f4 := P06.free 4
    have f5 := P06.free 5
    by_cases hend : endOf st = 0
    · have z1 : (endOf st != 0) = false := by rw [hend]; rfl
      have HD2 : Hid (decC l = some x) := Lib.hid (by rw [HD.out, if_pos hend])
      obtain ⟨q0, q1, q2, q3, q4, q5⟩ := P26.cells
      have hne : g0 ≠ g2 := by omega
      have FIN := Lib.hid (six_put (v0 := .int .i64 x.kind) (v1 := .string (ba x.path)) (v2 := .string (ba x.other)) (v3 := .int .i64 x.off) (v4 := .int .i64 x.n) (v5 := .slice A5 dl c5) P06 (by simp [NoB]) (by simp [NoB]) (by simp [NoB]) (by simp [NoB]) (by simp [NoB]) (by simp [NoB]) (by simp [NoB]) (by simp [NoB]) (by simp [NoB]) (by simp [NoB]) (by simp [NoB]))
      clear P06 P16 P26 CE HD hend
      go_wp2_with fail
      obtain ⟨e1, e2, e3, e4⟩ := FIN.out
      obtain ⟨c0, c1, c2, c3, c4, c5'⟩ := e1.cells
      have hr6 := e3 _ _ _ r6
      have hs7 : w5.heap.size ≤ _ := Nat.le_trans hs6 (Nat.le_of_eq e4.symm)
      clear FIN e1 e3
      refine bodyPost_ret (v := .tuple #[.agg #[.int .i64 x.kind, .string (ba x.path), .string (ba x.other), .int .i64 x.off, .int .i64 x.n, .slice A5 dl c5], .int .i64 0]) (by simp [results, Tryd.results25, go_sem, c0, c1, c2, c3, c4, c5']) rfl ?_
      exact ⟨Keep.trans kw6 e2 (fun i hi (h : i = g0) => by omega), .inl ⟨x, A5, c5, HD2.out, by rw [HDL.out], hr6.more hs7⟩⟩
    · have z1 : (endOf st != 0) = true := bne_iff_ne.2 hend
      have h3 : endOf st = 3 := by unfold endOf at hend ⊢; split at hend <;> simp_all
      have HD2 : Hid (decC l = none) := Lib.hid (by rw [HD.out, if_neg hend])
      obtain ⟨q0, q1, q2, q3, q4, q5⟩ := P16.cells
      have hne : g0 ≠ g1 := by omega
      have FIN := Lib.hid (six_put (v0 := .int .i64 0) (v1 := .string ⟨#[]⟩) (v2 := .string ⟨#[]⟩) (v3 := .int .i64 0) (v4 := .int .i64 0) (v5 := .slice none 0 0) P06 (by simp [NoB]) (by simp [NoB]) (by simp [NoB]) (by simp [NoB]) (by simp [NoB]) (by simp [NoB]) (by simp [NoB]) (by simp [NoB]) (by simp [NoB]) (by simp [NoB]) (by simp [NoB]))
      clear P06 P16 P26 CE HD hend z1
      rw [h3]
      clear h3
      go_wp2_with fail
      obtain ⟨e1, e2, _, _⟩ := FIN.out
      obtain ⟨c0, c1, c2, c3, c4, c5'⟩ := e1.cells
      clear FIN
      refine bodyPost_ret (v := .tuple #[.agg zcall, .int .i64 3]) (by simp [results, Tryd.results25, go_sem, c0, c1, c2, c3, c4, c5']) rfl ?_
      exact ⟨Keep.trans kw6 e2 (fun i hi (h : i = g0) => by omega), .inr ⟨HD2.out, rfl⟩⟩

set_option maxRecDepth 100000 in
set_option maxHeartbeats 1000000 in
theorem decode_any (A : Option Addr) (l : List UInt8) (n c : Nat) (w : World) (hn : n = l.length) (hc : n ≤ c) (hm : c ≤ maxLen) (hb : l.length ≤ 1000000000) (ht : Tab w) (hr : Rd w w.heap.size A l) :
    Calls Tryd.prog 11 #[.slice A n c] w (Decs l w) := by
  obtain ⟨w1, hw1⟩ : ∃ w1, w.alloc (.cells zcall 28) = w1 := ⟨_, rfl⟩
  obtain ⟨g0, hg0⟩ : ∃ g0, w.heap.size = g0 := ⟨_, rfl⟩
  have k01 : KF w w1 := by rw [← hw1]; exact (KF.refl _).alloc _
  have P0 : Six w1 g0 (.int .i64 0) (.string ⟨#[]⟩) (.string ⟨#[]⟩) (.int .i64 0) (.int .i64 0) (.slice none 0 0) := ⟨by rw [← hw1, ← hg0]; exact heap_alloc_new w _⟩
  have CU := Lib.hid (decode_gen A l n c w1 hn hc hm hb (ht.kept k01 (fun h => h)) ((hr.keepF k01 (Nat.le_refl _)).more k01.size))
  have HW1 := Lib.hid hw1
  have HG0 := Lib.hid hg0
  have hwg : w.heap.size ≤ g0 := by omega
  clear hw1 hg0 hn
  go_enter Tryd.func11, Tryd.ntmps11
  go_upto_region 1 with fail
  rw [HW1.out, HG0.out]
  clear HW1 HG0
  go_wp2_with fail
  refine CU.out.mono ?_
  rintro e w3 ⟨k3, ⟨x, A3, c3, hx, rfl, r3⟩ | ⟨hx, rfl⟩⟩
  · have HX := Lib.hid hx
    have P03 := P0.kept k3 (fun h => h)
    obtain ⟨u0, u1, u2, u3, u4, u5⟩ := P03.cells
    have f0 := P03.free 0
    have f1 := P03.free 1
    have f2 := P03.free 2
    have f3 := P03.free 3
    have f4 := P03.free 4
    have f5 := P03.free 5
    generalize hdl : x.data.length = dl at *
    have HDL := Lib.hid hdl
    have FIN := Lib.hid (six_put (v0 := .int .i64 x.kind) (v1 := .string (ba x.path)) (v2 := .string (ba x.other)) (v3 := .int .i64 x.off) (v4 := .int .i64 x.n) (v5 := .slice A3 dl c3) P03 (by simp [NoB]) (by simp [NoB]) (by simp [NoB]) (by simp [NoB]) (by simp [NoB]) (by simp [NoB]) (by simp [NoB]) (by simp [NoB]) (by simp [NoB]) (by simp [NoB]) (by simp [NoB]))
    have kw3 := KF.trans k01 k3
    clear P03 P0 CU hx hdl
    go_wp2_with fail
    obtain ⟨e1, e2, e3, e4⟩ := FIN.out
    obtain ⟨c0, c1, c2, c3', c4, c5⟩ := e1.cells
    have hr6 := e3 _ _ _ r3
    have hs7 : w3.heap.size ≤ _ := Nat.le_of_eq e4.symm
    clear FIN e1 e3
    refine bodyPost_ret (v := .tuple #[.agg #[.int .i64 x.kind, .string (ba x.path), .string (ba x.other), .int .i64 x.off, .int .i64 x.n, .slice A3 dl c3], .int .i64 0]) (by simp [results, Tryd.results11, go_sem, c0, c1, c2, c3', c4, c5]) rfl ?_
    exact ⟨Keep.trans kw3 e2 (fun i hi (h : i = g0) => by omega), .inl ⟨x, A3, c3, HX.out, by rw [HDL.out], hr6.more hs7⟩⟩
  · have HX := Lib.hid hx
    have P03 := P0.kept k3 (fun h => h)
    obtain ⟨u0, u1, u2, u3, u4, u5⟩ := P03.cells
    have f0 := P03.free 0
    have f1 := P03.free 1
    have f2 := P03.free 2
    have f3 := P03.free 3
    have f4 := P03.free 4
    have f5 := P03.free 5
    have FIN := Lib.hid (six_put (v0 := .int .i64 0) (v1 := .string ⟨#[]⟩) (v2 := .string ⟨#[]⟩) (v3 := .int .i64 0) (v4 := .int .i64 0) (v5 := .slice none 0 0) P03 (by simp [NoB]) (by simp [NoB]) (by simp [NoB]) (by simp [NoB]) (by simp [NoB]) (by simp [NoB]) (by simp [NoB]) (by simp [NoB]) (by simp [NoB]) (by simp [NoB]) (by simp [NoB]))
    have kw3 := KF.trans k01 k3
    clear P03 P0 CU hx
    go_wp2_with fail
    obtain ⟨e1, e2, _, _⟩ := FIN.out
    obtain ⟨c0, c1, c2, c3', c4, c5⟩ := e1.cells
    clear FIN
    refine bodyPost_ret (v := .tuple #[.agg zcall, .int .i64 3]) (by simp [results, Tryd.results11, go_sem, c0, c1, c2, c3', c4, c5]) rfl ?_
    exact ⟨Keep.trans kw3 e2 (fun i hi (h : i = g0) => by omega), .inr ⟨HX.out, rfl⟩⟩
end Go.Proofs.YtlkiaghpdjbfeaaDoor

namespace Go.Proofs.YtlkiaghpdjbfeaaDoor
open Go.RowKit

/-- An answer, its numbers whatever ints. -/
structure IAns where
  err : Int
  kind : Int
  size : Int
  links : Int
  data : Txt
  names : List Txt
/-- The reader behind the fields of an answer; the answer. -/
noncomputable def ansS : Nat → List UInt8 × Bool → List UInt8 × Bool
  | 0, s => s
  | 1, s => tk 8 s
  | 2, s => tk 8 (tk 8 s)
  | 3, s => tk 8 (tk 8 (tk 8 s))
  | 4, s => tk 8 (tk 8 (tk 8 (tk 8 s)))
  | 5, s => byS 4096 (tk 8 (tk 8 (tk 8 (tk 8 s))))
  | _, s => lstE 64 (byS 4096 (tk 8 (tk 8 (tk 8 (tk 8 s)))))
noncomputable def takeA (s : List UInt8 × Bool) : IAns :=
  ⟨asInt64 (num (tkL 8 s.1 s.2)), asInt64 (num (tkL 8 (ansS 1 s).1 (ansS 1 s).2)), asInt64 (num (tkL 8 (ansS 2 s).1 (ansS 2 s).2)), asInt64 (num (tkL 8 (ansS 3 s).1 (ansS 3 s).2)), byV 4096 (ansS 4 s), lstX 64 (ansS 5 s)⟩
theorem ansS_len (s : List UInt8 × Bool) : ∀ k, k ≤ 5 → (ansS k s).1.length ≤ s.1.length
  | 0, _ => Nat.le_refl _
  | 1, _ => tk_len _ _
  | 2, _ => Nat.le_trans (tk_len _ _) (tk_len _ _)
  | 3, _ => Nat.le_trans (tk_len _ _) (Nat.le_trans (tk_len _ _) (tk_len _ _))
  | 4, _ => Nat.le_trans (tk_len _ _) (Nat.le_trans (tk_len _ _) (Nat.le_trans (tk_len _ _) (tk_len _ _)))
  | 5, _ => Nat.le_trans (byS_len _ _) (Nat.le_trans (tk_len _ _) (Nat.le_trans (tk_len _ _) (Nat.le_trans (tk_len _ _) (tk_len _ _))))
  | _ + 6, h => absurd h (by omega)
/-- Bytes stay where a block turns that holds none. -/
theorem Rd.past {w w' : World} {B : Nat} {A : Option Addr} {l : List UInt8} (h : Rd w B A l) (hB : B ≤ w.heap.size) {g : Nat} {cs : Array Value} {t : TypeId} {fr : Nat × Nat} (hg : w.heap[g]? = some (.cells cs t fr)) (hno : ∀ x ∈ cs.toList, ∀ z, x ≠ .int .u8 z) (k : Keep (fun i => i = g) w w') : Rd w' B A l := fun j b hj => by
  obtain ⟨a, rfl, hb, hc⟩ := h j b hj
  exact ⟨a, rfl, hb, (k.cell (by rw [block_add]; omega) (by rw [block_add]; exact h.far hg hno j (List.getElem?_eq_some_iff.1 hj).1 a rfl)).trans hc⟩
theorem RdE.past {w w' : World} {g B : Nat} {s : List UInt8 × Bool} {A : Option Addr} {l : List UInt8} (h : RdE w g s) (hr : Rd w B A l) (hB : B ≤ w.heap.size) (k : Keep (fun i => i = g) w w') : Rd w' B A l := by
  obtain ⟨A0, c, h⟩ := h
  exact hr.past hB h.block Rr.no k
theorem Strs.past {w w' : World} {A : Option Addr} {xs : List ByteArray} {g : Nat} (h : Strs w w.heap.size A xs) (k : Keep (fun i => i = g) w w') (hA : ∀ a : Addr, A = some a → g < a.block) : Strs w' w'.heap.size A xs := fun j x hj => by
  obtain ⟨b, o, rfl, hb, hc⟩ := h j x hj
  exact ⟨b, o, rfl, Nat.lt_of_lt_of_le hb k.size, (k.cell (p := ⟨b, o + j, none⟩) hb (by have := hA _ rfl; show ¬ b = g; simp only at this; omega)).trans hc⟩

/-- The cells of an answer that grows, field by field. -/
structure SixA (w : World) (g : Nat) (v0 v1 v2 v3 v4 v5 : Value) : Prop where
  block : w.heap[g]? = some (.cells #[v0, v1, v2, v3, v4, v5] 33)
section
variable {w w' : World} {g : Nat} {v0 v1 v2 v3 v4 v5 : Value}
theorem SixA.lt (h : SixA w g v0 v1 v2 v3 v4 v5) : g < w.heap.size := lt_of_block h.block
theorem SixA.kept {S : Nat → Prop} (h : SixA w g v0 v1 v2 v3 v4 v5) (k : Keep S w w') (hn : ¬ S g) : SixA w' g v0 v1 v2 v3 v4 v5 := ⟨(k.block g h.lt hn).trans h.block⟩
theorem SixA.free (h : SixA w g v0 v1 v2 v3 v4 v5) (i : Nat) : w.frozen? ⟨g, i, none⟩ = false := by simp [World.frozen?, h.block]
theorem SixA.set0 (h : SixA w g v0 v1 v2 v3 v4 v5) (v : Value) : SixA (w.setCell ⟨g, 0, none⟩ v) g v v1 v2 v3 v4 v5 := ⟨heap_setCell_same w g 0 _ _ v h.block⟩
theorem SixA.set1 (h : SixA w g v0 v1 v2 v3 v4 v5) (v : Value) : SixA (w.setCell ⟨g, 1, none⟩ v) g v0 v v2 v3 v4 v5 := ⟨heap_setCell_same w g 1 _ _ v h.block⟩
theorem SixA.set2 (h : SixA w g v0 v1 v2 v3 v4 v5) (v : Value) : SixA (w.setCell ⟨g, 2, none⟩ v) g v0 v1 v v3 v4 v5 := ⟨heap_setCell_same w g 2 _ _ v h.block⟩
theorem SixA.set3 (h : SixA w g v0 v1 v2 v3 v4 v5) (v : Value) : SixA (w.setCell ⟨g, 3, none⟩ v) g v0 v1 v2 v v4 v5 := ⟨heap_setCell_same w g 3 _ _ v h.block⟩
theorem SixA.set4 (h : SixA w g v0 v1 v2 v3 v4 v5) (v : Value) : SixA (w.setCell ⟨g, 4, none⟩ v) g v0 v1 v2 v3 v v5 := ⟨heap_setCell_same w g 4 _ _ v h.block⟩
theorem SixA.set5 (h : SixA w g v0 v1 v2 v3 v4 v5) (v : Value) : SixA (w.setCell ⟨g, 5, none⟩ v) g v0 v1 v2 v3 v4 v := ⟨heap_setCell_same w g 5 _ _ v h.block⟩
theorem SixA.cells (h : SixA w g v0 v1 v2 v3 v4 v5) : w.cell? ⟨g, 0, none⟩ = some v0 ∧ w.cell? ⟨g, 1, none⟩ = some v1 ∧ w.cell? ⟨g, 2, none⟩ = some v2 ∧ w.cell? ⟨g, 3, none⟩ = some v3 ∧ w.cell? ⟨g, 4, none⟩ = some v4 ∧ w.cell? ⟨g, 5, none⟩ = some v5 := six_cells h.block
end
/-- An answer that is being taken: the reader in g, the answer in g1, the result (all noughts still) in g0. -/
structure TkA (w wr : World) (g g0 g1 : Nat) (st : List UInt8 × Bool) (v0 v1 v2 v3 v4 v5 : Value) : Prop where
  rd : RdE wr g st
  six : SixA wr g1 v0 v1 v2 v3 v4 v5
  res : SixA wr g0 (.int .i64 0) (.int .i64 0) (.int .i64 0) (.int .i64 0) (.slice none 0 0) (.slice none 0 0)
  keep : Keep (fun k => k = g) w wr
  lt : g < g0 ∧ g0 < g1 ∧ w.heap.size ≤ g0
  no : ∀ x ∈ [v0, v1, v2, v3, v4, v5], ∀ z, x ≠ .int .u8 z
section
variable {w wr w' : World} {g g0 g1 : Nat} {st st' : List UInt8 × Bool} {v0 v1 v2 v3 v4 v5 : Value}
theorem TkA.kept (h : TkA w wr g g0 g1 st v0 v1 v2 v3 v4 v5) (k : Keep (fun k => k = g) wr w') (r : RdE w' g st') : TkA w w' g g0 g1 st' v0 v1 v2 v3 v4 v5 :=
  ⟨r, h.six.kept k (fun e : g1 = g => by have := h.lt; omega), h.res.kept k (fun e : g0 = g => by have := h.lt; omega), h.keep.trans k (fun _ _ h => h), h.lt, h.no⟩
theorem TkA.stored (h : TkA w wr g g0 g1 st v0 v1 v2 v3 v4 v5) (i : Nat) (v : Value) {u0 u1 u2 u3 u4 u5 : Value} (hs : SixA (wr.setCell ⟨g1, i, none⟩ v) g1 u0 u1 u2 u3 u4 u5) (hn : ∀ x ∈ [u0, u1, u2, u3, u4, u5], ∀ z, x ≠ .int .u8 z) :
    TkA w (wr.setCell ⟨g1, i, none⟩ v) g g0 g1 st u0 u1 u2 u3 u4 u5 :=
  ⟨h.rd.set h.six.block (by simpa using h.no) (by have := h.lt; omega) i v, hs,
    h.res.kept ((Keep.refl (fun k => k = g1) wr).setCell (p := ⟨g1, i, none⟩) (.inr rfl) v) (fun e : g0 = g1 => by have := h.lt; omega),
    h.keep.setCell (p := ⟨g1, i, none⟩) (.inl (by have := h.lt; show _ ≤ g1; omega)) v, h.lt, hn⟩
end
theorem TkA.set0 {w wr : World} {g g0 g1 : Nat} {st : List UInt8 × Bool} {v0 v1 v2 v3 v4 v5 : Value} (h : TkA w wr g g0 g1 st v0 v1 v2 v3 v4 v5) (v : Value) (hv : ∀ z, v ≠ .int .u8 z) : TkA w (wr.setCell ⟨g1, 0, none⟩ v) g g0 g1 st v v1 v2 v3 v4 v5 :=
  h.stored 0 v (h.six.set0 v) fun x hx => by
    have := h.no
    simp only [List.mem_cons, List.not_mem_nil, or_false] at this hx
    rcases hx with rfl | rfl | rfl | rfl | rfl | rfl
    all_goals (first | exact hv | exact this _ (by simp))
theorem TkA.set1 {w wr : World} {g g0 g1 : Nat} {st : List UInt8 × Bool} {v0 v1 v2 v3 v4 v5 : Value} (h : TkA w wr g g0 g1 st v0 v1 v2 v3 v4 v5) (v : Value) (hv : ∀ z, v ≠ .int .u8 z) : TkA w (wr.setCell ⟨g1, 1, none⟩ v) g g0 g1 st v0 v v2 v3 v4 v5 :=
  h.stored 1 v (h.six.set1 v) fun x hx => by
    have := h.no
    simp only [List.mem_cons, List.not_mem_nil, or_false] at this hx
    rcases hx with rfl | rfl | rfl | rfl | rfl | rfl
    all_goals (first | exact hv | exact this _ (by simp))
theorem TkA.set2 {w wr : World} {g g0 g1 : Nat} {st : List UInt8 × Bool} {v0 v1 v2 v3 v4 v5 : Value} (h : TkA w wr g g0 g1 st v0 v1 v2 v3 v4 v5) (v : Value) (hv : ∀ z, v ≠ .int .u8 z) : TkA w (wr.setCell ⟨g1, 2, none⟩ v) g g0 g1 st v0 v1 v v3 v4 v5 :=
  h.stored 2 v (h.six.set2 v) fun x hx => by
    have := h.no
    simp only [List.mem_cons, List.not_mem_nil, or_false] at this hx
    rcases hx with rfl | rfl | rfl | rfl | rfl | rfl
    all_goals (first | exact hv | exact this _ (by simp))
theorem TkA.set3 {w wr : World} {g g0 g1 : Nat} {st : List UInt8 × Bool} {v0 v1 v2 v3 v4 v5 : Value} (h : TkA w wr g g0 g1 st v0 v1 v2 v3 v4 v5) (v : Value) (hv : ∀ z, v ≠ .int .u8 z) : TkA w (wr.setCell ⟨g1, 3, none⟩ v) g g0 g1 st v0 v1 v2 v v4 v5 :=
  h.stored 3 v (h.six.set3 v) fun x hx => by
    have := h.no
    simp only [List.mem_cons, List.not_mem_nil, or_false] at this hx
    rcases hx with rfl | rfl | rfl | rfl | rfl | rfl
    all_goals (first | exact hv | exact this _ (by simp))
theorem TkA.set4 {w wr : World} {g g0 g1 : Nat} {st : List UInt8 × Bool} {v0 v1 v2 v3 v4 v5 : Value} (h : TkA w wr g g0 g1 st v0 v1 v2 v3 v4 v5) (v : Value) (hv : ∀ z, v ≠ .int .u8 z) : TkA w (wr.setCell ⟨g1, 4, none⟩ v) g g0 g1 st v0 v1 v2 v3 v v5 :=
  h.stored 4 v (h.six.set4 v) fun x hx => by
    have := h.no
    simp only [List.mem_cons, List.not_mem_nil, or_false] at this hx
    rcases hx with rfl | rfl | rfl | rfl | rfl | rfl
    all_goals (first | exact hv | exact this _ (by simp))
theorem TkA.set5 {w wr : World} {g g0 g1 : Nat} {st : List UInt8 × Bool} {v0 v1 v2 v3 v4 v5 : Value} (h : TkA w wr g g0 g1 st v0 v1 v2 v3 v4 v5) (v : Value) (hv : ∀ z, v ≠ .int .u8 z) : TkA w (wr.setCell ⟨g1, 5, none⟩ v) g g0 g1 st v0 v1 v2 v3 v4 v :=
  h.stored 5 v (h.six.set5 v) fun x hx => by
    have := h.no
    simp only [List.mem_cons, List.not_mem_nil, or_false] at this hx
    rcases hx with rfl | rfl | rfl | rfl | rfl | rfl
    all_goals (first | exact hv | exact this _ (by simp))
theorem sixA_outs {w wr : World} {g g0 g1 : Nat} {st : List UInt8 × Bool} {v0 v1 v2 v3 v4 v5 : Value} (h : TkA w wr g g0 g1 st v0 v1 v2 v3 v4 v5) :
    RdE ((((((wr.setCell ⟨g0, 0, none⟩ v0).setCell ⟨g0, 1, none⟩ v1).setCell ⟨g0, 2, none⟩ v2).setCell ⟨g0, 3, none⟩ v3).setCell ⟨g0, 4, none⟩ v4).setCell ⟨g0, 5, none⟩ v5) g st ∧
    SixA ((((((wr.setCell ⟨g0, 0, none⟩ v0).setCell ⟨g0, 1, none⟩ v1).setCell ⟨g0, 2, none⟩ v2).setCell ⟨g0, 3, none⟩ v3).setCell ⟨g0, 4, none⟩ v4).setCell ⟨g0, 5, none⟩ v5) g0 v0 v1 v2 v3 v4 v5 ∧
    Keep (fun k => k = g) w ((((((wr.setCell ⟨g0, 0, none⟩ v0).setCell ⟨g0, 1, none⟩ v1).setCell ⟨g0, 2, none⟩ v2).setCell ⟨g0, 3, none⟩ v3).setCell ⟨g0, 4, none⟩ v4).setCell ⟨g0, 5, none⟩ v5) ∧
    (∀ B A l, Rd wr B A l → Rd ((((((wr.setCell ⟨g0, 0, none⟩ v0).setCell ⟨g0, 1, none⟩ v1).setCell ⟨g0, 2, none⟩ v2).setCell ⟨g0, 3, none⟩ v3).setCell ⟨g0, 4, none⟩ v4).setCell ⟨g0, 5, none⟩ v5) B A l) := by
  have hlt := h.lt
  have hno := h.no
  simp only [List.mem_cons, List.not_mem_nil, or_false] at hno
  have n0 := hno v0 (.inl rfl)
  have n1 := hno v1 (.inr (.inl rfl))
  have n2 := hno v2 (.inr (.inr (.inl rfl)))
  have n3 := hno v3 (.inr (.inr (.inr (.inl rfl))))
  have n4 := hno v4 (.inr (.inr (.inr (.inr (.inl rfl)))))
  have hg : g ≠ g0 := by omega
  have S0 := h.res
  have S1 := S0.set0 v0
  have S2 := S1.set1 v1
  have S3 := S2.set2 v2
  have S4 := S3.set3 v3
  have S5 := S4.set4 v4
  have S6 := S5.set5 v5
  have b0 : ∀ x ∈ [Value.int .i64 0, Value.int .i64 0, Value.int .i64 0, Value.int .i64 0, Value.slice none 0 0, Value.slice none 0 0], ∀ z, x ≠ Value.int .u8 z := by intro x hx z he; subst he; simp only [List.mem_cons, List.not_mem_nil, or_false] at hx; rcases hx with hx | hx | hx | hx | hx | hx;  all_goals cases hx
  have b1 : ∀ x ∈ [v0, Value.int .i64 0, Value.int .i64 0, Value.int .i64 0, Value.slice none 0 0, Value.slice none 0 0], ∀ z, x ≠ Value.int .u8 z := by intro x hx z he; subst he; simp only [List.mem_cons, List.not_mem_nil, or_false] at hx; rcases hx with hx | hx | hx | hx | hx | hx; exact n0 _ hx.symm; all_goals cases hx
  have b2 : ∀ x ∈ [v0, v1, Value.int .i64 0, Value.int .i64 0, Value.slice none 0 0, Value.slice none 0 0], ∀ z, x ≠ Value.int .u8 z := by intro x hx z he; subst he; simp only [List.mem_cons, List.not_mem_nil, or_false] at hx; rcases hx with hx | hx | hx | hx | hx | hx; exact n0 _ hx.symm; exact n1 _ hx.symm; all_goals cases hx
  have b3 : ∀ x ∈ [v0, v1, v2, Value.int .i64 0, Value.slice none 0 0, Value.slice none 0 0], ∀ z, x ≠ Value.int .u8 z := by intro x hx z he; subst he; simp only [List.mem_cons, List.not_mem_nil, or_false] at hx; rcases hx with hx | hx | hx | hx | hx | hx; exact n0 _ hx.symm; exact n1 _ hx.symm; exact n2 _ hx.symm; all_goals cases hx
  have b4 : ∀ x ∈ [v0, v1, v2, v3, Value.slice none 0 0, Value.slice none 0 0], ∀ z, x ≠ Value.int .u8 z := by intro x hx z he; subst he; simp only [List.mem_cons, List.not_mem_nil, or_false] at hx; rcases hx with hx | hx | hx | hx | hx | hx; exact n0 _ hx.symm; exact n1 _ hx.symm; exact n2 _ hx.symm; exact n3 _ hx.symm; all_goals cases hx
  have b5 : ∀ x ∈ [v0, v1, v2, v3, v4, Value.slice none 0 0], ∀ z, x ≠ Value.int .u8 z := by intro x hx z he; subst he; simp only [List.mem_cons, List.not_mem_nil, or_false] at hx; rcases hx with hx | hx | hx | hx | hx | hx; exact n0 _ hx.symm; exact n1 _ hx.symm; exact n2 _ hx.symm; exact n3 _ hx.symm; exact n4 _ hx.symm; all_goals cases hx
  have r0 := h.rd.set S0.block b0 hg 0 v0
  have r1 := r0.set S1.block b1 hg 1 v1
  have r2 := r1.set S2.block b2 hg 2 v2
  have r3 := r2.set S3.block b3 hg 3 v3
  have r4 := r3.set S4.block b4 hg 4 v4
  have r5 := r4.set S5.block b5 hg 5 v5
  have hp : w.heap.size ≤ g0 := hlt.2.2
  exact ⟨r5, S6, (((((h.keep.setCell (p := ⟨g0, 0, none⟩) (.inl hp) v0).setCell (p := ⟨g0, 1, none⟩) (.inl hp) v1).setCell (p := ⟨g0, 2, none⟩) (.inl hp) v2).setCell (p := ⟨g0, 3, none⟩) (.inl hp) v3).setCell (p := ⟨g0, 4, none⟩) (.inl hp) v4).setCell (p := ⟨g0, 5, none⟩) (.inl hp) v5,
    fun B A l hr => (((((hr.store S0.block b0 0 v0).store S1.block b1 1 v1).store S2.block b2 2 v2).store S3.block b3 3 v3).store S4.block b4 4 v4).store S5.block b5 5 v5⟩

/-- SixA cells that are stored over. -/
theorem sixA_put {w : World} {g : Nat} {u0 u1 u2 u3 u4 u5 v0 v1 v2 v3 v4 v5 : Value} (S0 : SixA w g u0 u1 u2 u3 u4 u5) (m0 : NoB u0) (m1 : NoB u1) (m2 : NoB u2) (m3 : NoB u3) (m4 : NoB u4) (m5 : NoB u5) (n0 : NoB v0) (n1 : NoB v1) (n2 : NoB v2) (n3 : NoB v3) (n4 : NoB v4) :
    SixA ((((((w.setCell ⟨g, 0, none⟩ v0).setCell ⟨g, 1, none⟩ v1).setCell ⟨g, 2, none⟩ v2).setCell ⟨g, 3, none⟩ v3).setCell ⟨g, 4, none⟩ v4).setCell ⟨g, 5, none⟩ v5) g v0 v1 v2 v3 v4 v5 ∧
    Keep (fun k => k = g) w ((((((w.setCell ⟨g, 0, none⟩ v0).setCell ⟨g, 1, none⟩ v1).setCell ⟨g, 2, none⟩ v2).setCell ⟨g, 3, none⟩ v3).setCell ⟨g, 4, none⟩ v4).setCell ⟨g, 5, none⟩ v5) ∧
    (∀ B A l, Rd w B A l → Rd ((((((w.setCell ⟨g, 0, none⟩ v0).setCell ⟨g, 1, none⟩ v1).setCell ⟨g, 2, none⟩ v2).setCell ⟨g, 3, none⟩ v3).setCell ⟨g, 4, none⟩ v4).setCell ⟨g, 5, none⟩ v5) B A l) ∧
    ((((((w.setCell ⟨g, 0, none⟩ v0).setCell ⟨g, 1, none⟩ v1).setCell ⟨g, 2, none⟩ v2).setCell ⟨g, 3, none⟩ v3).setCell ⟨g, 4, none⟩ v4).setCell ⟨g, 5, none⟩ v5).heap.size = w.heap.size := by
  have S1 := S0.set0 v0
  have S2 := S1.set1 v1
  have S3 := S2.set2 v2
  have S4 := S3.set3 v3
  have S5 := S4.set4 v4
  have S6 := S5.set5 v5
  have key : ∀ {a b c d e f : Value}, NoB a → NoB b → NoB c → NoB d → NoB e → NoB f → ∀ x ∈ (#[a, b, c, d, e, f] : Array Value).toList, ∀ z, x ≠ .int .u8 z := by
    intro a b c d e f ha hb hc hd he hf x hx
    simp only [List.mem_cons, List.not_mem_nil, or_false] at hx
    rcases hx with rfl | rfl | rfl | rfl | rfl | rfl
    · exact ha
    · exact hb
    · exact hc
    · exact hd
    · exact he
    · exact hf
  refine ⟨S6, ?_, fun B A l hr => (((((hr.store S0.block (key m0 m1 m2 m3 m4 m5) 0 v0).store S1.block (key n0 m1 m2 m3 m4 m5) 1 v1).store S2.block (key n0 n1 m2 m3 m4 m5) 2 v2).store S3.block (key n0 n1 n2 m3 m4 m5) 3 v3).store S4.block (key n0 n1 n2 n3 m4 m5) 4 v4).store S5.block (key n0 n1 n2 n3 n4 m5) 5 v5, ?_⟩
  · exact ((((((Keep.refl (fun k => k = g) w).setCell (p := ⟨g, 0, none⟩) (.inr rfl) v0).setCell (p := ⟨g, 1, none⟩) (.inr rfl) v1).setCell (p := ⟨g, 2, none⟩) (.inr rfl) v2).setCell (p := ⟨g, 3, none⟩) (.inr rfl) v3).setCell (p := ⟨g, 4, none⟩) (.inr rfl) v4).setCell (p := ⟨g, 5, none⟩) (.inr rfl) v5
  · simp only [World.setCell, Array.size_modify]

/-- The cells of an answer. -/
def ansV (a : IAns) (A : Option Addr) (c : Nat) (B : Option Addr) (d : Nat) : Array Value := #[.int .i64 a.err, .int .i64 a.kind, .int .i64 a.size, .int .i64 a.links, .slice A a.data.length c, .slice B a.names.length d]
/-- What takeAnswer leaves. -/
def TakesA (g : Nat) (s : List UInt8 × Bool) (w : World) (e : Ending) (w' : World) : Prop :=
  ∃ A c B d, e = .returned (.agg (ansV (takeA s) A c B d)) ∧ Rd w' w'.heap.size A (takeA s).data ∧ Strs w' w'.heap.size B ((takeA s).names.map ba) ∧ (∀ a : Addr, B = some a → w.heap.size ≤ a.block) ∧ RdE w' g (ansS 6 s) ∧ Keep (fun k => k = g) w w'
set_option maxRecDepth 100000 in
set_option maxHeartbeats 2000000 in
theorem take_any_answer (g : Nat) (s : List UInt8 × Bool) (w : World) (h : RdE w g s) (hb : s.1.length ≤ 70368744177664) :
    Calls Tryd.prog 16 #[.pointer (some ⟨g, 0, none⟩)] w (TakesA g s w) := by
  have hglt := h.lt
  obtain ⟨w1, hw1⟩ : ∃ w1, w.alloc (.cells #[.int .i64 0, .int .i64 0, .int .i64 0, .int .i64 0, .slice none 0 0, .slice none 0 0] 33) = w1 := ⟨_, rfl⟩
  obtain ⟨w2, hw2⟩ : ∃ w2, w1.alloc (.cells #[.int .i64 0, .int .i64 0, .int .i64 0, .int .i64 0, .slice none 0 0, .slice none 0 0] 33) = w2 := ⟨_, rfl⟩
  obtain ⟨g0, hg0⟩ : ∃ g0, w.heap.size = g0 := ⟨_, rfl⟩
  obtain ⟨g1, hg1⟩ : ∃ g1, w1.heap.size = g1 := ⟨_, rfl⟩
  have s1 : w1.heap.size = w.heap.size + 1 := by rw [← hw1]; simp
  have k01 : KF w w1 := by rw [← hw1]; exact (KF.refl _).alloc _
  have k12 : KF w1 w2 := by rw [← hw2]; exact (KF.refl _).alloc _
  have k02 := KF.trans k01 k12
  have Q0 : SixA w1 g0 (.int .i64 0) (.int .i64 0) (.int .i64 0) (.int .i64 0) (.slice none 0 0) (.slice none 0 0) := ⟨by rw [← hw1, ← hg0]; exact heap_alloc_new w _⟩
  have T2 : TkA w w2 g g0 g1 s (.int .i64 0) (.int .i64 0) (.int .i64 0) (.int .i64 0) (.slice none 0 0) (.slice none 0 0) :=
    ⟨h.kept k02, ⟨by rw [← hw2, ← hg1]; exact heap_alloc_new w1 _⟩, Q0.kept k12 (fun h => h), Keep.mono k02 (fun _ _ h => h.elim), ⟨by omega, by omega, by omega⟩, by simp⟩
  have hws : w.heap.size ≤ w2.heap.size := k02.size
  have HW1 := Lib.hid hw1
  have HW2 := Lib.hid hw2
  have HG0 := Lib.hid hg0
  have HG1 := Lib.hid hg1
  have l1 := ansS_len s 1 (by omega)
  have l2 := ansS_len s 2 (by omega)
  have l3 := ansS_len s 3 (by omega)
  have l4 := ansS_len s 4 (by omega)
  have l5 := ansS_len s 5 (by omega)
  clear Q0 k01 k12 hw1 hw2 hg0 hg1 s1 h k02
  have C1 := Lib.hid (int_e g s w2 T2.rd hb)
  go_enter Tryd.func16, Tryd.ntmps16
  go_upto_region 1 with fail
  rw [HW1.out, HG0.out]
  go_upto_region 2 with fail
  rw [HW2.out, HG1.out]
  clear HW1 HW2 HG0 HG1
  go_wp2_with fail
  refine C1.out.mono ?_
  rintro e w3 ⟨rfl, R3, k3⟩
  have T3 := T2.kept k3 (st' := ansS 1 s) R3
  have HF0 : Hid ((takeA s).err = asInt64 (num (tkL 8 s.1 s.2))) := Lib.hid rfl
  generalize asInt64 (num (tkL 8 s.1 s.2)) = fv0 at *
  have T3' := T3.set0 (.int .i64 fv0) (by simp)
  clear C1 R3 k3 T2
  obtain ⟨p0, p1, p2, p3, p4, p5⟩ := T3.six.cells
  have pf := T3.six.free 0
  have C2 := Lib.hid (int_e g (ansS 1 s) _ T3'.rd (by omega))
  clear T3
  go_wp2_with fail
  refine C2.out.mono ?_
  rintro e w4 ⟨rfl, R4, k4⟩
  have T4 := T3'.kept k4 (st' := ansS 2 s) R4
  have HF1 : Hid ((takeA s).kind = asInt64 (num (tkL 8 (ansS 1 s).1 (ansS 1 s).2))) := Lib.hid rfl
  generalize asInt64 (num (tkL 8 (ansS 1 s).1 (ansS 1 s).2)) = fv1 at *
  have T4' := T4.set1 (.int .i64 fv1) (by simp)
  clear p0 p1 p2 p3 p4 p5 pf C2 R4 k4 T3'
  obtain ⟨p0, p1, p2, p3, p4, p5⟩ := T4.six.cells
  have pf := T4.six.free 1
  have C3 := Lib.hid (int_e g (ansS 2 s) _ T4'.rd (by omega))
  clear T4
  go_wp2_with fail
  refine C3.out.mono ?_
  rintro e w5 ⟨rfl, R5, k5⟩
  have T5 := T4'.kept k5 (st' := ansS 3 s) R5
  have HF2 : Hid ((takeA s).size = asInt64 (num (tkL 8 (ansS 2 s).1 (ansS 2 s).2))) := Lib.hid rfl
  generalize asInt64 (num (tkL 8 (ansS 2 s).1 (ansS 2 s).2)) = fv2 at *
  have T5' := T5.set2 (.int .i64 fv2) (by simp)
  clear p0 p1 p2 p3 p4 p5 pf C3 R5 k5 T4'
  obtain ⟨p0, p1, p2, p3, p4, p5⟩ := T5.six.cells
  have pf := T5.six.free 2
  have C4 := Lib.hid (int_e g (ansS 3 s) _ T5'.rd (by omega))
  clear T5
  go_wp2_with fail
  refine C4.out.mono ?_
  rintro e w6 ⟨rfl, R6, k6⟩
  have T6 := T5'.kept k6 (st' := ansS 4 s) R6
  have HF3 : Hid ((takeA s).links = asInt64 (num (tkL 8 (ansS 3 s).1 (ansS 3 s).2))) := Lib.hid rfl
  generalize asInt64 (num (tkL 8 (ansS 3 s).1 (ansS 3 s).2)) = fv3 at *
  have T6' := T6.set3 (.int .i64 fv3) (by simp)
  clear p0 p1 p2 p3 p4 p5 pf C4 R6 k6 T5'
  obtain ⟨p0, p1, p2, p3, p4, p5⟩ := T6.six.cells
  have pf := T6.six.free 3
  have C5 := Lib.hid (by_e g (ansS 4 s) 4096 _ T6'.rd (by omega))
  clear T6
  go_wp2_with fail
  refine C5.out.mono ?_
  rintro e w7 ⟨A7, c7, rfl, r7, _, R7, k7⟩
  have T7 := T6'.kept k7 (st' := ansS 5 s) R7
  have HDD : Hid ((takeA s).data = byV 4096 (ansS 4 s)) := Lib.hid rfl
  generalize byV 4096 (ansS 4 s) = dv at *
  have T7' := T7.set4 (.slice A7 dv.length c7) (by simp)
  have r7' : Rd (w7.setCell ⟨g1, 4, none⟩ (.slice A7 dv.length c7)) w7.heap.size A7 dv := r7.store T7.six.block (by simp) 4 _
  clear p0 p1 p2 p3 p4 p5 pf C5 R7 k7 T6' r7
  obtain ⟨p0, p1, p2, p3, p4, p5⟩ := T7.six.cells
  have pf := T7.six.free 4
  have hg1w : g1 < w7.heap.size := T7.six.lt
  have hz8 : (w7.setCell ⟨g1, 4, none⟩ (.slice A7 dv.length c7)).heap.size = w7.heap.size := by simp [World.setCell]
  obtain ⟨q, hq, RQ⟩ := T7'.rd.q
  have C6 := Lib.hid (list_any g q (ansS 5 s) 64 _ RQ (by omega) hq (by omega) (by omega))
  have HE : Hid (ansS 6 s = lstE 64 (ansS 5 s)) := Lib.hid rfl
  have HX : Hid ((takeA s).names = lstX 64 (ansS 5 s)) := Lib.hid rfl
  generalize lstX 64 (ansS 5 s) = nm at *
  obtain ⟨w8, hw8⟩ : ∃ w8, w7.setCell ⟨g1, 4, none⟩ (.slice A7 dv.length c7) = w8 := ⟨_, rfl⟩
  rw [hw8] at C6 T7' r7' hz8
  have HW8 := Lib.hid hw8
  clear hw8 RQ T7
  go_upto_region 7 with fail
  rw [HW8.out]
  clear p0 p1 p2 p3 p4 p5 pf HW8
  go_wp2_with fail
  refine C6.out.mono ?_
  rintro e w9 ⟨B9, d9, rfl, S9, _, N9, R9, k9⟩
  have T9 := T7'.kept k9 (st' := ansS 6 s) (by rw [HE.out]; exact R9.e)
  have r9 : Rd w9 w7.heap.size A7 dv := T7'.rd.past r7' (by omega) k9
  have hs9 := k9.size
  have T9' := T9.set5 (.slice B9 nm.length d9) (by simp)
  have r9' : Rd (w9.setCell ⟨g1, 5, none⟩ (.slice B9 nm.length d9)) w7.heap.size A7 dv := r9.store T9.six.block (by simp) 5 _
  have S9' := S9.past (w' := w9.setCell ⟨g1, 5, none⟩ (.slice B9 nm.length d9)) (Keep.ofSet (S := fun i => i = g1) rfl _) (fun a ha => by have := N9 a ha; omega)
  clear C6 R9 k9 T7' r7' r9 S9
  obtain ⟨p0, p1, p2, p3, p4, p5⟩ := T9.six.cells
  have pf := T9.six.free 5
  obtain ⟨w10, hw10⟩ : ∃ w10, w9.setCell ⟨g1, 5, none⟩ (.slice B9 nm.length d9) = w10 := ⟨_, rfl⟩
  have hz10 : w10.heap.size = w9.heap.size := by rw [← hw10]; simp [World.setCell]
  rw [hw10] at T9' r9' S9'
  have HW10 := Lib.hid hw10
  clear hw10
  go_upto_region 9 with fail
  rw [HW10.out]
  obtain ⟨q0, q1, q2, q3, q4, q5⟩ := T9'.six.cells
  have f0 := T9'.res.free 0
  have f1 := T9'.res.free 1
  have f2 := T9'.res.free 2
  have f3 := T9'.res.free 3
  have f4 := T9'.res.free 4
  have f5 := T9'.res.free 5
  obtain ⟨u0, u1, u2, u3, u4, u5⟩ := T9'.res.cells
  have hlt := T9'.lt
  have hne : g0 ≠ g1 := by omega
  have FIN := Lib.hid (sixA_outs T9')
  have FIN2 := Lib.hid (sixA_put (v0 := .int .i64 fv0) (v1 := .int .i64 fv1) (v2 := .int .i64 fv2) (v3 := .int .i64 fv3) (v4 := .slice A7 dv.length c7) (v5 := .slice B9 nm.length d9) T9'.res (by simp [NoB]) (by simp [NoB]) (by simp [NoB]) (by simp [NoB]) (by simp [NoB]) (by simp [NoB]) (by simp [NoB]) (by simp [NoB]) (by simp [NoB]) (by simp [NoB]) (by simp [NoB]))
  clear T9 T9' p0 p1 p2 p3 p4 p5 pf HW10
  go_wp2_with fail
  obtain ⟨e1, e2, e3, e4⟩ := FIN.out
  obtain ⟨_, e6, _, e8⟩ := FIN2.out
  obtain ⟨c0, c1, c2, c3, c4', c5'⟩ := e2.cells
  have hr := e4 _ _ _ r9'
  have hs := S9'.past e6 (fun a ha => by have := N9 a ha; omega)
  clear FIN FIN2 r9' S9' e4 e2 e6
  refine bodyPost_ret (v := .agg #[.int .i64 fv0, .int .i64 fv1, .int .i64 fv2, .int .i64 fv3, .slice A7 dv.length c7, .slice B9 nm.length d9]) (by simp [results, Tryd.results16, go_sem, c0, c1, c2, c3, c4', c5']) rfl ?_
  refine ⟨A7, c7, B9, d9, by unfold ansV; rw [HF0.out, HF1.out, HF2.out, HF3.out, HDD.out, HX.out], ?_, ?_, fun a ha => by have := N9 a ha; omega, e1, e3⟩
  · rw [HDD.out]
    exact hr.more (by omega)
  · rw [HX.out]
    exact hs
end Go.Proofs.YtlkiaghpdjbfeaaDoor

namespace Go.Proofs.YtlkiaghpdjbfeaaDoor
open Go.RowKit

/-- The answer of bytes, if there is one. -/
noncomputable def decA (l : List UInt8) : Option IAns :=
  if l.length < 4 ∨ num (l.drop (l.length - 4)) ≠ crc (l.take (l.length - 4)) then none else if endOf (ansS 6 (l.take (l.length - 4), false)) = 0 then some (takeA (l.take (l.length - 4), false)) else none
/-- What DecodeAnswer leaves. -/
def DecsA (l : List UInt8) (w : World) (e : Ending) (w' : World) : Prop :=
  KF w w' ∧ ((∃ x A c B d, decA l = some x ∧ e = .returned (.tuple #[.agg (ansV x A c B d), .int .i64 0]) ∧ Rd w' w'.heap.size A x.data ∧ Strs w' w'.heap.size B (x.names.map ba) ∧ (∀ a : Addr, B = some a → w.heap.size ≤ a.block)) ∨
    (decA l = none ∧ e = .returned (.tuple #[.agg #[.int .i64 0, .int .i64 0, .int .i64 0, .int .i64 0, .slice none 0 0, .slice none 0 0], .int .i64 3])))
abbrev zans : Array Value := #[.int .i64 0, .int .i64 0, .int .i64 0, .int .i64 0, .slice none 0 0, .slice none 0 0]
set_option maxRecDepth 100000 in
set_option maxHeartbeats 2000000 in
theorem decodeA_gen (A : Option Addr) (l : List UInt8) (n c : Nat) (w : World) (hn : n = l.length) (hc : n ≤ c) (hm : c ≤ maxLen) (hb : l.length ≤ 1000000000) (ht : Tab w) (hr : Rd w w.heap.size A l) :
    Calls Tryd.prog 15 #[.slice A n c, .func (.func 16) #[] #[]] w (DecsA l w) := by
  obtain ⟨w1, hw1⟩ : ∃ w1, w.alloc (.cells zans 33) = w1 := ⟨_, rfl⟩
  obtain ⟨w2, hw2⟩ : ∃ w2, w1.alloc (.cells zans 33) = w2 := ⟨_, rfl⟩
  obtain ⟨g0, hg0⟩ : ∃ g0, w.heap.size = g0 := ⟨_, rfl⟩
  obtain ⟨g1, hg1⟩ : ∃ g1, w1.heap.size = g1 := ⟨_, rfl⟩
  have s1 : w1.heap.size = w.heap.size + 1 := by rw [← hw1]; simp
  have s2 : w2.heap.size = w1.heap.size + 1 := by rw [← hw2]; simp
  have k01 : KF w w1 := by rw [← hw1]; exact (KF.refl _).alloc _
  have k12 : KF w1 w2 := by rw [← hw2]; exact (KF.refl _).alloc _
  have k02 := KF.trans k01 k12
  have Q0 : SixA w1 g0 (.int .i64 0) (.int .i64 0) (.int .i64 0) (.int .i64 0) (.slice none 0 0) (.slice none 0 0) := ⟨by rw [← hw1, ← hg0]; exact heap_alloc_new w _⟩
  have P0 := Q0.kept k12 (fun h => h)
  have P1 : SixA w2 g1 (.int .i64 0) (.int .i64 0) (.int .i64 0) (.int .i64 0) (.slice none 0 0) (.slice none 0 0) := ⟨by rw [← hw2, ← hg1]; exact heap_alloc_new w1 _⟩
  have CU := Lib.hid (unwrap_dec A l n c w2 hn hc hm hb (ht.kept k02 (fun h => h)) ((hr.keepF k02 (Nat.le_refl _)).more k02.size))
  have HW1 := Lib.hid hw1
  have HW2 := Lib.hid hw2
  have HG0 := Lib.hid hg0
  have HG1 := Lib.hid hg1
  have hlt1 : g0 < g1 := by omega
  have hg1l : g1 < w2.heap.size := by omega
  have hwg : w.heap.size ≤ g0 := by omega
  clear Q0 k01 k12 hw1 hw2 hg0 hg1 s1 s2 hn
  go_enter Tryd.func15, Tryd.ntmps15
  go_upto_region 1 with fail
  rw [HW1.out, HG0.out]
  go_upto_region 2 with fail
  rw [HW2.out, HG1.out]
  clear HW1 HW2 HG0 HG1
  go_wp2_with fail
  refine CU.out.mono ?_
  rintro e w3 ⟨k3, ⟨hbad, rfl⟩ | ⟨hgood, A3, c3, rfl, o3, n3⟩⟩
  · have HD : Hid (decA l = none) := Lib.hid (by unfold decA; rw [if_pos hbad])
    have P03 := P0.kept k3 (fun h => h)
    have P13 := P1.kept k3 (fun h => h)
    obtain ⟨q0, q1, q2, q3, q4, q5⟩ := P13.cells
    obtain ⟨u0, u1, u2, u3, u4, u5⟩ := P03.cells
    have f0 := P03.free 0
    have f1 := P03.free 1
    have f2 := P03.free 2
    have f3 := P03.free 3
    have f4 := P03.free 4
    have f5 := P03.free 5
    have hne : g0 ≠ g1 := by omega
    have FIN := Lib.hid (sixA_put (v0 := .int .i64 0) (v1 := .int .i64 0) (v2 := .int .i64 0) (v3 := .int .i64 0) (v4 := .slice none 0 0) (v5 := .slice none 0 0) P03 (by simp [NoB]) (by simp [NoB]) (by simp [NoB]) (by simp [NoB]) (by simp [NoB]) (by simp [NoB]) (by simp [NoB]) (by simp [NoB]) (by simp [NoB]) (by simp [NoB]) (by simp [NoB]))
    have kw3 := KF.trans k02 k3
    clear P03 P13 P0 P1 CU hbad
    go_wp2_with fail
    obtain ⟨e1, e2, _, _⟩ := FIN.out
    obtain ⟨c0, c1, c2, c3, c4, c5⟩ := e1.cells
    clear FIN
    refine bodyPost_ret (v := .tuple #[.agg zans, .int .i64 3]) (by simp [results, Tryd.results15, go_sem, c0, c1, c2, c3, c4, c5]) rfl ?_
    exact ⟨Keep.trans kw3 e2 (fun i hi (h : i = g0) => by omega), .inr ⟨HD.out, rfl⟩⟩
  · have HD : Hid (decA l = if endOf (ansS 6 (l.take (l.length - 4), false)) = 0 then some (takeA (l.take (l.length - 4), false)) else none) := Lib.hid (by unfold decA; rw [if_neg hgood])
    have hk4 : (l.take (l.length - 4)).length = l.length - 4 := by rw [List.length_take]; omega
    have hkb : (l.take (l.length - 4)).length ≤ 1000000000 := by omega
    clear hgood CU ht hr n3
    generalize l.take (l.length - 4) = m at *
    generalize l.length - 4 = mk at *
    have HMK := Lib.hid hk4
    clear hk4
    have CR := Lib.hid (read_any A3 m mk c3 w3 HMK.out.symm (by omega) w3.heap.size o3.rd (Nat.le_refl _))
    have P03 := P0.kept k3 (fun h => h)
    have P13 := P1.kept k3 (fun h => h)
    have kw3 := KF.trans k02 k3
    have hw3g : g1 < w3.heap.size := Nat.lt_of_lt_of_le hg1l k3.size
    clear P0 P1 k02
    go_wp2_with fail
    refine CR.out.mono ?_
    rintro e w4 ⟨g, A4, c4, rfl, r4, hg, k4⟩
    have R4 : RdE w4 g (m, false) := ⟨A4, c4, r4⟩
    have CT := Lib.hid (take_any_answer g (m, false) w4 R4 (by show m.length ≤ _; omega))
    have P04 := P03.kept k4 (fun h => h)
    have P14 := P13.kept k4 (fun h => h)
    have kw4 := KF.trans kw3 k4
    clear P03 P13 CR r4 o3
    go_wp2_with fail
    refine CT.out.mono ?_
    rintro e w5 ⟨A5, c5, B5, d5, rfl, r5, S5, n5, R5, k5⟩
    have P05 := P04.kept k5 (fun h : g0 = g => by omega)
    have P15 := P14.kept k5 (fun h : g1 = g => by omega)
    have kw5 : KF w w5 := Keep.trans kw4 k5 (fun i hi (h : i = g) => by have := kw3.size; omega)
    clear P04 P14 CT R4
    generalize takeA (m, false) = x at *
    have hts : Hid (ansS 6 (m, false) = ansS 6 (m, false)) := Lib.hid rfl
    generalize ansS 6 (m, false) = st at *
    unfold ansV
    generalize hdl : x.data.length = dl at *
    generalize hnl : x.names.length = nl at *
    have HDL := Lib.hid hdl
    have HNL := Lib.hid hnl
    clear hdl hts hnl
    obtain ⟨w6, hw6⟩ : ∃ w6, w5.alloc (.cells #[.int .i64 x.err, .int .i64 x.kind, .int .i64 x.size, .int .i64 x.links, .slice A5 dl c5, .slice B5 nl d5] 33) = w6 := ⟨_, rfl⟩
    obtain ⟨g2, hg2⟩ : ∃ g2, w5.heap.size = g2 := ⟨_, rfl⟩
    have k56 : KF w5 w6 := by rw [← hw6]; exact (KF.refl _).alloc _
    have P26 : SixA w6 g2 (.int .i64 x.err) (.int .i64 x.kind) (.int .i64 x.size) (.int .i64 x.links) (.slice A5 dl c5) (.slice B5 nl d5) := ⟨by rw [← hw6, ← hg2]; exact heap_alloc_new w5 _⟩
    have P06 := P05.kept k56 (fun h => h)
    have P16 := P15.kept k56 (fun h => h)
    have r6 : Rd w6 w5.heap.size A5 x.data := r5.keepF k56 (Nat.le_refl _)
    have S6 : Strs w6 w6.heap.size B5 (x.names.map ba) := S5.kept k56
    have hw4 : g1 < w4.heap.size := by have := k4.size; omega
    have kw6 := KF.trans kw5 k56
    have CE := Lib.hid (end_e g st w6 (R5.kept k56))
    have hg2l : g1 < g2 := by have := k4.size; have := k5.size; omega
    have hs6 := k56.size
    have HW6 := Lib.hid hw6
    have HG2 := Lib.hid hg2
    clear hw6 hg2 P05 P15 r5 R5
    go_upto_region 7 with fail
    rw [HW6.out, HG2.out]
    go_wp2_with fail
    refine CE.out.mono ?_
    rintro e w7 ⟨rfl, rfl⟩
    obtain ⟨u0, u1, u2, u3, u4, u5⟩ := P06.cells
    have f0 := P06.free 0
    have f1 := P06.free 1
    have f2 := P06.free 2
    have f3 := P06.free 3
    have f4 := P06.free 4
    have f5 := P06.free 5
    by_cases hend : endOf st = 0
    · have z1 : (endOf st != 0) = false := by rw [hend]; rfl
      have HD2 : Hid (decA l = some x) := Lib.hid (by rw [HD.out, if_pos hend])
      obtain ⟨q0, q1, q2, q3, q4, q5⟩ := P26.cells
      have hne : g0 ≠ g2 := by omega
      have FIN := Lib.hid (sixA_put (v0 := .int .i64 x.err) (v1 := .int .i64 x.kind) (v2 := .int .i64 x.size) (v3 := .int .i64 x.links) (v4 := .slice A5 dl c5) (v5 := .slice B5 nl d5) P06 (by simp [NoB]) (by simp [NoB]) (by simp [NoB]) (by simp [NoB]) (by simp [NoB]) (by simp [NoB]) (by simp [NoB]) (by simp [NoB]) (by simp [NoB]) (by simp [NoB]) (by simp [NoB]))
      clear P06 P16 P26 CE HD hend
      go_wp2_with fail
      obtain ⟨e1, e2, e3, e4⟩ := FIN.out
      obtain ⟨c0, c1, c2, c3, c4, c5'⟩ := e1.cells
      have hr6 := e3 _ _ _ r6
      have hs6n := S6.past e2 (fun a ha => by have := n5 a ha; omega)
      have hs7 : w5.heap.size ≤ _ := Nat.le_trans hs6 (Nat.le_of_eq e4.symm)
      clear FIN e1 e3
      refine bodyPost_ret (v := .tuple #[.agg #[.int .i64 x.err, .int .i64 x.kind, .int .i64 x.size, .int .i64 x.links, .slice A5 dl c5, .slice B5 nl d5], .int .i64 0]) (by simp [results, Tryd.results15, go_sem, c0, c1, c2, c3, c4, c5']) rfl ?_
      exact ⟨Keep.trans kw6 e2 (fun i hi (h : i = g0) => by omega), .inl ⟨x, A5, c5, B5, d5, HD2.out, by unfold ansV; rw [HDL.out, HNL.out], hr6.more hs7, hs6n, fun a ha => by have := n5 a ha; omega⟩⟩
    · have z1 : (endOf st != 0) = true := bne_iff_ne.2 hend
      have h3 : endOf st = 3 := by unfold endOf at hend ⊢; split at hend <;> simp_all
      have HD2 : Hid (decA l = none) := Lib.hid (by rw [HD.out, if_neg hend])
      obtain ⟨q0, q1, q2, q3, q4, q5⟩ := P16.cells
      have hne : g0 ≠ g1 := by omega
      have FIN := Lib.hid (sixA_put (v0 := .int .i64 0) (v1 := .int .i64 0) (v2 := .int .i64 0) (v3 := .int .i64 0) (v4 := .slice none 0 0) (v5 := .slice none 0 0) P06 (by simp [NoB]) (by simp [NoB]) (by simp [NoB]) (by simp [NoB]) (by simp [NoB]) (by simp [NoB]) (by simp [NoB]) (by simp [NoB]) (by simp [NoB]) (by simp [NoB]) (by simp [NoB]))
      clear P06 P16 P26 CE HD hend z1
      rw [h3]
      clear h3
      go_wp2_with fail
      obtain ⟨e1, e2, _, _⟩ := FIN.out
      obtain ⟨c0, c1, c2, c3, c4, c5'⟩ := e1.cells
      clear FIN
      refine bodyPost_ret (v := .tuple #[.agg zans, .int .i64 3]) (by simp [results, Tryd.results15, go_sem, c0, c1, c2, c3, c4, c5']) rfl ?_
      exact ⟨Keep.trans kw6 e2 (fun i hi (h : i = g0) => by omega), .inr ⟨HD2.out, rfl⟩⟩

set_option maxRecDepth 100000 in
set_option maxHeartbeats 1000000 in
theorem decodeA_any (A : Option Addr) (l : List UInt8) (n c : Nat) (w : World) (hn : n = l.length) (hc : n ≤ c) (hm : c ≤ maxLen) (hb : l.length ≤ 1000000000) (ht : Tab w) (hr : Rd w w.heap.size A l) :
    Calls Tryd.prog 8 #[.slice A n c] w (DecsA l w) := by
  obtain ⟨w1, hw1⟩ : ∃ w1, w.alloc (.cells zans 33) = w1 := ⟨_, rfl⟩
  obtain ⟨g0, hg0⟩ : ∃ g0, w.heap.size = g0 := ⟨_, rfl⟩
  have k01 : KF w w1 := by rw [← hw1]; exact (KF.refl _).alloc _
  have P0 : SixA w1 g0 (.int .i64 0) (.int .i64 0) (.int .i64 0) (.int .i64 0) (.slice none 0 0) (.slice none 0 0) := ⟨by rw [← hw1, ← hg0]; exact heap_alloc_new w _⟩
  have CU := Lib.hid (decodeA_gen A l n c w1 hn hc hm hb (ht.kept k01 (fun h => h)) ((hr.keepF k01 (Nat.le_refl _)).more k01.size))
  have HW1 := Lib.hid hw1
  have HG0 := Lib.hid hg0
  have hwg : w.heap.size ≤ g0 := by omega
  have hg0s : g0 < w1.heap.size := P0.lt
  have hws : w.heap.size ≤ w1.heap.size := k01.size
  clear hw1 hg0 hn
  go_enter Tryd.func8, Tryd.ntmps8
  go_upto_region 1 with fail
  rw [HW1.out, HG0.out]
  clear HW1 HG0
  go_wp2_with fail
  refine CU.out.mono ?_
  rintro e w3 ⟨k3, ⟨x, A3, c3, B3, d3, hx, rfl, r3, S3, n3⟩ | ⟨hx, rfl⟩⟩
  · have HX := Lib.hid hx
    have P03 := P0.kept k3 (fun h => h)
    obtain ⟨u0, u1, u2, u3, u4, u5⟩ := P03.cells
    have f0 := P03.free 0
    have f1 := P03.free 1
    have f2 := P03.free 2
    have f3 := P03.free 3
    have f4 := P03.free 4
    have f5 := P03.free 5
    unfold ansV
    generalize hdl : x.data.length = dl at *
    generalize hnl : x.names.length = nl at *
    have HDL := Lib.hid hdl
    have HNL := Lib.hid hnl
    have FIN := Lib.hid (sixA_put (v0 := .int .i64 x.err) (v1 := .int .i64 x.kind) (v2 := .int .i64 x.size) (v3 := .int .i64 x.links) (v4 := .slice A3 dl c3) (v5 := .slice B3 nl d3) P03 (by simp [NoB]) (by simp [NoB]) (by simp [NoB]) (by simp [NoB]) (by simp [NoB]) (by simp [NoB]) (by simp [NoB]) (by simp [NoB]) (by simp [NoB]) (by simp [NoB]) (by simp [NoB]))
    have kw3 := KF.trans k01 k3
    clear P03 P0 CU hx hdl hnl
    go_wp2_with fail
    obtain ⟨e1, e2, e3, e4⟩ := FIN.out
    obtain ⟨c0, c1, c2, c3', c4, c5⟩ := e1.cells
    have hr6 := e3 _ _ _ r3
    have hs6n := S3.past e2 (fun a ha => by have := n3 a ha; omega)
    have hs7 : w3.heap.size ≤ _ := Nat.le_of_eq e4.symm
    clear FIN e1 e3
    refine bodyPost_ret (v := .tuple #[.agg #[.int .i64 x.err, .int .i64 x.kind, .int .i64 x.size, .int .i64 x.links, .slice A3 dl c3, .slice B3 nl d3], .int .i64 0]) (by simp [results, Tryd.results8, go_sem, c0, c1, c2, c3', c4, c5]) rfl ?_
    exact ⟨Keep.trans kw3 e2 (fun i hi (h : i = g0) => by omega), .inl ⟨x, A3, c3, B3, d3, HX.out, by unfold ansV; rw [HDL.out, HNL.out], hr6.more hs7, hs6n, fun a ha => by have := n3 a ha; omega⟩⟩
  · have HX := Lib.hid hx
    have P03 := P0.kept k3 (fun h => h)
    obtain ⟨u0, u1, u2, u3, u4, u5⟩ := P03.cells
    have f0 := P03.free 0
    have f1 := P03.free 1
    have f2 := P03.free 2
    have f3 := P03.free 3
    have f4 := P03.free 4
    have f5 := P03.free 5
    have FIN := Lib.hid (sixA_put (v0 := .int .i64 0) (v1 := .int .i64 0) (v2 := .int .i64 0) (v3 := .int .i64 0) (v4 := .slice none 0 0) (v5 := .slice none 0 0) P03 (by simp [NoB]) (by simp [NoB]) (by simp [NoB]) (by simp [NoB]) (by simp [NoB]) (by simp [NoB]) (by simp [NoB]) (by simp [NoB]) (by simp [NoB]) (by simp [NoB]) (by simp [NoB]))
    have kw3 := KF.trans k01 k3
    clear P03 P0 CU hx
    go_wp2_with fail
    obtain ⟨e1, e2, _, _⟩ := FIN.out
    obtain ⟨c0, c1, c2, c3', c4, c5⟩ := e1.cells
    clear FIN
    refine bodyPost_ret (v := .tuple #[.agg zans, .int .i64 3]) (by simp [results, Tryd.results8, go_sem, c0, c1, c2, c3', c4, c5]) rfl ?_
    exact ⟨Keep.trans kw3 e2 (fun i hi (h : i = g0) => by omega), .inr ⟨HX.out, rfl⟩⟩
end Go.Proofs.YtlkiaghpdjbfeaaDoor

namespace Go.Proofs.YtlkiaghpdjbfeaaDoor
open Go.RowKit Go.Shelf

/-- An answer as bytes, ahead of its sum. -/
def encA (x : IAns) : List UInt8 := be (u64 x.err) 8 ++ be (u64 x.kind) 8 ++ be (u64 x.size) 8 ++ be (u64 x.links) 8 ++ tx x.data ++ lst tx x.names
theorem put1_any (g : Nat) (v : Value) (l : List UInt8) (p : Txt) (w : World) (hp : p.length ≤ 1000000) (hb : l.length ≤ 35184372088832) (hw : Wr w g v l) :
    Calls Tryd.prog 21 #[.pointer (some ⟨g, 0, none⟩), .string (ba p)] w (Put w g v (l ++ tx p)) := by
  have cv := conv_text
  have hglt := hw.lt
  have hold := hw.own.lt
  have hs : (ba p).data.toList = p := by simp
  have kb := kf_bytes w 5 (ba p)
  have C := Lib.hid fun cc => wbytes_any g v l p (some ⟨w.heap.size, 0, none⟩) p.length cc (Lib.bytesWorld w 5 (ba p)) (hw.kept kb (fun h => h) (fun _ _ h => h)) rfl (by omega) hb (w.heap.size + 1) (by have := rd_bytes w 5 (ba p); rw [hs] at this; exact this) (by rw [Lib.bytesWorld_size]; omega) (by
    rintro x hx _ (h | h)
    · injection hx with hx
      subst hx
      simp only at h
      omega
    · injection hx with hx
      subst hx
      have := hold _ h
      simp only at this
      omega)
  have hsz := ba_size p
  have FIN := Lib.hid fun e Y (h : Put (Lib.bytesWorld w 5 (ba p)) g v (l ++ be p.length 4 ++ p) e Y) => Put.join (v1 := v) (Keep.mono kb (fun _ _ h => h.elim) : Keep (WS g v) w _) (.inl rfl) h
  have e : l ++ tx p = l ++ be p.length 4 ++ p := by unfold tx; rw [List.append_assoc]
  rw [e]
  clear hw hold kb hs e
  generalize l ++ be p.length 4 ++ p = L at *
  generalize p.length = pl at *
  go_enter Tryd.func21, Tryd.ntmps21
  go_wp2_with fail
  refine (C.out _).mono ?_
  intro e Y h
  have h2 := FIN.out _ _ h
  obtain rfl := h.1
  have H2 := Lib.hid h2
  clear h h2 C FIN
  go_wp2
  go_end0
  exact H2.out
/-- A writer that has put, and puts a list more. -/
theorem Wn.list {a w : World} {g : Nat} {l : List UInt8} (h : Wn a w g l) (xs : List Txt) (A : Option Addr) (c B : Nat) (hn : xs.length ≤ 1000) (hx : ∀ p ∈ xs, p.length ≤ 1000000) (hb : l.length ≤ 1000000000) (hr : Strs w B A (xs.map ba)) (hB : B ≤ g) (hBa : B ≤ a.heap.size) :
    Calls Tryd.prog 22 #[.pointer (some ⟨g, 0, none⟩), .slice A xs.length c, .func (.func 21) #[] #[]] w fun e w' => e = .returned (.tuple #[]) ∧ Wn a w' g (l ++ lst tx xs) := by
  have hfl : ∀ ys : List Txt, (∀ p ∈ ys, p.length ≤ 1000000) → (ys.flatMap tx).length ≤ 1000004 * ys.length := by
    intro ys
    induction ys with
    | nil => intro _; simp
    | cons y ys ih =>
      intro hy
      have h1 := ih (fun p hp => hy p (List.mem_cons_of_mem _ hp))
      have h2 := hy y List.mem_cons_self
      rw [List.flatMap_cons, List.length_append, tx_length, List.length_cons]
      omega
  have hlt := h.lt
  refine h.call fun v hw hn0 => putList_any 21 (enters_of Tryd.func21 (by kernel_rfl) rfl) tx xs g v l A xs.length c B w hw rfl (by omega) (fun k => ?_) hr (by omega) (fun i hi => ?_)
    (fun v' l' x X hx' hl' hw' => put1_any g v' l' x X (hx x hx') hl' hw')
  · have h1 := hfl (xs.take k) (fun p hp => hx p (List.mem_of_mem_take hp))
    have h2 : (xs.take k).length ≤ 1000 := by rw [List.length_take]; omega
    simp only [List.length_append, be_length]
    have : 1000004 * (xs.take k).length ≤ 1000004 * 1000 := Nat.mul_le_mul_left _ h2
    omega
  · rintro (h' | h')
    · omega
    · have := hn0 _ h'
      omega
set_option maxRecDepth 100000 in
set_option maxHeartbeats 1000000 in
theorem encodeA1_any (x : IAns) (A C : Option Addr) (c c' B g0 g1 : Nat) (w2 : World) (hd : x.data.length ≤ 1000000) (hn : x.names.length ≤ 1000) (hx : ∀ p ∈ x.names, p.length ≤ 1000000)
    (hb : w2.heap[g0]? = some (.cells #[.int .i64 x.err, .int .i64 x.kind, .int .i64 x.size, .int .i64 x.links, .slice A x.data.length c, .slice C x.names.length c'] 33)) (h01 : g0 < g1) (hg1 : g1 < w2.heap.size) (hr : Rd w2 B A x.data) (hs : Strs w2 B C (x.names.map ba)) (hB : B ≤ g1) (W2 : Wn w2 w2 g1 []) :
    Calls Tryd.prog 18 #[.pointer (some ⟨g1, 0, none⟩), .pointer (some ⟨g0, 0, none⟩)] w2 fun e w' => e = .returned (.tuple #[]) ∧ Wn w2 w' g1 (encA x) := by
  have CELL := Lib.hid fun wx l (h : Wn w2 wx g1 l) => six_cells (((h.keep).block g0 (by omega) (by omega)).trans hb)
  have RD := Lib.hid fun wx l (h : Wn w2 wx g1 l) => show Rd wx B A x.data from hr.below (h.keep.below (B := B) (by omega) (fun i hi he => by omega))
  have SD := Lib.hid fun wx l (h : Wn w2 wx g1 l) => show Strs wx B C (x.names.map ba) from fun j y hj => by
    obtain ⟨b, o, e, hbb, hc⟩ := hs j y hj
    exact ⟨b, o, e, hbb, (h.keep.cell (p := ⟨b, o + j, none⟩) (by show b < _; omega) (by show ¬ b = g1; omega)).trans hc⟩
  have hB2 := Lib.hid (show B ≤ w2.heap.size by omega)
  have HE : Hid (encA x = be (u64 x.err) 8 ++ be (u64 x.kind) 8 ++ be (u64 x.size) 8 ++ be (u64 x.links) 8 ++ tx x.data ++ lst tx x.names) := Lib.hid rfl
  clear hb hr hs
  generalize encA x = EA at *
  obtain ⟨dl, hdl⟩ : ∃ dl, x.data.length = dl := ⟨_, rfl⟩
  obtain ⟨nl, hnl⟩ : ∃ nl, x.names.length = nl := ⟨_, rfl⟩
  have HDL := Lib.hid hdl
  have HNL := Lib.hid hnl
  rw [hdl, hnl] at CELL
  clear hdl hnl
  go_enter Tryd.func18, Tryd.ntmps18
  obtain ⟨c0, c1, c2, c3, c4, c5⟩ := CELL.out _ _ W2
  have C0 := Lib.hid (W2.int x.err (by simp))
  go_wp2_with fail
  refine C0.out.mono ?_
  rintro e w3 ⟨rfl, W3⟩
  clear c0 c1 c2 c3 c4 c5 C0
  obtain ⟨c0, c1, c2, c3, c4, c5⟩ := CELL.out _ _ W3
  have C1 := Lib.hid (W3.int x.kind (by simp [be_length]))
  go_wp2_with fail
  refine C1.out.mono ?_
  rintro e w4 ⟨rfl, W4⟩
  clear c0 c1 c2 c3 c4 c5 C1
  obtain ⟨c0, c1, c2, c3, c4, c5⟩ := CELL.out _ _ W4
  have C2 := Lib.hid (W4.int x.size (by simp [be_length]))
  go_wp2_with fail
  refine C2.out.mono ?_
  rintro e w5 ⟨rfl, W5⟩
  clear c0 c1 c2 c3 c4 c5 C2
  obtain ⟨c0, c1, c2, c3, c4, c5⟩ := CELL.out _ _ W5
  have C3 := Lib.hid (W5.int x.links (by simp [be_length]))
  go_wp2_with fail
  refine C3.out.mono ?_
  rintro e w6 ⟨rfl, W6⟩
  clear c0 c1 c2 c3 c4 c5 C3
  obtain ⟨c0, c1, c2, c3, c4, c5⟩ := CELL.out _ _ W6
  have C4 := Lib.hid (W6.bytes A x.data c (by omega) (by simp [be_length]) B (RD.out _ _ W6) hB hB2.out)
  rw [HDL.out] at C4
  go_wp2_with fail
  refine C4.out.mono ?_
  rintro e w7 ⟨rfl, W7⟩
  clear c0 c1 c2 c3 c4 c5 C4
  obtain ⟨c0, c1, c2, c3, c4, c5⟩ := CELL.out _ _ W7
  have C5 := Lib.hid (W7.list x.names C c' B hn hx (by simp [be_length, tx_length]; omega) (SD.out _ _ W7) hB hB2.out)
  rw [HNL.out] at C5
  go_wp2_with fail
  refine C5.out.mono ?_
  rintro e w8 ⟨rfl, W8⟩
  rw [List.nil_append, ← HE.out] at W8
  clear c0 c1 c2 c3 c4 c5 C5
  go_wp2
  go_end0
  exact ⟨rfl, W8⟩
theorem lst_length (xs : List Txt) (m : Nat) (hx : ∀ p ∈ xs, p.length ≤ m) : (lst tx xs).length ≤ 4 + (4 + m) * xs.length := by
  have h : ∀ ys : List Txt, (∀ p ∈ ys, p.length ≤ m) → (ys.flatMap tx).length ≤ (4 + m) * ys.length := by
    intro ys
    induction ys with
    | nil => intro _; simp
    | cons y ys ih =>
      intro hy
      have h1 := ih (fun p hp => hy p (List.mem_cons_of_mem _ hp))
      have h2 := hy y List.mem_cons_self
      rw [List.flatMap_cons, List.length_append, tx_length, List.length_cons, Nat.mul_succ]
      omega
  unfold lst
  rw [List.length_append, be_length]
  have := h xs hx
  omega
set_option maxRecDepth 100000 in
set_option maxHeartbeats 1000000 in
theorem encodeA_any (x : IAns) (A C : Option Addr) (c c' : Nat) (w : World) (ht : Tab w) (hd : x.data.length ≤ 1000000) (hn : x.names.length ≤ 1000) (hx : ∀ p ∈ x.names, p.length ≤ 1000000) (hr : Rd w w.heap.size A x.data) (hs : Strs w w.heap.size C (x.names.map ba)) :
    Calls Tryd.prog 9 #[.agg #[.int .i64 x.err, .int .i64 x.kind, .int .i64 x.size, .int .i64 x.links, .slice A x.data.length c, .slice C x.names.length c']] w (Fresh w ((encA x).length + 4) (wrapB (encA x))) := by
  obtain ⟨w1, hw1⟩ : ∃ w1, w.alloc (.cells #[.int .i64 x.err, .int .i64 x.kind, .int .i64 x.size, .int .i64 x.links, .slice A x.data.length c, .slice C x.names.length c'] 33) = w1 := ⟨_, rfl⟩
  obtain ⟨g0, hg0⟩ : ∃ g0, w.heap.size = g0 := ⟨_, rfl⟩
  have s1 : w1.heap.size = w.heap.size + 1 := by rw [← hw1]; simp
  have b1 : w1.heap[g0]? = some (.cells #[.int .i64 x.err, .int .i64 x.kind, .int .i64 x.size, .int .i64 x.links, .slice A x.data.length c, .slice C x.names.length c'] 33) := by rw [← hw1, ← hg0]; exact heap_alloc_new w _
  have k01 : KF w w1 := by rw [← hw1]; exact (KF.refl _).alloc _
  have hencl : (encA x).length ≤ 1002000000 := by
    have h1 := lst_length x.names 1000000 hx
    have h2 : (4 + 1000000) * x.names.length ≤ (4 + 1000000) * 1000 := Nat.mul_le_mul_left _ hn
    unfold encA
    simp only [List.length_append, tx_length, be_length]
    omega
  have CC := Lib.hid (sput_any 18 #[.pointer (some ⟨g0, 0, none⟩)] (encA x) w1 (enters_of Tryd.func18 (by kernel_rfl) rfl) (by omega) (ht.kept k01 (fun h => h))
    fun w2 g k02 hg hlt W2 => encodeA1_any x A C c c' w.heap.size g0 g w2 hd hn hx ((k02.block g0 (by omega) (fun h => h)).trans b1) (by omega) hlt ((hr.keepF k01 (Nat.le_refl _)).keepF k02 k01.size) (((hs.keep (Nat.le_refl _) k01).keep k01.size k02)) (by omega) W2)
  have HW1 := Lib.hid hw1
  have HG0 := Lib.hid hg0
  clear b1 hw1 hg0 s1 ht hr hs hencl hx hn hd
  generalize (encA x).length = ll at *
  generalize wrapB (encA x) = L at *
  generalize x.data.length = dl at *
  generalize x.names.length = nl at *
  have hmf : ∀ (fn : Fn) (first cap : Array Value) (w : World), (Instr.makeFunc fn first cap).run Tryd.prog w = .ok (.func fn first cap) w := fun fn first cap w => rfl
  go_enter Tryd.func9, Tryd.ntmps9
  go_upto_region 1 with fail
  rw [HW1.out, HG0.out]
  go_wp2_with fail
  refine CC.out.mono ?_
  rintro e w9 ⟨A9, c9, rfl, o9, n9, k9⟩
  go_wp2
  go_ret
  exact ⟨A9, c9, rfl, o9, n9.older k01.size, KF.trans k01 k9⟩
end Go.Proofs.YtlkiaghpdjbfeaaDoor

namespace Go.Proofs.YtlkiaghpdjbfeaaDoor
open Go.RowKit

/-- A call that may be read. -/
structure CallSm (c : TCall) : Prop extends CallOk c where
  path3 : c.path.length ≤ 300
  other3 : c.other.length ≤ 300
  data4 : c.data.length ≤ 4096
theorem take_enc {c : TCall} (h : CallSm c) : takeC (encC c, false) = c ∧ takeS 6 (encC c, false) = ([], false) := by
  have e : encC c = [b8 c.kind] ++ (tx c.path ++ (tx c.other ++ (be (u64 c.off) 8 ++ (be (u64 c.n) 8 ++ (tx c.data ++ []))))) := by unfold encC; simp only [List.append_assoc, List.append_nil]
  rw [e]
  have t1 : tk 1 ([b8 c.kind] ++ (tx c.path ++ (tx c.other ++ (be (u64 c.off) 8 ++ (be (u64 c.n) 8 ++ (tx c.data ++ []))))), false) = _ := tk_front rfl
  obtain ⟨p1, p2⟩ := by_front (most := 300) (r := tx c.other ++ (be (u64 c.off) 8 ++ (be (u64 c.n) 8 ++ (tx c.data ++ [])))) h.path (by have := h.path3; omega)
  obtain ⟨o1, o2⟩ := by_front (most := 300) (r := be (u64 c.off) 8 ++ (be (u64 c.n) 8 ++ (tx c.data ++ []))) h.other (by have := h.other3; omega)
  obtain ⟨f1, f2⟩ := int_front (r := be (u64 c.n) 8 ++ (tx c.data ++ [])) h.off
  obtain ⟨n1, n2⟩ := int_front (r := tx c.data ++ []) h.n
  obtain ⟨d1, d2⟩ := by_front (most := 4096) (r := []) h.data (by have := h.data4; omega)
  have k1 : ((num (tkL 1 ([b8 c.kind] ++ (tx c.path ++ (tx c.other ++ (be (u64 c.off) 8 ++ (be (u64 c.n) 8 ++ (tx c.data ++ [])))))) false) : Nat) : Int) = c.kind := by
    rw [tkL_front (n := 1) (l := [b8 c.kind]) rfl]
    show ((0 * 256 + (b8 c.kind).toNat : Nat) : Int) = c.kind
    rw [b8_toNat]
    have := h.kind
    omega
  constructor
  · unfold takeC
    simp only [takeS]
    rw [t1, p1, p2, o1, o2, f2, n2, d1, k1]
    simp only
    rw [f1, n1]
  · simp only [takeS]
    rw [t1, p2, o2, f2, n2, d2]
theorem dec_enc {c : TCall} (h : CallSm c) : decC (wrapB (encC c)) = some c := by
  unfold decC
  have hl : (wrapB (encC c)).length - 4 = (encC c).length := by rw [wrapB_length]; omega
  have ht : (wrapB (encC c)).take (encC c).length = encC c := List.take_left
  have hd : (wrapB (encC c)).drop (encC c).length = be (crc (encC c)) 4 := List.drop_left
  rw [hl, ht, hd, num_be4 _ (crc_lt _), if_neg (by rw [wrapB_length]; rintro (h | h); omega; exact h rfl)]
  obtain ⟨h1, h2⟩ := take_enc h
  rw [h2, h1]
  rfl
end Go.Proofs.YtlkiaghpdjbfeaaDoor

namespace Go.Proofs.YtlkiaghpdjbfeaaDoor
open Go.RowKit

def I64 (z : Int) : Prop := -9223372036854775808 ≤ z ∧ z ≤ 9223372036854775807
/-- The ints of an answer are Go's. -/
def IntsA (x : IAns) : Prop := I64 x.err ∧ I64 x.kind ∧ I64 x.size ∧ I64 x.links
/-- An answer that may be read. -/
structure AnsSm (x : IAns) : Prop where
  ints : IntsA x
  data : x.data.length ≤ 4096
  names : x.names.length ≤ 64
  each : ∀ p ∈ x.names, p.length ≤ 300
theorem lst_at (r : List UInt8) : ∀ (k : Nat) (xs : List Txt), (∀ p ∈ xs, p.length ≤ 300) → k ≤ xs.length → lstS k (xs.flatMap tx ++ r, false) = ((xs.drop k).flatMap tx ++ r, false)
  | 0, xs, _, _ => by simp [lstS]
  | k + 1, xs, hx, hk => by
    have ih := lst_at r k xs hx (by omega)
    have hd : xs.drop k = xs[k] :: xs.drop (k + 1) := List.drop_eq_getElem_cons (by omega)
    show byS 300 (lstS k (xs.flatMap tx ++ r, false)) = _
    rw [ih, hd, List.flatMap_cons, List.append_assoc]
    have hl := hx xs[k] (List.getElem_mem (by omega))
    exact (by_front (most := 300) (by omega) (by omega)).2
theorem lst_val (r : List UInt8) (xs : List Txt) (hx : ∀ p ∈ xs, p.length ≤ 300) (k : Nat) (hk : k < xs.length) : lstV k (xs.flatMap tx ++ r, false) = xs[k] := by
  unfold lstV
  rw [lst_at r k xs hx (by omega)]
  have hd : xs.drop k = xs[k] :: xs.drop (k + 1) := List.drop_eq_getElem_cons (by omega)
  rw [hd, List.flatMap_cons, List.append_assoc]
  have hl := hx xs[k] (List.getElem_mem (by omega))
  exact (by_front (most := 300) (by omega) (by omega)).1
theorem lst_front {xs : List Txt} {r : List UInt8} (hx : ∀ p ∈ xs, p.length ≤ 300) (hn : xs.length ≤ 64) : lstX 64 (lst tx xs ++ r, false) = xs ∧ lstE 64 (lst tx xs ++ r, false) = (r, false) := by
  unfold lst
  rw [List.append_assoc]
  obtain ⟨h1, h2⟩ := cnt_front (n := xs.length) (most := 64) (r := xs.flatMap tx ++ r) (by omega) (by omega)
  have he : lstS xs.length (xs.flatMap tx ++ r, false) = (r, false) := by
    rw [lst_at r xs.length xs hx (Nat.le_refl _)]
    simp
  have hN : lstN xs.length (xs.flatMap tx ++ r, false) = xs := by
    unfold lstN
    apply List.ext_getElem
    · simp
    · intro i h3 h4
      simp only [List.getElem_map, List.getElem_range]
      exact lst_val r xs hx i h4
  unfold lstX lstE
  rw [h1, h2, he, hN]
  simp
theorem take_encA {x : IAns} (h : AnsSm x) : takeA (encA x, false) = x ∧ ansS 6 (encA x, false) = ([], false) := by
  obtain ⟨⟨i1, i2, i3, i4⟩, hd, hn, hx⟩ := h
  have e : encA x = be (u64 x.err) 8 ++ (be (u64 x.kind) 8 ++ (be (u64 x.size) 8 ++ (be (u64 x.links) 8 ++ (tx x.data ++ (lst tx x.names ++ []))))) := by unfold encA; simp only [List.append_assoc, List.append_nil]
  rw [e]
  obtain ⟨a1, a2⟩ := int_front (z := x.err) (r := be (u64 x.kind) 8 ++ (be (u64 x.size) 8 ++ (be (u64 x.links) 8 ++ (tx x.data ++ (lst tx x.names ++ []))))) i1
  obtain ⟨b1, b2⟩ := int_front (z := x.kind) (r := be (u64 x.size) 8 ++ (be (u64 x.links) 8 ++ (tx x.data ++ (lst tx x.names ++ [])))) i2
  obtain ⟨c1, c2⟩ := int_front (z := x.size) (r := be (u64 x.links) 8 ++ (tx x.data ++ (lst tx x.names ++ []))) i3
  obtain ⟨d1, d2⟩ := int_front (z := x.links) (r := tx x.data ++ (lst tx x.names ++ [])) i4
  obtain ⟨e1, e2⟩ := by_front (most := 4096) (l := x.data) (r := lst tx x.names ++ []) (by omega) (by omega)
  obtain ⟨f1, f2⟩ := lst_front (r := []) hx hn
  constructor
  · unfold takeA
    simp only [ansS]
    rw [a2, b2, c2, d2, e2, f1, e1]
    simp only
    rw [a1, b1, c1, d1]
  · simp only [ansS]
    rw [a2, b2, c2, d2, e2, f2]
theorem dec_encA {x : IAns} (h : AnsSm x) : decA (wrapB (encA x)) = some x := by
  unfold decA
  have hl : (wrapB (encA x)).length - 4 = (encA x).length := by rw [wrapB_length]; omega
  have ht : (wrapB (encA x)).take (encA x).length = encA x := List.take_left
  have hd : (wrapB (encA x)).drop (encA x).length = be (crc (encA x)) 4 := List.drop_left
  rw [hl, ht, hd, num_be4 _ (crc_lt _), if_neg (by rw [wrapB_length]; rintro (h | h); omega; exact h rfl)]
  obtain ⟨h1, h2⟩ := take_encA h
  rw [h2, h1]
  rfl
end Go.Proofs.YtlkiaghpdjbfeaaDoor

namespace Go.Proofs.YtlkiaghpdjbfeaaDoor
open Go.RowKit

/-- How many entries a directory has at most. -/
def EN (t : Tr) (k : Nat) : Prop := ∀ n, (t n).entries.length ≤ k
theorem EN.new : EN newT 0 := fun n => by unfold newT; split <;> exact Nat.le_refl _
theorem EN.mono {t : Tr} {k j : Nat} (h : EN t k) (hk : k ≤ j) : EN t j := fun n => Nat.le_trans (h n) hk
theorem EN.set {t : Tr} {k : Nat} (h : EN t k) (n : Nat) (x : TNode) (hx : x.entries.length ≤ k) : EN (t.set n x) k := fun m => by
  unfold Tr.set
  split
  · exact hx
  · exact h m
theorem EN.rows {t : Tr} {k : Nat} (h : EN t k) (n : Nat) (es : Row) (hx : es.length ≤ k) : EN (t.rows n es) k := h.set n _ hx
theorem EN.bytes {t : Tr} {k : Nat} (h : EN t k) (n : Nat) (b : Txt) : EN (t.bytes n b) k := h.set n _ (h n)
theorem drop_le (es : Row) (x : Txt) : (drop es x).length ≤ es.length := List.length_filter_le _ _
theorem EN.unlinked {t : Tr} {k : Nat} (h : EN t k) (a p : Nat) (x : Txt) : EN (unlinked t a p x) k := by
  unfold Proofs.YtlkiaghpdjbfeaaDoor.unlinked
  refine EN.set (h.rows p _ (Nat.le_trans (drop_le _ _) (h p))) a _ ?_
  split
  · exact Nat.zero_le _
  · exact h a
theorem EN.put {t : Tr} {k : Nat} (h : EN t k) (d : Nat) (x : Txt) (n : Nat) : EN (t.rows d (put (t d).entries x n)) (k + 1) :=
  (h.mono (Nat.le_succ k)).rows d _ (by rw [put_length]; exact Nat.succ_le_succ (h d))
theorem doT_ents {t : Tr} {k : Nat} (h : EN t k) (c : TCall) : EN (doT t c).2 (k + 1) := by
  have h' := h.mono (Nat.le_succ k)
  have hmake : ∀ kind, EN (doMake t kind c.path).2 (k + 1) := fun kind => by
    unfold doMake
    split
    · exact h'
    · next d x _ =>
      split
      · exact h'
      · next n _ => exact (h'.set n ⟨kind, 1, [], []⟩ (Nat.zero_le _)).rows d _ (by rw [put_length]; exact Nat.succ_le_succ (h d))
  refine doT_cases t c (fun r => EN r.2 (k + 1)) (fun _ => hmake 1) ?_ (fun _ => hmake 2) ?_ ?_ ?_ ?_ ?_ ?_ ?_ ?_ (fun _ => h') (fun _ => h')
  · intro _
    unfold doRmdir
    split
    · exact h'
    · split
      · exact h'
      · split
        · exact h'
        · exact h'.unlinked _ _ _
  · intro _
    unfold doUnlink
    split
    · exact h'
    · split
      · exact h'
      · exact h'.unlinked _ _ _
  · intro _
    unfold doLink
    split
    · exact h'
    · split
      · exact h'
      · split
        · exact h'
        · exact (h.put _ _ _).set _ _ (h' _)
  · intro _
    unfold doRename
    split
    · exact h'
    · split
      · exact h'
      · split
        · exact h'
        · split
          · exact h'
          · exact (h.rows _ _ (Nat.le_trans (drop_le _ _) (h _))).put _ _ _
  · intro _
    unfold doWrite
    split
    · exact h'
    · split
      · exact h'
      · split
        · exact h'
        · exact h'.bytes _ _
  · intro _
    unfold doRead
    split
    · exact h'
    · split
      · exact h'
      · exact h'
  · intro _
    unfold doCut
    split
    · exact h'
    · split
      · exact h'
      · split
        · exact h'
        · exact h'.bytes _ _
  · intro _
    unfold doStat
    split
    · exact h'
    · exact h'
  · intro _
    unfold doList
    split
    · exact h'
    · split
      · exact h'
      · exact h'

/-- An error's number is small. -/
def E27 {α : Type} (x : Except Nat α) : Prop := ∀ e, x = .error e → e ≤ 27
theorem E27.walk (t : Tr) : ∀ (ns : List Txt) (n : Nat), E27 (walk t n ns)
  | [], _ => fun e h => by cases h
  | x :: r, n => fun e h => by
    unfold Proofs.YtlkiaghpdjbfeaaDoor.walk at h
    split at h
    · cases h; decide
    · split at h
      · cases h; decide
      · exact E27.walk t r _ e h
theorem E27.find (t : Tr) (s : Txt) : E27 (find t s) := fun e h => by
  unfold Proofs.YtlkiaghpdjbfeaaDoor.find at h
  split at h
  · cases h; decide
  · exact E27.walk t _ _ e h
theorem E27.place (t : Tr) (s : Txt) : E27 (place t s) := fun e h => by
  unfold Proofs.YtlkiaghpdjbfeaaDoor.place at h
  split at h
  · cases h; decide
  · cases h; decide
  · split at h
    · next e' he => cases h; exact E27.walk t _ _ _ he
    · split at h
      · cases h; decide
      · split at h
        · cases h; decide
        · cases h
theorem E27.findUp (t : Tr) (s : Txt) : E27 (findUp t s) := fun e h => by
  unfold Proofs.YtlkiaghpdjbfeaaDoor.findUp at h
  split at h
  · cases h; decide
  · cases h; decide
  · split at h
    · next e' he => cases h; exact E27.walk t _ _ _ he
    · split at h
      · next e' he => cases h; exact E27.walk t _ _ _ he
      · cases h
theorem E27.findFile (t : Tr) (s : Txt) : E27 (findFile t s) := fun e h => by
  unfold Proofs.YtlkiaghpdjbfeaaDoor.findFile at h
  split at h
  · next e' he => cases h; exact E27.find t _ _ he
  · split at h
    · cases h; decide
    · cases h
/-- An answer without anything but an error. -/
def A27 (r : TAns) : Prop := r.err ≤ 27 ∧ BareA r
theorem A27.err {e : Nat} (h : e ≤ 27) : A27 (errA e) := ⟨h, BareA.err e⟩
theorem A27.ok : A27 okA := ⟨by decide, BareA.ok⟩
/-- What an answer of a tree is. -/
def AnsB (t : Tr) (r : TAns) : Prop := A27 r ∨ (r.err = 0 ∧ ((r.kind = 0 ∧ r.size = 0 ∧ r.links = 0 ∧ r.names = [] ∧ r.data.length ≤ 256) ∨ (∃ a, r.kind = (t a).kind ∧ r.size = (t a).data.length + (t a).entries.length ∧ r.links = (t a).links ∧ r.names = [] ∧ r.data = []) ∨
  (∃ a, r.kind = 0 ∧ r.size = 0 ∧ r.links = 0 ∧ r.data = [] ∧ r.names = (t a).entries.map (·.1))))
theorem doT_ansB (t : Tr) (c : TCall) : AnsB t (doT t c).1 := by
  have hmake : ∀ kind, AnsB t (doMake t kind c.path).1 := fun kind => by
    unfold doMake
    split
    · next e he => exact .inl (A27.err (E27.place t _ _ he))
    · split
      · exact .inl (A27.err (by decide))
      · exact .inl A27.ok
  refine doT_cases t c (fun r => AnsB t r.1) (fun _ => hmake 1) ?_ (fun _ => hmake 2) ?_ ?_ ?_ ?_ ?_ ?_ ?_ ?_ (fun _ => .inl A27.ok) (fun _ => .inl (A27.err (by decide)))
  · intro _
    unfold doRmdir
    split
    · next e he => exact .inl (A27.err (E27.findUp t _ _ he))
    · split
      · exact .inl (A27.err (by decide))
      · split
        · exact .inl (A27.err (by decide))
        · exact .inl A27.ok
  · intro _
    unfold doUnlink
    split
    · next e he => exact .inl (A27.err (E27.findUp t _ _ he))
    · split
      · exact .inl (A27.err (by decide))
      · exact .inl A27.ok
  · intro _
    unfold doLink
    split
    · next e he => exact .inl (A27.err (E27.find t _ _ he))
    · split
      · exact .inl (A27.err (by decide))
      · split
        · next e he => exact .inl (A27.err (E27.place t _ _ he))
        · exact .inl A27.ok
  · intro _
    unfold doRename
    split
    · next e he => exact .inl (A27.err (E27.findUp t _ _ he))
    · split
      · exact .inl A27.ok
      · split
        · exact .inl (A27.err (by decide))
        · split
          · next e he => exact .inl (A27.err (E27.place t _ _ he))
          · exact .inl A27.ok
  · intro _
    unfold doWrite
    split
    · next e he => exact .inl (A27.err (E27.findFile t _ _ he))
    · split
      · exact .inl (A27.err (by decide))
      · split
        · exact .inl (A27.err (by decide))
        · exact .inl A27.ok
  · intro _
    unfold doRead
    split
    · next e he => exact .inl (A27.err (E27.findFile t _ _ he))
    · split
      · exact .inl (A27.err (by decide))
      · next hh => exact .inr ⟨rfl, .inl ⟨rfl, rfl, rfl, rfl, by
          show ((List.drop _ _).take _).length ≤ 256
          rw [List.length_take]
          have : ¬ 256 < c.n := fun h => hh (.inr (.inr h))
          omega⟩⟩
  · intro _
    unfold doCut
    split
    · next e he => exact .inl (A27.err (E27.findFile t _ _ he))
    · split
      · exact .inl (A27.err (by decide))
      · split
        · exact .inl (A27.err (by decide))
        · exact .inl A27.ok
  · intro _
    unfold doStat
    split
    · next e he => exact .inl (A27.err (E27.find t _ _ he))
    · next a _ => exact .inr ⟨rfl, .inr (.inl ⟨a, rfl, rfl, rfl, rfl, rfl⟩)⟩
  · intro _
    unfold doList
    split
    · next e he => exact .inl (A27.err (E27.find t _ _ he))
    · next a _ =>
      split
      · exact .inl (A27.err (by decide))
      · exact .inr ⟨rfl, .inr (.inr ⟨a, rfl, rfl, rfl, rfl, rfl⟩)⟩
theorem sum_le (f : Nat → Nat) (k : Nat) (h : ∀ n, f n ≤ k) : ∀ N, ((List.range N).map f).sum ≤ N * k
  | 0 => by simp
  | N + 1 => by
    rw [List.range_succ, List.map_append, List.map_cons, List.map_nil, List.sum_append, List.sum_cons, List.sum_nil, Nat.add_zero, Nat.succ_mul]
    exact Nat.add_le_add (sum_le f k h N) (h N)
theorem links_le {t : Tr} (g : Good t) {k : Nat} (h : EN t k) (n : Nat) : (t n).links ≤ 64 * k + 1 := by
  by_cases hn : n = 0
  · subst hn; rw [g.root.2]; omega
  · by_cases hk : (t n).kind = 0
    · rw [g.void n hk]; exact Nat.zero_le _
    · rw [← (g.count n hn hk).1]
      exact Nat.le_succ_of_le (sum_le _ k (fun m => Nat.le_trans List.countP_le_length (h m)) 64)
theorem data_le {t : Tr} (g : Good t) (a : Nat) : (t a).data.length ≤ 512 := by
  by_cases hk : (t a).kind = 0
  · rw [g.void a hk]; decide
  · rcases g.two hk with h1 | h2
    · rw [(g.dir a h1).2]; decide
    · exact (g.file a h2).2
/-- An answer, as the bytes' one. -/
def toI (r : TAns) : IAns := ⟨(r.err : Int), (r.kind : Int), (r.size : Int), (r.links : Int), r.data, r.names⟩
theorem I64.nat {n : Nat} (h : n ≤ 1000000) : I64 (n : Int) := ⟨by omega, by omega⟩
theorem doT_sm {t : Tr} (g : Good t) {k : Nat} (h : EN t k) (hk : k ≤ 64) (c : TCall) : AnsSm (toI (doT t c).1) := by
  have hB := doT_ansB t c
  generalize (doT t c).1 = r at hB
  rcases hB with ⟨he, h1, h2, h3, h4, h5⟩ | ⟨he, ⟨h1, h2, h3, h4, h5⟩ | ⟨a, h1, h2, h3, h4, h5⟩ | ⟨a, h1, h2, h3, h4, h5⟩⟩
  · exact ⟨⟨I64.nat (by show r.err ≤ _; omega), I64.nat (by show r.kind ≤ _; omega), I64.nat (by show r.size ≤ _; omega), I64.nat (by show r.links ≤ _; omega)⟩, by show r.data.length ≤ _; rw [h4]; decide, by show r.names.length ≤ _; rw [h5]; decide, fun p hp => by
      have hp : p ∈ r.names := hp
      rw [h5] at hp
      cases hp⟩
  · exact ⟨⟨I64.nat (by show r.err ≤ _; omega), I64.nat (by show r.kind ≤ _; omega), I64.nat (by show r.size ≤ _; omega), I64.nat (by show r.links ≤ _; omega)⟩, by show r.data.length ≤ _; omega, by show r.names.length ≤ _; rw [h4]; decide, fun p hp => by
      have hp : p ∈ r.names := hp
      rw [h4] at hp
      cases hp⟩
  · have q1 := g.kinds a
    have q2 := data_le g a
    have q3 := h a
    have q4 := links_le g h a
    exact ⟨⟨I64.nat (by show r.err ≤ _; omega), I64.nat (by show r.kind ≤ _; omega), I64.nat (by show r.size ≤ _; omega), I64.nat (by show r.links ≤ _; omega)⟩, by show r.data.length ≤ _; rw [h5]; decide, by show r.names.length ≤ _; rw [h4]; decide, fun p hp => by
      have hp : p ∈ r.names := hp
      rw [h4] at hp
      cases hp⟩
  · exact ⟨⟨I64.nat (by show r.err ≤ _; omega), I64.nat (by show r.kind ≤ _; omega), I64.nat (by show r.size ≤ _; omega), I64.nat (by show r.links ≤ _; omega)⟩, by show r.data.length ≤ _; rw [h4]; decide, by show r.names.length ≤ _; rw [h5, List.length_map]; exact Nat.le_trans (h a) hk, fun p hp => by
      have hp : p ∈ r.names := hp
      rw [h5, List.mem_map] at hp
      obtain ⟨e, he, rfl⟩ := hp
      have := (g.entry a e he).1.2.2.1
      omega⟩
end Go.Proofs.YtlkiaghpdjbfeaaDoor

namespace Go.Proofs.YtlkiaghpdjbfeaaDoor
open Go.RowKit

set_option maxRecDepth 100000 in
set_option maxHeartbeats 4000000 in
theorem sameAnswerI_one (r : IAns) (A A1 B B1 : Option Addr) (c c1 d d1 : Nat) (w : World) (hd : r.data.length ≤ 1000000) (hn : r.names.length ≤ 1000000) (h1 : Rd w w.heap.size A r.data) (h2 : Strs w w.heap.size B (r.names.map ba)) (h3 : Rd w w.heap.size A1 r.data) (h4 : Strs w w.heap.size B1 (r.names.map ba)) :
    Calls Tryd.prog 10 #[.agg (ansV r A c B d), .agg (ansV r A1 c1 B1 d1)] w fun e w' => e = .returned (.bool true) ∧ KF w w' := by
  have kA : ∀ X Y, KF w ((w.alloc X).alloc Y) := fun X Y => ((KF.refl w).alloc X).alloc Y
  have SB := Lib.hid fun X Y => same_is (c1 := c) (c2 := c1) (w := (w.alloc X).alloc Y) rfl rfl (by omega) (h1.keepF (kA X Y) (Nat.le_refl _)) (h3.keepF (kA X Y) (Nat.le_refl _))
  have ST := Lib.hid fun X Y (nq : Nat) => texts_same B B1 r.names.length r.names.length d d1 r.names r.names (((w.alloc X).alloc Y).drewN nq) rfl rfl (by omega) (by omega) ((h2.kept (kA X Y)).drewN nq) ((h4.kept (kA X Y)).drewN nq)
  clear h1 h2 h3 h4
  unfold ansV
  generalize r.err = e0 at *
  generalize r.kind = e1 at *
  generalize r.size = e2 at *
  generalize r.links = e3 at *
  simp only [decide_true] at ST
  generalize r.data.length = ld at *
  generalize r.names.length = ln at *
  go_enter Tryd.func10, Tryd.ntmps10
  go_wp2_with fail
  refine ((SB.out _ _).out).mono ?_
  rintro e w1 ⟨rfl, nq, rfl⟩
  go_wp2_with fail
  refine (ST.out _ _ nq).mono ?_
  rintro e w2 ⟨rfl, k2⟩
  go_wp2_with fail
  go_ret
  exact ⟨rfl, KF.trans (Keep.drewN (kA _ _) nq) k2⟩
end Go.Proofs.YtlkiaghpdjbfeaaDoor

namespace Go.Proofs.YtlkiaghpdjbfeaaDoor
open Go.RowKit

/-- A path's first name; an empty text, if there is none. -/
def firstN (l : Txt) : Txt := match pathM l with
  | some (p :: _) => p
  | _ => []
theorem first_none {l : Txt} (h : pathM l = none) : firstN l = [] := by unfold firstN; rw [h]
theorem first_nil {l : Txt} (h : pathM l = some []) : firstN l = [] := by unfold firstN; rw [h]
theorem first_cons {l p : Txt} {ps : List Txt} (h : pathM l = some (p :: ps)) : firstN l = p := by unfold firstN; rw [h]
set_option maxHeartbeats 1000000 in
theorem first_any (l : Txt) (w : World) (hs : l.length ≤ 1000000) (he : Env w) : Calls Tryd.prog 29 #[.string (ba l)] w fun e w' => e = .returned (.string (ba (firstN l))) ∧ KF w w' := by
  have CS := Lib.hid (split_any (ba l) w (by rw [ba_size]; exact hs) he)
  go_enter Tryd.func29, Tryd.ntmps29
  go_wp2_with fail
  refine CS.out.mono ?_
  rintro e w1 ⟨k1, ⟨hm, rfl⟩ | ⟨ps, A, c, hm, rfl, hc, hc9, hst⟩⟩
  · have HF := Lib.hid (first_none hm)
    clear hm
    go_wp2_with fail
    go_ret
    exact ⟨by rw [HF.out]; rfl, k1⟩
  · rcases ps with _ | ⟨p, ps⟩
    · have HF := Lib.hid (first_nil hm)
      clear hm
      go_wp2_with fail
      go_ret
      exact ⟨by rw [HF.out]; rfl, k1⟩
    · have HF := Lib.hid (first_cons hm)
      obtain ⟨b, o, rfl, hb, hcell⟩ := World.cellAt hst (n := 0) (by simp)
      simp only [List.map_cons, List.getElem_cons_zero, Nat.add_zero] at hcell
      have hl : (p :: ps).length = ps.length + 1 := rfl
      have z1 : (((ps.length + 1 : Nat) : Int) == 0) = false := beq_eq_false_iff_ne.2 (by omega)
      clear hst hm hc
      rw [hl]
      clear hl
      generalize ps.length = q at *
      have hpos : (0 : Int) < ((q + 1 : Nat) : Int) := by omega
      go_wp2_with fail
      go_ret
      exact ⟨by rw [HF.out]; rfl, k1⟩
/-- Is a call of that kind about Other, too? -/
def isTwo (k : Int) : Bool := k == 5 || k == 6
theorem hasOther_any (k : Int) (w : World) : Calls Tryd.prog 30 #[.int .i64 k] w fun e w' => e = .returned (.bool (isTwo k)) ∧ w' = w := by
  by_cases h5 : k = 5
  · subst h5
    go_enter Tryd.func30, Tryd.ntmps30
    go_wp2_with fail
    go_ret
    exact ⟨rfl, rfl⟩
  · have z5 : (k == 5) = false := beq_eq_false_iff_ne.2 h5
    have hz : Hid (isTwo k = (k == 6)) := Lib.hid (by unfold isTwo; rw [z5]; rfl)
    go_enter Tryd.func30, Tryd.ntmps30
    go_wp2_with fail
    go_ret
    exact ⟨by rw [hz.out]; rfl, rfl⟩
/-- A call's stream. -/
def streamM (c : TCall) : Nat := if c.kind = 12 ∨ firstN c.path = [] then 0 else if isTwo c.kind = true ∧ firstN c.other ≠ firstN c.path then 0 else 1 + crc (firstN c.path) % 7
theorem first_len (l : Txt) : (firstN l).length ≤ 16 := by
  unfold firstN
  split
  · next p ps h => exact ((pathM_some h).2.2 p (by simp)).2.2.1
  · simp
set_option maxRecDepth 100000 in
set_option maxHeartbeats 1000000 in
theorem stream_any (x : TCall) (A : Option Addr) (d c : Nat) (w : World) (ht : Tab w) (he : Env w) (hp : x.path.length ≤ 1000000) (ho : x.other.length ≤ 1000000) :
    Calls Tryd.prog 13 #[.agg #[.int .i64 x.kind, .string (ba x.path), .string (ba x.other), .int .i64 x.off, .int .i64 x.n, .slice A d c]] w fun e w' => e = .returned (.int .i64 (streamM x : Nat)) ∧ KF w w' := by
  obtain ⟨w1, hw1⟩ : ∃ w1, w.alloc (.cells #[.int .i64 x.kind, .string (ba x.path), .string (ba x.other), .int .i64 x.off, .int .i64 x.n, .slice A d c] 28) = w1 := ⟨_, rfl⟩
  obtain ⟨g0, hg0⟩ : ∃ g0, w.heap.size = g0 := ⟨_, rfl⟩
  have b1 : w1.heap[g0]? = some (.cells #[.int .i64 x.kind, .string (ba x.path), .string (ba x.other), .int .i64 x.off, .int .i64 x.n, .slice A d c] 28) := by rw [← hw1, ← hg0]; exact heap_alloc_new w _
  have k01 : KF w w1 := by rw [← hw1]; exact (KF.refl _).alloc _
  have hlt := lt_of_block b1
  have CELL := Lib.hid fun wx (k : KF w1 wx) => six_cells ((k.block g0 hlt (fun h => h)).trans b1)
  have CF := Lib.hid (first_any x.path w1 hp (he.kept k01))
  have CO := Lib.hid fun wx (k : KF w1 wx) => first_any x.other wx ho (he.kept (KF.trans k01 k))
  have HT := Lib.hid fun wx (k : KF w1 wx) => ht.kept (KF.trans k01 k) (fun h => h)
  have HW1 := Lib.hid hw1
  have HG0 := Lib.hid hg0
  have HS : Hid (streamM x = if x.kind = 12 ∨ firstN x.path = [] then 0 else if isTwo x.kind = true ∧ firstN x.other ≠ firstN x.path then 0 else 1 + crc (firstN x.path) % 7) := Lib.hid rfl
  have hfl : (firstN x.path).length ≤ 1000000 := Nat.le_trans (first_len _) (by omega)
  generalize streamM x = sx at *
  generalize firstN x.path = fp at *
  generalize firstN x.other = fo at *
  have cv := conv_text
  clear b1 hw1 hg0 hlt ht he
  go_enter Tryd.func13, Tryd.ntmps13
  go_upto_region 1 with fail
  rw [HW1.out, HG0.out]
  clear HW1 HG0
  obtain ⟨c0, c1, c2, c3, c4, c5⟩ := CELL.out _ (KF.refl w1)
  go_wp2_with fail
  refine CF.out.mono ?_
  rintro e w2 ⟨rfl, k2⟩
  clear c0 c1 c2 c3 c4 c5 CF
  obtain ⟨c0, c1, c2, c3, c4, c5⟩ := CELL.out _ k2
  by_cases h12 : x.kind = 12
  · have z12 : (x.kind == 12) = true := beq_iff_eq.2 h12
    have HS0 : Hid (sx = 0) := Lib.hid (by rw [HS.out, if_pos (.inl h12)])
    clear HS h12
    go_wp2_with fail
    go_ret
    exact ⟨by rw [HS0.out]; rfl, KF.trans k01 k2⟩
  · have z12 : (x.kind == 12) = false := beq_eq_false_iff_ne.2 h12
    by_cases hf : fp = []
    · have HS0 : Hid (sx = 0) := Lib.hid (by rw [HS.out, if_pos (.inr hf)])
      subst hf
      clear HS h12
      go_wp2_with fail
      go_ret
      exact ⟨by rw [HS0.out]; rfl, KF.trans k01 k2⟩
    · have HS1 : Hid (sx = if isTwo x.kind = true ∧ fo ≠ fp then 0 else 1 + crc fp % 7) := Lib.hid (by rw [HS.out, if_neg (by rintro (h | h); exact h12 h; exact hf h)])
      have zf : List.isEmpty fp = false := by
        cases fp
        · exact absurd rfl hf
        · rfl
      clear HS h12 hf
      go_wp2_with fail
      refine (hasOther_any _ _).mono ?_
      rintro e w3 ⟨rfl, rfl⟩
      have TAIL : ∀ w4, KF w1 w4 → Hid (Calls Tryd.prog 31 #[.slice (some ⟨w4.heap.size, 0, none⟩) fp.length (grownCap w4 fp.length 0 5)] (Lib.bytesWorld w4 5 (ba fp)) fun e w' => e = .returned (.int .u32 (crc fp : Nat)) ∧ Lib.bytesWorld w4 5 (ba fp) = w') := fun w4 k4 => by
        have hr := rd_bytes w4 5 (ba fp)
        have e : (ba fp).data.toList = fp := by simp
        rw [e] at hr
        exact Lib.hid (sum_any _ fp fp.length _ _ rfl (by omega) (HT.out _ (KF.trans k4 (kf_bytes w4 _ _))) _ hr)
      have hcl := crc_lt fp
      have hw1 : (1 : Int) + ((crc fp : Nat) : Int) % 7 ≤ 7 := by omega
      by_cases h2 : isTwo x.kind = true
      · have COO := Lib.hid (CO.out _ k2)
        have CSIX := Lib.hid fun wx (k : KF w3 wx) => TAIL wx (KF.trans k2 k)
        by_cases hoo : fo = fp
        · have HS2 : Hid (sx = 1 + crc fp % 7) := Lib.hid (by rw [HS1.out, if_neg (fun h => h.2 hoo)])
          rw [hoo] at COO
          rw [h2]
          clear h2 hoo HS1 TAIL CO
          generalize crc fp = y at *
          go_wp2_with fail
          refine COO.out.mono ?_
          rintro e w5 ⟨rfl, k5⟩
          have TT := Lib.hid (CSIX.out w5 k5)
          go_wp2_with fail
          refine TT.out.out.mono ?_
          rintro e w4 ⟨rfl, rfl⟩
          go_wp2_with fail
          go_ret
          exact ⟨ret_int (by rw [HS2.out]; omega), KF.trans (KF.trans k01 (KF.trans k2 k5)) (kf_bytes _ _ _)⟩
        · have HS2 : Hid (sx = 0) := Lib.hid (by rw [HS1.out, if_pos ⟨h2, hoo⟩])
          have zo : (fo == fp) = false := beq_eq_false_iff_ne.2 hoo
          rw [h2]
          clear h2 hoo HS1 TAIL CO CSIX
          go_wp2_with fail
          refine COO.out.mono ?_
          rintro e w5 ⟨rfl, k5⟩
          go_wp2_with fail
          go_ret
          exact ⟨by rw [HS2.out]; rfl, KF.trans k01 (KF.trans k2 k5)⟩
      · have h2' : isTwo x.kind = false := by simpa using h2
        have HS2 : Hid (sx = 1 + crc fp % 7) := Lib.hid (by rw [HS1.out, if_neg (fun h => h2 h.1)])
        rw [h2']
        have TT := Lib.hid (TAIL w3 k2)
        clear h2 h2' HS1 TAIL
        generalize crc fp = y at *
        go_wp2_with fail
        refine TT.out.out.mono ?_
        rintro e w4 ⟨rfl, rfl⟩
        go_wp2_with fail
        go_ret
        exact ⟨ret_int (by rw [HS2.out]; omega), KF.trans (KF.trans k01 k2) (kf_bytes _ _ _)⟩
end Go.Proofs.YtlkiaghpdjbfeaaDoor

namespace Go.Proofs.YtlkiaghpdjbfeaaDoor
open Go.RowKit

def c127 : TCall := ⟨12, [], [], 0, 7, []⟩
theorem c127_ok : CallSm c127 := ⟨⟨by decide, by decide, by decide, by decide, by decide, by decide⟩, by decide, by decide, by decide⟩
theorem path_a : pathM [47, 97] = some [[97]] := by decide
set_option maxRecDepth 100000 in
set_option maxHeartbeats 2000000 in
theorem speaks5 (w : World) (ht : Tab w) (he : Env w) : Calls Tryd.prog 4 #[] w fun e w' => e = .returned (.bool true) ∧ KF w w' := by
  have CE : Hid (Calls Tryd.prog 12 #[.agg #[.int .i64 12, .string ⟨#[]⟩, .string ⟨#[]⟩, .int .i64 0, .int .i64 7, .slice none 0 0]] w (Fresh w ((encC c127).length + 4) (wrapB (encC c127)))) :=
    Lib.hid (encode_any c127 none 0 0 w ht (by decide) (by decide) (by decide) rfl Rd.nil)
  have CS1 : Hid (∀ wx, KF w wx → Calls Tryd.prog 13 #[.agg #[.int .i64 12, .string ⟨#[47, 97]⟩, .string ⟨#[]⟩, .int .i64 0, .int .i64 0, .slice none 0 0]] wx fun e w' => e = .returned (.int .i64 0) ∧ KF wx w') :=
    Lib.hid fun wx k => stream_any ⟨12, [47, 97], [], 0, 0, []⟩ none 0 0 wx (ht.kept k (fun h => h)) (he.kept k) (by decide) (by decide)
  have CS2 : Hid (∀ wx, KF w wx → Calls Tryd.prog 13 #[.agg #[.int .i64 10, .string ⟨#[47, 97]⟩, .string ⟨#[]⟩, .int .i64 0, .int .i64 0, .slice none 0 0]] wx fun e w' => e = .returned (.int .i64 ((1 + crc [97] % 7 : Nat) : Int)) ∧ KF wx w') :=
    Lib.hid fun wx k => by
      have h := stream_any ⟨10, [47, 97], [], 0, 0, []⟩ none 0 0 wx (ht.kept k (fun h => h)) (he.kept k) (by decide) (by decide)
      have e : streamM ⟨10, [47, 97], [], 0, 0, []⟩ = 1 + crc [97] % 7 := by
        unfold streamM
        simp only [first_cons path_a]
        rfl
      rw [e] at h
      exact h
  have hpos : (0 : Int) < ((1 + crc [97] % 7 : Nat) : Int) := by omega
  generalize 1 + crc [97] % 7 = sn at *
  have HX := Lib.hid (dec_enc c127_ok)
  have HLN := Lib.hid (wrapB_length (encC c127))
  have hln : (encC c127).length ≤ 100 := by rw [encC_length]; decide
  have hnb : (encC c127).length + 4 ≤ 104 := by omega
  clear hln
  generalize wrapB (encC c127) = B at *
  generalize (encC c127).length + 4 = nb at *
  go_enter Tryd.func4, Tryd.ntmps4
  go_wp2_with fail
  refine CE.out.mono ?_
  rintro e w1 ⟨A1, c1, rfl, o1, _, k1⟩
  have hsh := o1.shape
  have CD : Hid (Calls Tryd.prog 11 #[.slice A1 nb c1] w1 (Decs B w1)) := by
    obtain ⟨A', c', e, h1, h2, h3, _⟩ := hsh
    have hn := o1.len
    injection e with e1 e2 e3
    subst e1 e3
    exact Lib.hid (decode_any A1 B nb c1 w1 hn (by omega) h2 (by rw [HLN.out]; omega) (ht.kept k1 (fun h => h)) h3)
  clear hsh CE o1
  go_wp2_with fail
  refine CD.out.mono ?_
  rintro e w2 ⟨k2, ⟨x, A3, c3, hx, rfl, r3⟩ | ⟨hx, rfl⟩⟩
  · rw [HX.out] at hx
    injection hx with hx
    subst hx
    have e0 : (Value.agg #[.int .i64 c127.kind, .string (ba c127.path), .string (ba c127.other), .int .i64 c127.off, .int .i64 c127.n, .slice A3 c127.data.length c3]) = .agg #[.int .i64 12, .string ⟨#[]⟩, .string ⟨#[]⟩, .int .i64 0, .int .i64 7, .slice A3 0 c3] := rfl
    rw [e0]
    clear CD e0 r3 HX
    obtain ⟨w3, hw3⟩ : ∃ w3, w2.alloc (.cells #[.int .i64 12, .string ⟨#[]⟩, .string ⟨#[]⟩, .int .i64 0, .int .i64 7, .slice A3 0 c3] 28) = w3 := ⟨_, rfl⟩
    obtain ⟨g0, hg0⟩ : ∃ g0, w2.heap.size = g0 := ⟨_, rfl⟩
    have b3 : w3.heap[g0]? = some (.cells #[.int .i64 12, .string ⟨#[]⟩, .string ⟨#[]⟩, .int .i64 0, .int .i64 7, .slice A3 0 c3] 28) := by rw [← hw3, ← hg0]; exact heap_alloc_new w2 _
    have k23 : KF w2 w3 := by rw [← hw3]; exact (KF.refl _).alloc _
    have k03 := KF.trans (KF.trans k1 k2) k23
    have hl3 := lt_of_block b3
    have HW3 := Lib.hid hw3
    have HG0 := Lib.hid hg0
    have C4 := Lib.hid fun wx (k : KF w3 wx) => (six_cells ((k.block g0 hl3 (fun h => h)).trans b3)).2.2.2.2.1
    clear hw3 hg0 b3 k1 k2 k23 hl3
    have CA := Lib.hid (CS1.out w3 k03)
    go_upto_region 2 with fail
    rw [HW3.out, HG0.out]
    clear HW3 HG0
    go_wp2_with fail
    refine CA.out.mono ?_
    rintro e w4 ⟨rfl, k4⟩
    have CB := Lib.hid (CS2.out w4 (KF.trans k03 k4))
    go_wp2_with fail
    refine CB.out.mono ?_
    rintro e w5 ⟨rfl, k5⟩
    have c4 := C4.out _ (KF.trans k4 k5)
    go_wp2_with fail
    go_ret
    exact ⟨rfl, KF.trans k03 (KF.trans k4 k5)⟩
  · rw [HX.out] at hx
    cases hx

/-- A call's value. -/
abbrev cval (x : TCall) (A : Option Addr) (d c : Nat) : Value := .agg #[.int .i64 x.kind, .string (ba x.path), .string (ba x.other), .int .i64 x.off, .int .i64 x.n, .slice A d c]
end Go.Proofs.YtlkiaghpdjbfeaaDoor

namespace Go.Proofs.YtlkiaghpdjbfeaaDoor
open Go.RowKit

/-- What is looked at. -/
structure Small5 (x : TCall) (d d1 n3 : Nat) (names : List Txt) : Prop where
  path : x.path.length ≤ 400
  other : x.other.length ≤ 400
  data : d ≤ 5000
  adata : d1 ≤ 5000
  count : names.length ≤ 70
  bytes : n3 ≤ 12000
  each : ∀ p ∈ names, p.length ≤ 400
/-- What great answers. -/
def Greats5 (x : TCall) (d d1 n3 : Nat) (names : List Txt) (w : World) (e : Ending) (w' : World) : Prop := ∃ v, e = .returned (.bool v) ∧ KF w w' ∧ (v = false → Hid (Small5 x d d1 n3 names))
set_option maxRecDepth 100000 in
set_option maxHeartbeats 2000000 in
theorem great5 (x : TCall) (A A1 A2 A3 : Option Addr) (d c d1 c1 n2 c2 n3 c3 : Nat) (ev kv sv lv : Int) (names : List Txt) (w : World) (hn : n2 = names.length) (hs : Strs w w.heap.size A2 (names.map ba)) :
    Calls Tryd.prog 6 #[cval x A d c, .agg #[.int .i64 ev, .int .i64 kv, .int .i64 sv, .int .i64 lv, .slice A1 d1 c1, .slice A2 n2 c2], .slice A3 n3 c3] w (Greats5 x d d1 n3 names w) := by
  obtain ⟨w1, hw1⟩ : ∃ w1, w.alloc (.cells #[.int .i64 x.kind, .string (ba x.path), .string (ba x.other), .int .i64 x.off, .int .i64 x.n, .slice A d c] 28) = w1 := ⟨_, rfl⟩
  obtain ⟨w2, hw2⟩ : ∃ w2, w1.alloc (.cells #[.int .i64 ev, .int .i64 kv, .int .i64 sv, .int .i64 lv, .slice A1 d1 c1, .slice A2 n2 c2] 33) = w2 := ⟨_, rfl⟩
  obtain ⟨g0, hg0⟩ : ∃ g0, w.heap.size = g0 := ⟨_, rfl⟩
  obtain ⟨g1, hg1⟩ : ∃ g1, w1.heap.size = g1 := ⟨_, rfl⟩
  have k01 : KF w w1 := by rw [← hw1]; exact (KF.refl _).alloc _
  have k12 : KF w1 w2 := by rw [← hw2]; exact (KF.refl _).alloc _
  have b1 : w1.heap[g0]? = some (.cells #[.int .i64 x.kind, .string (ba x.path), .string (ba x.other), .int .i64 x.off, .int .i64 x.n, .slice A d c] 28) := by rw [← hw1, ← hg0]; exact heap_alloc_new w _
  have b2 : w2.heap[g1]? = some (.cells #[.int .i64 ev, .int .i64 kv, .int .i64 sv, .int .i64 lv, .slice A1 d1 c1, .slice A2 n2 c2] 33) := by rw [← hw2, ← hg1]; exact heap_alloc_new w1 _
  obtain ⟨p0, p1, p2, p3, p4, p5⟩ := six_cells ((k12.block g0 (lt_of_block b1) (fun h => h)).trans b1)
  obtain ⟨q0, q1, q2, q3, q4, q5⟩ := six_cells b2
  have k02 := KF.trans k01 k12
  have ST := Lib.hid (hs.kept k02)
  have HN := Lib.hid hn
  have HW1 := Lib.hid hw1
  have HW2 := Lib.hid hw2
  have HG0 := Lib.hid hg0
  have hg1' : g1 = g0 + 1 := by rw [← hg1, ← hg0, ← hw1]; simp
  subst hg1'
  clear b1 b2 k01 k12 hw1 hw2 hg0 hg1 hs hn
  have hlp : Hid (x.path.length = (ba x.path).size) := Lib.hid (by rw [ba_size])
  have hlo : Hid (x.other.length = (ba x.other).size) := Lib.hid (by rw [ba_size])
  generalize hpl : x.path.length = lp at *
  generalize hol : x.other.length = lo at *
  have HPL := Lib.hid hpl
  have HOL := Lib.hid hol
  clear hpl hol hlp hlo
  go_enter Tryd.func6, Tryd.ntmps6
  go_upto_region 1 with fail
  rw [HW1.out, HW2.out, HG0.out]
  clear HW1 HW2 HG0
  have hbs1 := ba_size x.path
  have hbs2 := ba_size x.other
  rw [HPL.out] at hbs1
  rw [HOL.out] at hbs2
  by_cases h1 : (400 : Int) < (lp : Int)
  · go_wp2_with fail
    go_ret
    exact ⟨true, rfl, k02, fun h => by cases h⟩
  · by_cases h2 : (400 : Int) < (lo : Int)
    · go_wp2_with fail
      go_ret
      exact ⟨true, rfl, k02, fun h => by cases h⟩
    · by_cases h3 : (5000 : Int) < (d : Int)
      · go_wp2_with fail
        go_ret
        exact ⟨true, rfl, k02, fun h => by cases h⟩
      · by_cases h4 : (5000 : Int) < (d1 : Int)
        · go_wp2_with fail
          go_ret
          exact ⟨true, rfl, k02, fun h => by cases h⟩
        · by_cases h5 : (70 : Int) < (n2 : Int)
          · go_wp2_with fail
            go_ret
            exact ⟨true, rfl, k02, fun h => by cases h⟩
          · by_cases h6 : (12000 : Int) < (n3 : Int)
            · go_wp2_with fail
              go_ret
              exact ⟨true, rfl, k02, fun h => by cases h⟩
            · have HSM : Hid ((∀ p ∈ names, p.length ≤ 400) → Small5 x d d1 n3 names) := Lib.hid fun h => ⟨by rw [HPL.out]; omega, by rw [HOL.out]; omega, by omega, by omega, by rw [← HN.out]; omega, by omega, h⟩
              clear HPL HOL
              go_wp2_with fail
              go_loopg [45] n2 (fun gh i wr => ∃ k : Nat, k ≤ n2 ∧ n2 - k ≤ gh ∧ i = .int .i64 k ∧ wr = w2 ∧ Hid (∀ p ∈ names.take k, p.length ≤ 400))
              case atStart => exact ⟨0, by omega, by omega, rfl, rfl, Lib.hid (by simp)⟩
              case round =>
                obtain ⟨k, hk, hgk, rfl, rfl, HA⟩ := hrel
                rcases Nat.lt_or_ge k n2 with hlt | hge
                · have hlt' : (k : Int) < (n2 : Int) := by omega
                  have q1 : k < names.length := by rw [← HN.out]; exact hlt
                  obtain ⟨b, o, rfl, hb, hcell⟩ := ST.out k (ba names[k]) (by rw [List.getElem?_map, List.getElem?_eq_getElem q1]; rfl)
                  have hsz := ba_size names[k]
                  have HTK : Hid (names.take (k + 1) = names.take k ++ [names[k]]) := Lib.hid (List.take_succ_eq_append_getElem q1)
                  generalize names[k] = nm at *
                  generalize hnl : nm.length = ln at *
                  have HNL := Lib.hid hnl
                  clear hnl
                  by_cases h7 : (400 : Int) < (ln : Int)
                  · go_wp2_with fail
                    go_ret
                    exact ⟨true, rfl, k02, fun h => by cases h⟩
                  · go_wp2_with fail
                    go_roundg (n2 - (k + 1))
                    case measure => omega
                    case rel =>
                      refine ⟨k + 1, by omega, by omega, by go_num, rfl, Lib.hid fun p hp => ?_⟩
                      rw [HTK.out, List.mem_append] at hp
                      rcases hp with hp | hp
                      · exact HA.out p hp
                      · rw [List.mem_singleton.1 hp, HNL.out]; omega
                · obtain rfl : k = n2 := by omega
                  have hlt' : ¬ (k : Int) < (k : Int) := by omega
                  have hall : ∀ p ∈ names, p.length ≤ 400 := fun p hp => HA.out p (by rw [List.take_of_length_le (by rw [← HN.out]; exact Nat.le_refl _)]; exact hp)
                  have HALL := Lib.hid (HSM.out hall)
                  clear hall HA HSM
                  go_wp2_with fail
                  go_ret
                  exact ⟨false, rfl, k02, fun _ => HALL⟩
end Go.Proofs.YtlkiaghpdjbfeaaDoor

namespace Go.Proofs.YtlkiaghpdjbfeaaDoor
open Go.RowKit
variable {Zp : Nat → Prop}

/-- The reference's tree of a good tree whose rows are bounded. -/
def Small (t : Tr) : Prop := ∀ n, (t n).entries.length ≤ 1000000
set_option maxRecDepth 100000 in
theorem rfind_any (s : ByteArray) (w : World) (g : Nat) (t : Tr) (hT : RefAt Zp w g t) (G : Good t) (hb : Small t) (hs : s.size ≤ 1000) :
    Calls Tryd.prog 35 #[.pointer (some ⟨g, 0, none⟩), .string s] w (Finds t s.data.toList w) := by
  have C := Lib.hid (rsplit_any s w hs)
  have HT := Lib.hid hT
  have HG := Lib.hid G
  have HB := Lib.hid hb
  clear hT G hb
  go_enter Tryd.func35, Tryd.ntmps35
  go_wp2_with fail
  refine C.out.mono ?_
  rintro e w1 ⟨k1, ⟨hno, A, n, c, rfl⟩ | ⟨ps, A, c, hp, rfl, hc, h9, hst⟩⟩
  · have HN := Lib.hid hno
    clear hno
    go_wp2_with fail
    go_ret2
    exact ⟨k1, .inl ⟨20, by unfold find; rw [HN.out], by decide, rfl⟩⟩
  · have HP := Lib.hid hp
    have HS := Lib.hid hst
    have h8 : ps.length ≤ 8 := (pathM_some hp).2.1
    clear hp hst
    generalize hl : ps.length = l at *
    have HL := Lib.hid hl
    clear hl
    have T1 := Lib.hid (HT.out.kept k1)
    have K1 := Lib.hid k1
    clear k1
    go_wp2_with fail
    go_loopg [8, 9] l (fun gh s8 i wr => ∃ k n : Nat, k ≤ l ∧ l - k ≤ gh ∧ s8 = .int .i64 n ∧ i = .int .i64 k ∧ Hid (KF w1 wr) ∧ Hid (walk t 0 ps = walk t n (ps.drop k)) ∧ Hid ((t n).kind ≠ 0))
    case atStart => exact ⟨0, 0, by omega, by omega, rfl, rfl, Lib.hid (KF.refl _), Lib.hid rfl, Lib.hid (by rw [HG.out.root.1]; decide)⟩
    case round =>
      obtain ⟨k, n, hk, hg, rfl, rfl, KR, HW, HK⟩ := hrel
      have hn64 : n < 64 := HG.out.lt HK.out
      have hn64' : (n : Int) < 64 := by omega
      have T2 := Lib.hid (T1.out.kept KR.out)
      have ck := (T2.out.node n hn64).kind
      rcases Nat.lt_or_ge k l with hlt | hge
      · have hlt' : (k : Int) < (l : Int) := by omega
        have q1 : k < ps.length := by rw [HL.out]; exact hlt
        obtain ⟨b, o, rfl, hbb, hc0⟩ := HS.out k (ba ps[k]) (by rw [List.getElem?_map, List.getElem?_eq_getElem q1]; rfl)
        have hc1 := (KR.out.cell (p := ⟨b, o + k, none⟩) hbb).trans hc0
        clear hc0
        have HD := Lib.hid (show ps.drop k = ps[k] :: ps.drop (k + 1) from List.drop_eq_getElem_cons q1)
        rcases HG.out.two HK.out with h1 | h2
        · have HE := Lib.hid (rentry_any wr g t n ps[k] T2.out hn64 (HB.out n))
          rw [h1] at ck
          rcases hlook : look (t n).entries ps[k] with _ | m
          · rw [hlook] at HE
            have HX := Lib.hid hlook
            have H1 := Lib.hid h1
            clear hlook h1
            generalize ba ps[k] = x at hc1 HE
            have HE2 : Hid (Calls Tryd.prog 54 #[.pointer (some ⟨g, 0, none⟩), .int .i64 n, .string x] wr fun e w' => e = .returned (.int .i64 (-1)) ∧ KF wr w') := HE
            clear HE
            go_wp2_with fail
            refine HE2.out.mono ?_
            rintro e w2 ⟨rfl, k2⟩
            go_wp2_with fail
            go_ret2
            refine ⟨KF.trans K1.out (KF.trans KR.out k2), .inl ⟨21, ?_, by decide, rfl⟩⟩
            unfold find
            rw [HP.out]
            show walk t 0 ps = _
            rw [HW.out, HD.out, walk, if_neg (by rw [H1.out]; decide), HX.out]
          · rw [hlook] at HE
            have HX := Lib.hid hlook
            have H1 := Lib.hid h1
            have HM := Lib.hid (HG.out.name_le hlook).2.2.1
            clear hlook h1
            generalize ba ps[k] = x at hc1 HE
            have HE2 : Hid (Calls Tryd.prog 54 #[.pointer (some ⟨g, 0, none⟩), .int .i64 n, .string x] wr fun e w' => e = .returned (.int .i64 m) ∧ KF wr w') := HE
            have hm0 : ¬ (m : Int) < 0 := by omega
            clear HE
            go_wp2_with fail
            refine HE2.out.mono ?_
            rintro e w2 ⟨rfl, k2⟩
            have K3 := Lib.hid (KF.trans KR.out k2)
            clear k2
            go_wp2_with fail
            go_roundg (l - (k + 1))
            case measure => omega
            case rel =>
              refine ⟨k + 1, m, by omega, by omega, rfl, by go_num, K3, Lib.hid ?_, HM⟩
              rw [HW.out, HD.out, walk, if_neg (by rw [H1.out]; decide), HX.out]
        · have H2 := Lib.hid h2
          rw [h2] at ck
          clear h2
          go_wp2_with fail
          go_ret2
          refine ⟨KF.trans K1.out KR.out, .inl ⟨23, ?_, by decide, rfl⟩⟩
          unfold find
          rw [HP.out]
          show walk t 0 ps = _
          rw [HW.out, HD.out, walk, if_pos (by rw [H2.out]; decide)]
      · obtain rfl : k = l := by omega
        have hlt' : ¬ (k : Int) < (k : Int) := by omega
        go_wp2_with fail
        go_ret2
        refine ⟨KF.trans K1.out KR.out, .inr ⟨n, ?_, HK.out, rfl⟩⟩
        unfold find
        rw [HP.out]
        show walk t 0 ps = _
        rw [HW.out, List.drop_eq_nil_of_le (by rw [HL.out]; exact Nat.le_refl _), walk]
end Go.Proofs.YtlkiaghpdjbfeaaDoor
