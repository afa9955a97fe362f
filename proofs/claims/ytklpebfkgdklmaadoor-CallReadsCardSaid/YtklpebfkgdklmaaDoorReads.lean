/-
  CallReads, walked.
-/
import Derived.Test.YtklpebfkgdklmaaDoorGreat5
import Derived.Test.YtklpebfkgdklmaaDoorRefDecA
import Derived.Test.YtklpebfkgdklmaaDoorSameA
import Derived.Deep.RegionHeld3
namespace Go.Proofs.YtklpebfkgdklmaaDoor
open Go.RowKit

def zC : TCall := ⟨0, [], [], 0, 0, []⟩
def zA : IAns := ⟨0, 0, 0, 0, [], []⟩
/-- What Decode gives, in one word. -/
theorem Decs.one {l : List UInt8} {w w' : World} {e : Ending} (h : Decs l w e w') :
    KF w w' ∧ ∃ A c, e = .returned (.tuple #[cval ((decC l).getD zC) A ((decC l).getD zC).data.length c, .int .i64 (if (decC l).isSome = true then 0 else 3)]) ∧ Rd w' w'.heap.size A ((decC l).getD zC).data := by
  obtain ⟨k, ⟨x, A, c, hx, rfl, hr⟩ | ⟨hx, rfl⟩⟩ := h
  · rw [hx]; exact ⟨k, A, c, rfl, hr⟩
  · rw [hx]; exact ⟨k, none, 0, rfl, Rd.nil⟩
theorem DecsA.one {l : List UInt8} {w w' : World} {e : Ending} (h : DecsA l w e w') :
    KF w w' ∧ ∃ A c B d, e = .returned (.tuple #[.agg (ansV ((decA l).getD zA) A c B d), .int .i64 (if (decA l).isSome = true then 0 else 3)]) ∧ Rd w' w'.heap.size A ((decA l).getD zA).data ∧ Strs w' w'.heap.size B (((decA l).getD zA).names.map ba) := by
  obtain ⟨k, ⟨x, A, c, B, d, hx, rfl, hr, hs, _⟩ | ⟨hx, rfl⟩⟩ := h
  · rw [hx]; exact ⟨k, A, c, B, d, rfl, hr, hs⟩
  · rw [hx]; exact ⟨k, none, 0, none, 0, rfl, Rd.nil, Strs.nil⟩
theorem byV_le (m : Int) (s : List UInt8 × Bool) (h : 0 ≤ m) : ((byV m s).length : Int) ≤ m := by
  have h1 := tkL_le (cntV m s) (cntS m s).1 (cntS m s).2
  have h2 := cntV_le m s h
  unfold byV
  omega
theorem decC_le (l : List UInt8) : ((decC l).getD zC).data.length ≤ 4096 := by
  unfold decC
  split
  · exact Nat.zero_le _
  · split
    · have := byV_le 4096 (takeS 5 (l.take (l.length - 4), false)) (by decide)
      show (takeC _).data.length ≤ _
      unfold takeC
      simp only
      omega
    · exact Nat.zero_le _
theorem decA_le (l : List UInt8) : ((decA l).getD zA).data.length ≤ 4096 ∧ ((decA l).getD zA).names.length ≤ 64 := by
  unfold decA
  split
  · exact ⟨Nat.zero_le _, Nat.zero_le _⟩
  · split
    · have h1 := byV_le 4096 (ansS 4 (l.take (l.length - 4), false)) (by decide)
      have h2 := cntV_le 64 (ansS 5 (l.take (l.length - 4), false)) (by decide)
      show (takeA _).data.length ≤ _ ∧ (takeA _).names.length ≤ _
      unfold takeA
      simp only
      refine ⟨by omega, ?_⟩
      unfold lstX
      split
      · simp
      · rw [lstN_length]; omega
    · exact ⟨Nat.zero_le _, Nat.zero_le _⟩
theorem sameC_self (x : TCall) : sameC x x = true := by simp [sameC]
set_option maxRecDepth 100000 in
set_option maxHeartbeats 4000000 in
theorem reads_walk (A : Option Addr) (l : List UInt8) (n c : Nat) (w : World) (ht : Tab w) (he : Env w) (hn : n = l.length) (hc : n ≤ c) (hm : c ≤ maxLen) (hr : Rd w w.heap.size A l) :
    Calls Tryd.prog 4 #[.slice A n c] w fun e w' => e = .returned (.bool true) ∧ KF w w' := by
  have HSP := Lib.hid (speaks5 w ht he)
  have HT := Lib.hid fun W (k : KF w W) => ht.kept k (fun h => h)
  have HR := Lib.hid fun W (k : KF w W) => (hr.keepF k (Nat.le_refl _)).more k.size
  have GA := Lib.hid fun W => show Calls Tryd.prog 8 #[.agg #[.int .i64 0, .string ⟨#[]⟩, .string ⟨#[]⟩, .int .i64 0, .int .i64 0, .slice none 0 0], .agg #[.int .i64 0, .int .i64 0, .int .i64 0, .int .i64 0, .slice none 0 0, .slice none 0 0], .slice A n c] W (Greats5 zC 0 0 n [] W) from great5 zC none none none A 0 0 0 0 0 0 n c 0 0 0 0 [] W rfl Strs.nil
  have HN := Lib.hid hn
  have HM := Lib.hid hm
  clear hn hr ht he hm
  go_enter Tryd.func4, Tryd.ntmps4
  go_wp2_with fail
  refine HSP.out.mono ?_
  rintro e w1 ⟨rfl, k1⟩
  have G1 := Lib.hid (GA.out w1)
  clear HSP GA
  go_wp2_with fail
  refine G1.out.mono ?_
  rintro e w2 ⟨v, rfl, k12, hv⟩
  have k2 := KF.trans k1 k12
  rcases v with _ | _
  rotate_left
  · go_wp2_with fail
    go_ret
    exact ⟨rfl, k2⟩
  have hn12 : n ≤ 12000 := (hv rfl).out.bytes
  clear hv G1 k1 k12
  have hr2 := HR.out w2 k2
  have o0 : Own 5 (w2.alloc (.cells #[] 5)) (.slice (some ⟨w2.heap.size, 0, none⟩) 0 0) [] := Own.lit 5 w2 [] (by simp)
  have hr2' : Rd (w2.alloc (.cells #[] 5)) w2.heap.size A l := hr2.alloc (Nat.le_refl _) _
  have hlb : ([] : List UInt8).length + l.length ≤ 70368744177664 := by have := HN.out; simp only [List.length_nil]; omega
  go_wp2_with (at_builtin; refine wpList_append_u8 _ rfl _ _ _ rfl bytesT _ [] rfl o0 w2.heap.size A n c l rfl HN.out hr2' hlb ?_; intro A4 n4 c4 w4 o4 e4 h4 m4 g4 f4)
  have k4 : KF w w4 := (k2.alloc (.cells #[] 5)).own g4 (NB.new k2.size _ _)
  have CD := Lib.hid (decode_any A4 ([] ++ l) n4 c4 w4 e4.out h4 m4 (by have := HN.out; simp only [List.nil_append]; omega) (HT.out w4 k4) o4.rd)
  rw [List.nil_append] at CD
  clear o0 hr2 hr2' o4 e4 h4 m4 g4 f4
  go_wp2_with fail
  refine CD.out.mono ?_
  intro e w5 hd
  obtain ⟨k45, A5, c5, rfl, r5⟩ := hd.one
  have k5 := KF.trans k4 k45
  clear hd CD k2 k4 k45
  obtain ⟨x, hx⟩ : ∃ x, (decC l).getD zC = x := ⟨_, rfl⟩
  obtain ⟨ec, hec⟩ : ∃ ec : Int, (if (decC l).isSome = true then 0 else 3) = ec := ⟨_, rfl⟩
  rw [hx] at r5 ⊢
  rw [hec]
  obtain ⟨w6, hw6⟩ : ∃ w6, w5.alloc (.cells #[.int .i64 x.kind, .string (ba x.path), .string (ba x.other), .int .i64 x.off, .int .i64 x.n, .slice A5 x.data.length c5] 24) = w6 := ⟨_, rfl⟩
  obtain ⟨g0, hg0⟩ : ∃ g0, w5.heap.size = g0 := ⟨_, rfl⟩
  have b0 : w6.heap[g0]? = some (.cells #[.int .i64 x.kind, .string (ba x.path), .string (ba x.other), .int .i64 x.off, .int .i64 x.n, .slice A5 x.data.length c5] 24) := by rw [← hw6, ← hg0]; exact heap_alloc_new w5 _
  have k56 : KF w5 w6 := by rw [← hw6]; exact (KF.refl _).alloc _
  have k6 := KF.trans k5 k56
  have P6 := Lib.hid fun W (k : KF w6 W) => six_cells ((k.block g0 (lt_of_block b0) (fun h => h)).trans b0)
  have R6 := Lib.hid fun W (k : KF w6 W) => (r5.keepF (KF.trans k56 k) (Nat.le_refl _)).more (KF.trans k56 k).size
  have HW6 := Lib.hid hw6
  have HG0 := Lib.hid hg0
  clear hw6 hg0 b0 k56 r5 k5
  generalize hdl : x.data.length = dl at *
  have HDL := Lib.hid hdl
  go_upto_region 6 with fail
  rw [HW6.out, HG0.out]
  clear HW6 HG0
  have CD := Lib.hid (rdecode_any A l n c w6 HN.out hc (by have := HN.out; omega) (HR.out w6 k6))
  go_wp2_with fail
  refine CD.out.mono ?_
  intro e w7 hd
  obtain ⟨k67, A7, c7, rfl, r7⟩ := hd.one
  have k7 := KF.trans k6 k67
  clear hd CD
  rw [hx] at r7 ⊢
  rw [hec]
  rw [hdl]
  obtain ⟨w8, hw8⟩ : ∃ w8, w7.alloc (.cells #[.int .i64 x.kind, .string (ba x.path), .string (ba x.other), .int .i64 x.off, .int .i64 x.n, .slice A7 dl c7] 24) = w8 := ⟨_, rfl⟩
  obtain ⟨g1, hg1⟩ : ∃ g1, w7.heap.size = g1 := ⟨_, rfl⟩
  have b1 : w8.heap[g1]? = some (.cells #[.int .i64 x.kind, .string (ba x.path), .string (ba x.other), .int .i64 x.off, .int .i64 x.n, .slice A7 dl c7] 24) := by rw [← hw8, ← hg1]; exact heap_alloc_new w7 _
  have k78 : KF w7 w8 := by rw [← hw8]; exact (KF.refl _).alloc _
  have k8 := KF.trans k7 k78
  have k68 := KF.trans k67 k78
  have P8 := Lib.hid fun W (k : KF w8 W) => six_cells ((k.block g1 (lt_of_block b1) (fun h => h)).trans b1)
  have R8 := Lib.hid fun W (k : KF w8 W) => (r7.keepF (KF.trans k78 k) (Nat.le_refl _)).more (KF.trans k78 k).size
  have HW8 := Lib.hid hw8
  have HG1 := Lib.hid hg1
  clear hw8 hg1 b1 k78 r7 k7 k67 k6
  go_upto_region 7 with fail
  rw [HW8.out, HG1.out]
  clear HW8 HG1
  have hr8 := HR.out w8 k8
  have o0 : Own 5 (w8.alloc (.cells #[] 5)) (.slice (some ⟨w8.heap.size, 0, none⟩) 0 0) [] := Own.lit 5 w8 [] (by simp)
  have hr8' : Rd (w8.alloc (.cells #[] 5)) w8.heap.size A l := hr8.alloc (Nat.le_refl _) _
  go_wp2_with (at_builtin; refine wpList_append_u8 _ rfl _ _ _ rfl bytesT _ [] rfl o0 w8.heap.size A n c l rfl HN.out hr8' hlb ?_; intro A4 n4 c4 w9 o4 e4 h4 m4 g4 f4)
  have k89 : KF w8 w9 := ((KF.refl w8).alloc (.cells #[] 5)).own g4 (NB.new (Nat.le_refl _) _ _)
  have CD := Lib.hid (decodeA_any A4 ([] ++ l) n4 c4 w9 e4.out h4 m4 (by have := HN.out; simp only [List.nil_append]; omega) (HT.out w9 (KF.trans k8 k89)) o4.rd)
  rw [List.nil_append] at CD
  clear o0 hr8 hr8' o4 e4 h4 m4 g4 f4
  go_wp2_with fail
  refine CD.out.mono ?_
  intro e w10 hd
  obtain ⟨k910, A10, c10, B10, d10, rfl, r10, s10⟩ := hd.one
  have k810 := KF.trans k89 k910
  clear hd CD k89 k910
  obtain ⟨y, hy⟩ : ∃ y, (decA l).getD zA = y := ⟨_, rfl⟩
  obtain ⟨ea, hea⟩ : ∃ ea : Int, (if (decA l).isSome = true then 0 else 3) = ea := ⟨_, rfl⟩
  have HYD : y.data.length ≤ 4096 ∧ y.names.length ≤ 64 := by rw [← hy]; exact decA_le l
  have HXD : dl ≤ 4096 := by rw [← hdl, ← hx]; exact decC_le l
  rw [hy] at r10 s10 ⊢
  rw [hea]
  unfold ansV
  obtain ⟨w11, hw11⟩ : ∃ w11, w10.alloc (.cells #[.int .i64 y.err, .int .i64 y.kind, .int .i64 y.size, .int .i64 y.links, .slice A10 y.data.length c10, .slice B10 y.names.length d10] 28) = w11 := ⟨_, rfl⟩
  obtain ⟨g2, hg2⟩ : ∃ g2, w10.heap.size = g2 := ⟨_, rfl⟩
  have b2 : w11.heap[g2]? = some (.cells #[.int .i64 y.err, .int .i64 y.kind, .int .i64 y.size, .int .i64 y.links, .slice A10 y.data.length c10, .slice B10 y.names.length d10] 28) := by rw [← hw11, ← hg2]; exact heap_alloc_new w10 _
  have k1011 : KF w10 w11 := by rw [← hw11]; exact (KF.refl _).alloc _
  have k811 := KF.trans k810 k1011
  have k11 := KF.trans k8 k811
  have P11 := Lib.hid fun W (k : KF w11 W) => six_cells ((k.block g2 (lt_of_block b2) (fun h => h)).trans b2)
  have R11 := Lib.hid fun W (k : KF w11 W) => (r10.keepF (KF.trans k1011 k) (Nat.le_refl _)).more (KF.trans k1011 k).size
  have S11 := Lib.hid fun W (k : KF w11 W) => s10.kept (KF.trans k1011 k)
  have HW11 := Lib.hid hw11
  have HG2 := Lib.hid hg2
  clear hw11 hg2 b2 k1011 r10 s10 k810
  go_upto_region 8 with fail
  rw [HW11.out, HG2.out]
  clear HW11 HG2
  have CD := Lib.hid (rdecodeA_any A l n c w11 HN.out hc (by have := HN.out; omega) (HR.out w11 k11))
  go_wp2_with fail
  refine CD.out.mono ?_
  intro e w12 hd
  obtain ⟨k1112, A12, c12, B12, d12, rfl, r12, s12⟩ := hd.one
  clear hd CD
  rw [hy] at r12 s12 ⊢
  rw [hea]
  unfold ansV
  obtain ⟨w13, hw13⟩ : ∃ w13, w12.alloc (.cells #[.int .i64 y.err, .int .i64 y.kind, .int .i64 y.size, .int .i64 y.links, .slice A12 y.data.length c12, .slice B12 y.names.length d12] 28) = w13 := ⟨_, rfl⟩
  obtain ⟨g3, hg3⟩ : ∃ g3, w12.heap.size = g3 := ⟨_, rfl⟩
  have b3 : w13.heap[g3]? = some (.cells #[.int .i64 y.err, .int .i64 y.kind, .int .i64 y.size, .int .i64 y.links, .slice A12 y.data.length c12, .slice B12 y.names.length d12] 28) := by rw [← hw13, ← hg3]; exact heap_alloc_new w12 _
  have k1213 : KF w12 w13 := by rw [← hw13]; exact (KF.refl _).alloc _
  have k1113 := KF.trans k1112 k1213
  have k13 := KF.trans k11 k1113
  have P13 := Lib.hid fun W (k : KF w13 W) => six_cells ((k.block g3 (lt_of_block b3) (fun h => h)).trans b3)
  have R13 := Lib.hid fun W (k : KF w13 W) => (r12.keepF (KF.trans k1213 k) (Nat.le_refl _)).more (KF.trans k1213 k).size
  have S13 := Lib.hid fun W (k : KF w13 W) => s12.kept (KF.trans k1213 k)
  have HW13 := Lib.hid hw13
  have HG3 := Lib.hid hg3
  clear hw13 hg3 b3 k1213 r12 s12 k1112
  go_upto_region 9 with fail
  rw [HW13.out, HG3.out]
  clear HW13 HG3
  have k813 := KF.trans k811 k1113
  have k613 := KF.trans k68 k813
  have SC := Lib.hid (sameCall_any x x A5 A7 c5 c7 w13 (by rw [HDL.out]; omega) (by rw [HDL.out]; omega) (R6.out _ k613) (R8.out _ k813))
  rw [sameC_self, HDL.out] at SC
  have SA := Lib.hid fun W (k : KF w13 W) => sameAnswerI_one y A10 A12 B10 B12 c10 c12 d10 d12 W (by omega) (by omega) (R11.out _ (KF.trans k1113 k)) (S11.out _ (KF.trans k1113 k)) (R13.out _ k) (S13.out _ k)
  unfold ansV at SA
  obtain ⟨p0, p1, p2, p3, p4, p5⟩ := P6.out w13 k613
  obtain ⟨q0, q1, q2, q3, q4, q5⟩ := P8.out w13 k813
  clear hx hec hdl hy hea
  go_wp2_with fail
  refine SC.out.mono ?_
  rintro e w14 ⟨rfl, k14⟩
  have SB := Lib.hid (SA.out w14 k14)
  clear SC SA p0 p1 p2 p3 p4 p5 q0 q1 q2 q3 q4 q5
  obtain ⟨p0, p1, p2, p3, p4, p5⟩ := P11.out w14 (KF.trans k1113 k14)
  obtain ⟨q0, q1, q2, q3, q4, q5⟩ := P13.out w14 k14
  go_wp2_with fail
  refine SB.out.mono ?_
  rintro e w15 ⟨rfl, k15⟩
  go_wp2_with fail
  go_ret
  exact ⟨rfl, KF.trans k13 (KF.trans k14 k15)⟩
end Go.Proofs.YtklpebfkgdklmaaDoor
