/-
  The reference's do: rename.
-/
import Derived.Test.YtlkiaghpdjbfeaaGreatDoorPhRefGone
import Derived.Test.YtlkiaghpdjbfeaaGreatDoorPk3
namespace Go.Proofs.YtlkiaghpdjbfeaaGreatDoor
open Go.RowKit
variable {Zp : Nat → Prop}

set_option maxRecDepth 100000 in
set_option maxHeartbeats 4000000 in
theorem rdo_rename (w : World) (g : Nat) (t : Tr) (off n : Int) (s o : ByteArray) (d : Value) (h : RefAt Zp w g t) (G : Good t) (hb : Small t) (hs : s.size ≤ 1000) (ho : o.size ≤ 1000) :
    Calls Tryz.prog 27 #[.pointer (some ⟨g, 0, none⟩), .agg #[.int .i64 6, .string s, .string o, .int .i64 off, .int .i64 n, d]] w (RDid Zp g (doRename t s.data.toList o.data.toList) w) := by
  have HT := Lib.hid h
  have HG := Lib.hid G
  have HSM := Lib.hid hb
  have HLT := Lib.hid h.lt
  have HF := Lib.hid fun W (s' : ByteArray) (k : KF w W) (hs' : s'.size ≤ 1000) => rfind_any s' W g t (h.kept k) G hb hs'
  have HSS := Lib.hid hs
  have HPL := Lib.hid fun W (s' : ByteArray) (k : KF w W) (hs' : s'.size ≤ 1000) => rplace_any s' W g t (h.kept k) G hb hs'
  clear h G hb
  rcases pathM_cases s.data.toList with hp | ⟨ns, x, hp⟩
  · have HU := Lib.hid fun W => rup_no s W hs hp
    have HD : Hid (doRename t s.data.toList o.data.toList = (errA 20, t)) := Lib.hid (by unfold doRename; rw [findUp_none hp])
    clear hp hs
    obtain ⟨b, hb⟩ : ∃ b, w.heap.size = b := ⟨_, rfl⟩
    obtain ⟨W, hW⟩ : ∃ W, (((w.alloc (.cells #[.int .i64 6, .string s, .string o, .int .i64 off, .int .i64 n, d] 31)).alloc (.cells #[.int .i64 0, .int .i64 0, .int .i64 0, .int .i64 0, .slice none 0 0, .slice none 0 0] 36)).alloc (.cells #[.int .i64 0, .int .i64 0, .int .i64 0, .int .i64 0, .slice none 0 0, .slice none 0 0] 36)) = W := ⟨_, rfl⟩
    have S := DoS.new w 6 off n (.string s) (.string o) d
    rw [hb, hW] at S
    have kW : KF w W := by rw [← hW]; exact (((KF.refl w).alloc _).alloc _).alloc _
    have HW := Lib.hid hW
    have HBB := Lib.hid hb
    have HS := Lib.hid S
    have HK := Lib.hid kW
    clear hb hW S kW
    go_enter Tryz.func27, Tryz.ntmps27
    go_upto_region 2 with fail
    rw [HW.out, HBB.out]
    have HLE : Hid (w.heap.size ≤ b ∧ g < b) := Lib.hid ⟨Nat.le_of_eq HBB.out, by have := HBB.out; have := HLT.out; omega⟩
    clear HW HBB
    obtain ⟨q0, q1, q2, q3, q4, q5⟩ := HS.out.call.cells
    go_wp2_with fail
    refine (HU.out W).mono ?_
    rintro e w1 ⟨rfl, k1⟩
    have HS1 := Lib.hid (HS.out.kept k1 (fun h => h) (fun h => h) (fun h => h))
    have K1 := Lib.hid (KF.trans HK.out k1)
    clear q0 q1 q2 q3 q4 q5 k1 HU HS HK HF
    have FIN := Lib.hid (HS1.out.res.put (.int .i64 0) (.int .i64 0) (.int .i64 0) (.int .i64 0) (.slice none 0 0) (.slice none 0 0))
    obtain ⟨q0, q1, q2, q3, q4, q5⟩ := HS1.out.call.cells
    obtain ⟨r0, r1, r2, r3, r4, r5⟩ := HS1.out.res.cells
    obtain ⟨n0, n1, n2, n3, n4, n5⟩ := HS1.out.non.cells
    have z0 := HS1.out.res.free 0
    have z1 := HS1.out.res.free 1
    have z2 := HS1.out.res.free 2
    have z3 := HS1.out.res.free 3
    have z4 := HS1.out.res.free 4
    have z5 := HS1.out.res.free 5
    go_wp2_with fail
    obtain ⟨e1, e2⟩ := FIN.out
    obtain ⟨d0, d1, d2, d3, d4, d5⟩ := e1.cells
    clear FIN q0 q1 q2 q3 q4 q5 r0 r1 r2 r3 r4 r5 n0 n1 n2 n3 n4 n5 z0 z1 z2 z3 z4 z5
    refine bodyPost_ret (v := .tuple #[.agg zAns, .int .i64 20]) (by simp [results, Tryz.results27, go_sem, d0, d1, d2, d3, d4, d5, zAns]) rfl ?_
    have hle := HLE.out
    rw [HD.out]
    have kE := Keep.trans K1.out e2 (fun i hi (h : i = b + 1) => by omega)
    exact ⟨rfl, Keep.mono kE (fun _ _ h => h.elim), HT.out.kept kE⟩
  · have HU := Lib.hid fun W => rup_yes s W ns x hs hp
    have HJS : Hid ((ba (joinM ns)).size ≤ 1000) := Lib.hid (by
      obtain ⟨_, h8, hnm⟩ := pathM_some hp
      rw [ba_size]
      show (47 :: joined ns).length ≤ _
      have := joined_le ns fun q hq => hnm q (by simp [hq])
      rw [List.length_append, List.length_cons, List.length_nil] at h8
      rw [List.length_cons]
      omega)
    have HP := Lib.hid hp
    clear hp hs
    obtain ⟨b, hb⟩ : ∃ b, w.heap.size = b := ⟨_, rfl⟩
    obtain ⟨W, hW⟩ : ∃ W, (((w.alloc (.cells #[.int .i64 6, .string s, .string o, .int .i64 off, .int .i64 n, d] 31)).alloc (.cells #[.int .i64 0, .int .i64 0, .int .i64 0, .int .i64 0, .slice none 0 0, .slice none 0 0] 36)).alloc (.cells #[.int .i64 0, .int .i64 0, .int .i64 0, .int .i64 0, .slice none 0 0, .slice none 0 0] 36)) = W := ⟨_, rfl⟩
    have S := DoS.new w 6 off n (.string s) (.string o) d
    rw [hb, hW] at S
    have kW : KF w W := by rw [← hW]; exact (((KF.refl w).alloc _).alloc _).alloc _
    have HW := Lib.hid hW
    have HBB := Lib.hid hb
    have HS := Lib.hid S
    have HK := Lib.hid kW
    clear hb hW S kW
    go_enter Tryz.func27, Tryz.ntmps27
    go_upto_region 2 with fail
    rw [HW.out, HBB.out]
    have HLE : Hid (w.heap.size ≤ b ∧ g < b) := Lib.hid ⟨Nat.le_of_eq HBB.out, by have := HBB.out; have := HLT.out; omega⟩
    clear HW HBB
    obtain ⟨A, hA⟩ : ∃ A, ba (joinM ns) = A := ⟨_, rfl⟩
    obtain ⟨X, hX⟩ : ∃ X, ba x = X := ⟨_, rfl⟩
    rw [hA, hX] at HU
    rw [hA] at HJS
    have HAA := Lib.hid hA
    have HXX := Lib.hid hX
    clear hA hX
    obtain ⟨q0, q1, q2, q3, q4, q5⟩ := HS.out.call.cells
    go_wp2_with fail
    refine (HU.out W).mono ?_
    rintro e w1 ⟨rfl, k1⟩
    have HS1 := Lib.hid (HS.out.kept k1 (fun h => h) (fun h => h) (fun h => h))
    have K1 := Lib.hid (KF.trans HK.out k1)
    clear q0 q1 q2 q3 q4 q5 k1 HU HS HK
    obtain ⟨q0, q1, q2, q3, q4, q5⟩ := HS1.out.call.cells
    go_wp2_with fail
    refine (HF.out w1 s K1.out HSS.out).mono ?_
    rintro e w2 ⟨k2, ⟨kk, hk, hk0, rfl⟩ | ⟨a, ha, hka, rfl⟩⟩
    · have HS2 := Lib.hid (HS1.out.kept k2 (fun h => h) (fun h => h) (fun h => h))
      have K2 := Lib.hid (KF.trans K1.out k2)
      have HD : Hid (doRename t s.data.toList o.data.toList = (errA kk, t)) := Lib.hid (by unfold doRename; rw [findUp_err HP.out hk])
      have hk0' : ((kk : Int) != 0) = true := by simp; omega
      clear q0 q1 q2 q3 q4 q5 k2 hk hk0 HS1 K1 HF
      have FIN := Lib.hid (HS2.out.res.put (.int .i64 0) (.int .i64 0) (.int .i64 0) (.int .i64 0) (.slice none 0 0) (.slice none 0 0))
      obtain ⟨q0, q1, q2, q3, q4, q5⟩ := HS2.out.call.cells
      obtain ⟨r0, r1, r2, r3, r4, r5⟩ := HS2.out.res.cells
      obtain ⟨n0, n1, n2, n3, n4, n5⟩ := HS2.out.non.cells
      have z0 := HS2.out.res.free 0
      have z1 := HS2.out.res.free 1
      have z2 := HS2.out.res.free 2
      have z3 := HS2.out.res.free 3
      have z4 := HS2.out.res.free 4
      have z5 := HS2.out.res.free 5
      go_wp2_with fail
      obtain ⟨e1, e2⟩ := FIN.out
      obtain ⟨d0, d1, d2, d3, d4, d5⟩ := e1.cells
      clear FIN q0 q1 q2 q3 q4 q5 r0 r1 r2 r3 r4 r5 n0 n1 n2 n3 n4 n5 z0 z1 z2 z3 z4 z5
      refine bodyPost_ret (v := .tuple #[.agg zAns, .int .i64 (kk : Int)]) (by simp [results, Tryz.results27, go_sem, d0, d1, d2, d3, d4, d5, zAns]) rfl ?_
      have hle := HLE.out
      rw [HD.out]
      have kE := Keep.trans K2.out e2 (fun i hi (h : i = b + 1) => by omega)
      exact ⟨rfl, Keep.mono kE (fun _ _ h => h.elim), HT.out.kept kE⟩
    · have HS2 := Lib.hid (HS1.out.kept k2 (fun h => h) (fun h => h) (fun h => h))
      have K2 := Lib.hid (KF.trans K1.out k2)
      obtain ⟨p, hpf, hpk, hpl, hup⟩ := findUp_yes HP.out ha
      have HPF : Hid (find t A.data.toList = .ok p) := Lib.hid (by rw [← HAA.out]; exact hpf)
      have HPK := Lib.hid hpk
      have HPLK := Lib.hid hpl
      have HE := Lib.hid hup
      have ha64 := HG.out.lt hka
      have ha64' : (a : Int) < 64 := by omega
      have hp64 : p < 64 := HG.out.lt (by rw [hpk]; decide)
      have hp64' : (p : Int) < 64 := by omega
      have HKA := Lib.hid hka
      clear q0 q1 q2 q3 q4 q5 k2 ha hka HS1 K1 hpf hpk hpl hup
      obtain ⟨q0, q1, q2, q3, q4, q5⟩ := HS2.out.call.cells
      go_wp2_with fail
      refine (HF.out w2 A K2.out HJS.out).mono ?_
      rintro e w3 ⟨k3, ⟨kk, hk, hk0, rfl⟩ | ⟨a', ha', hka', rfl⟩⟩
      · exact absurd (hk.symm.trans HPF.out) (fun h => by cases h)
      obtain rfl : a' = p := by
        have := ha'.symm.trans HPF.out
        injection this
      have HS3 := Lib.hid (HS2.out.kept k3 (fun h => h) (fun h => h) (fun h => h))
      have K3 := Lib.hid (KF.trans K2.out k3)
      have R3 := Lib.hid (HT.out.kept K3.out)
      have c1 := (R3.out.node a ha64).kind
      clear q0 q1 q2 q3 q4 q5 k3 ha' hka' HS2 K2 HF
      have HIN := Lib.hid fun W => rinside_any o s W ho HSS.out
      obtain ⟨q0, q1, q2, q3, q4, q5⟩ := HS3.out.call.cells
      by_cases hos : o = s
      · have HD : Hid (doRename t s.data.toList o.data.toList = (okA, t)) := Lib.hid (by unfold doRename; rw [HE.out]; simp only [hos, if_true])
        have hq : (o.toList == s.toList) = true := by rw [hos]; exact beq_self_eq_true _
        clear hos HIN HPL q0 q1 q2 q3 q4 q5 R3
        have FIN := Lib.hid (HS3.out.res.put (.int .i64 0) (.int .i64 0) (.int .i64 0) (.int .i64 0) (.slice none 0 0) (.slice none 0 0))
        obtain ⟨q0, q1, q2, q3, q4, q5⟩ := HS3.out.call.cells
        obtain ⟨r0, r1, r2, r3, r4, r5⟩ := HS3.out.res.cells
        obtain ⟨n0, n1, n2, n3, n4, n5⟩ := HS3.out.non.cells
        have z0 := HS3.out.res.free 0
        have z1 := HS3.out.res.free 1
        have z2 := HS3.out.res.free 2
        have z3 := HS3.out.res.free 3
        have z4 := HS3.out.res.free 4
        have z5 := HS3.out.res.free 5
        go_wp2_with fail
        obtain ⟨e1, e2⟩ := FIN.out
        obtain ⟨d0, d1, d2, d3, d4, d5⟩ := e1.cells
        clear FIN q0 q1 q2 q3 q4 q5 r0 r1 r2 r3 r4 r5 n0 n1 n2 n3 n4 n5 z0 z1 z2 z3 z4 z5
        refine bodyPost_ret (v := .tuple #[.agg zAns, .int .i64 0]) (by simp [results, Tryz.results27, go_sem, d0, d1, d2, d3, d4, d5, zAns]) rfl ?_
        have hle := HLE.out
        rw [HD.out]
        have kE := Keep.trans K3.out e2 (fun i hi (h : i = b + 1) => by omega)
        exact ⟨rfl, Keep.mono kE (fun _ _ h => h.elim), HT.out.kept kE⟩
      have hq : (o.toList == s.toList) = false := by
        rw [Bool.eq_false_iff]
        intro h
        have := eq_of_beq h
        rw [Lib.toList_data, Lib.toList_data] at this
        exact hos (ba_ext.1 this)
      have hos2 : ¬ o.data.toList = s.data.toList := fun h => hos (ba_ext.1 h)
      have HOS := Lib.hid hos2
      clear hos hos2
      go_upto_region 54 with fail
      go_wp2_with fail
      refine (HIN.out w3).mono ?_
      rintro e w4 ⟨rfl, k4⟩
      have HS4 := Lib.hid (HS3.out.kept k4 (fun h => h) (fun h => h) (fun h => h))
      have K4 := Lib.hid (KF.trans K3.out k4)
      clear q0 q1 q2 q3 q4 q5 k4 HS3 K3 R3 HIN c1
      rcases hin : insideM o.data.toList s.data.toList with _ | _
      rotate_left
      · have HD : Hid (doRename t s.data.toList o.data.toList = (errA 26, t)) := Lib.hid (by unfold doRename; rw [HE.out]; simp only [HOS.out, hin, if_true, if_false])
        clear hin HPL
        have FIN := Lib.hid (HS4.out.res.put (.int .i64 0) (.int .i64 0) (.int .i64 0) (.int .i64 0) (.slice none 0 0) (.slice none 0 0))
        obtain ⟨q0, q1, q2, q3, q4, q5⟩ := HS4.out.call.cells
        obtain ⟨r0, r1, r2, r3, r4, r5⟩ := HS4.out.res.cells
        obtain ⟨n0, n1, n2, n3, n4, n5⟩ := HS4.out.non.cells
        have z0 := HS4.out.res.free 0
        have z1 := HS4.out.res.free 1
        have z2 := HS4.out.res.free 2
        have z3 := HS4.out.res.free 3
        have z4 := HS4.out.res.free 4
        have z5 := HS4.out.res.free 5
        go_wp2_with fail
        obtain ⟨e1, e2⟩ := FIN.out
        obtain ⟨d0, d1, d2, d3, d4, d5⟩ := e1.cells
        clear FIN q0 q1 q2 q3 q4 q5 r0 r1 r2 r3 r4 r5 n0 n1 n2 n3 n4 n5 z0 z1 z2 z3 z4 z5
        refine bodyPost_ret (v := .tuple #[.agg zAns, .int .i64 26]) (by simp [results, Tryz.results27, go_sem, d0, d1, d2, d3, d4, d5, zAns]) rfl ?_
        have hle := HLE.out
        rw [HD.out]
        have kE := Keep.trans K4.out e2 (fun i hi (h : i = b + 1) => by omega)
        exact ⟨rfl, Keep.mono kE (fun _ _ h => h.elim), HT.out.kept kE⟩
      · have HIN2 := Lib.hid hin
        obtain ⟨q0, q1, q2, q3, q4, q5⟩ := HS4.out.call.cells
        clear hin
        go_upto_region 56 with fail
        go_wp2_with fail
        refine (HPL.out w4 o K4.out ho).mono ?_
        rintro e w5 ⟨k5, ⟨kk, hk, hk0, rfl⟩ | ⟨dd, y, hd, hd64, rfl⟩⟩
        · have HS5 := Lib.hid (HS4.out.kept k5 (fun h => h) (fun h => h) (fun h => h))
          have K5 := Lib.hid (KF.trans K4.out k5)
          have HD : Hid (doRename t s.data.toList o.data.toList = (errA kk, t)) := Lib.hid (by unfold doRename; rw [HE.out]; simp only [HOS.out, HIN2.out, if_false, hk]; rfl)
          have hk0' : ((kk : Int) != 0) = true := by simp; omega
          clear q0 q1 q2 q3 q4 q5 k5 hk hk0 HS4 K4 HPL
          have FIN := Lib.hid (HS5.out.res.put (.int .i64 0) (.int .i64 0) (.int .i64 0) (.int .i64 0) (.slice none 0 0) (.slice none 0 0))
          obtain ⟨q0, q1, q2, q3, q4, q5⟩ := HS5.out.call.cells
          obtain ⟨r0, r1, r2, r3, r4, r5⟩ := HS5.out.res.cells
          obtain ⟨n0, n1, n2, n3, n4, n5⟩ := HS5.out.non.cells
          have z0 := HS5.out.res.free 0
          have z1 := HS5.out.res.free 1
          have z2 := HS5.out.res.free 2
          have z3 := HS5.out.res.free 3
          have z4 := HS5.out.res.free 4
          have z5 := HS5.out.res.free 5
          go_wp2_with fail
          obtain ⟨e1, e2⟩ := FIN.out
          obtain ⟨d0, d1, d2, d3, d4, d5⟩ := e1.cells
          clear FIN q0 q1 q2 q3 q4 q5 r0 r1 r2 r3 r4 r5 n0 n1 n2 n3 n4 n5 z0 z1 z2 z3 z4 z5
          refine bodyPost_ret (v := .tuple #[.agg zAns, .int .i64 (kk : Int)]) (by simp [results, Tryz.results27, go_sem, d0, d1, d2, d3, d4, d5, zAns]) rfl ?_
          have hle := HLE.out
          rw [HD.out]
          have kE := Keep.trans K5.out e2 (fun i hi (h : i = b + 1) => by omega)
          exact ⟨rfl, Keep.mono kE (fun _ _ h => h.elim), HT.out.kept kE⟩
        · have HS5 := Lib.hid (HS4.out.kept k5 (fun h => h) (fun h => h) (fun h => h))
          have K5 := Lib.hid (KF.trans K4.out k5)
          have HD : Hid (doRename t s.data.toList o.data.toList = (okA, moved t a a' x dd y)) := Lib.hid (by unfold doRename; rw [HE.out]; simp only [HOS.out, HIN2.out, if_false, hd]; rfl)
          have hd64' : (dd : Int) < 64 := by omega
          have R5 := Lib.hid (HT.out.kept K5.out)
          have HP5 := Lib.hid (rdrop_any w5 g t a' x R5.out hp64 (HSM.out a'))
          rw [HXX.out] at HP5
          obtain ⟨u, hu⟩ : ∃ u, t.rows a' (drop (t a').entries x) = u := ⟨_, rfl⟩
          have HMV : Hid (moved t a a' x dd y = u.rows dd (put (u dd).entries y a)) := Lib.hid (by unfold moved; simp only [hu])
          have HUS : Hid ((u dd).entries.length ≤ 1000000) := Lib.hid (by
            rw [← hu, Tr.rows_entries]
            split
            · exact Nat.le_trans (List.length_filter_le _ _) (HSM.out a')
            · exact HSM.out dd)
          rw [hu] at HP5
          have HPP := Lib.hid fun W (h : RefAt Zp W g u) => rput_any W g u dd y a h hd64 HUS.out
          generalize ba y = Y at *
          clear q0 q1 q2 q3 q4 q5 k5 hd hu HS4 K4 HPL
          obtain ⟨q0, q1, q2, q3, q4, q5⟩ := HS5.out.call.cells
          go_upto_region 60 with (go_at_call 57; refine HP5.out.mono ?_; rintro e w6 ⟨rfl, k6, R6⟩)
          have HS6 := Lib.hid (HS5.out.kept k6 (by have := HLE.out; omega) (by have := HLE.out; omega) (by have := HLE.out; omega))
          have K6 := Lib.hid (Keep.trans (Keep.mono K5.out (fun _ _ h => h.elim) : Keep (fun i => i = g) w w5) k6 (fun _ _ h => h))
          have HP6 := Lib.hid (HPP.out w6 R6)
          clear k6 R6 HP5 HPP R5 HS5 K5 q0 q1 q2 q3 q4 q5
          obtain ⟨q0, q1, q2, q3, q4, q5⟩ := HS6.out.call.cells
          go_upto_region 61 with (go_at_call 54; refine HP6.out.mono ?_; rintro e w7 ⟨rfl, k7, R7⟩)
          have HS7 := Lib.hid (HS6.out.kept k7 (by have := HLE.out; omega) (by have := HLE.out; omega) (by have := HLE.out; omega))
          have K7 := Lib.hid (Keep.trans K6.out k7 (fun _ _ h => h))
          have HR7 : Hid (RefAt Zp w7 g (moved t a a' x dd y)) := Lib.hid (by rw [HMV.out]; exact R7)
          clear k7 R7 HP6 HS6 K6 q0 q1 q2 q3 q4 q5
          have FIN := Lib.hid (HS7.out.res.put (.int .i64 0) (.int .i64 0) (.int .i64 0) (.int .i64 0) (.slice none 0 0) (.slice none 0 0))
          obtain ⟨q0, q1, q2, q3, q4, q5⟩ := HS7.out.call.cells
          obtain ⟨r0, r1, r2, r3, r4, r5⟩ := HS7.out.res.cells
          obtain ⟨n0, n1, n2, n3, n4, n5⟩ := HS7.out.non.cells
          have z0 := HS7.out.res.free 0
          have z1 := HS7.out.res.free 1
          have z2 := HS7.out.res.free 2
          have z3 := HS7.out.res.free 3
          have z4 := HS7.out.res.free 4
          have z5 := HS7.out.res.free 5
          go_wp2_with fail
          obtain ⟨e1, e2⟩ := FIN.out
          obtain ⟨d0, d1, d2, d3, d4, d5⟩ := e1.cells
          clear FIN q0 q1 q2 q3 q4 q5 r0 r1 r2 r3 r4 r5 n0 n1 n2 n3 n4 n5 z0 z1 z2 z3 z4 z5
          refine bodyPost_ret (v := .tuple #[.agg zAns, .int .i64 0]) (by simp [results, Tryz.results27, go_sem, d0, d1, d2, d3, d4, d5, zAns]) rfl ?_
          have hle := HLE.out
          rw [HD.out]
          exact ⟨rfl, Keep.trans K7.out e2 (fun i hi (h : i = b + 1) => by omega), HR7.out.keepFar HS7.out.res (by simp) (by simp) e2 (by omega)⟩
end Go.Proofs.YtlkiaghpdjbfeaaGreatDoor
