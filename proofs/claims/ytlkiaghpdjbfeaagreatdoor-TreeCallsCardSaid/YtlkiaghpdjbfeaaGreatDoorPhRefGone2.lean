/-
  The reference's do: rmdir.
-/
import Derived.Test.YtlkiaghpdjbfeaaGreatDoorPhRefGone
namespace Go.Proofs.YtlkiaghpdjbfeaaGreatDoor
open Go.RowKit
variable {Zp : Nat → Prop}

set_option maxRecDepth 100000 in
set_option maxHeartbeats 4000000 in
theorem rdo_rmdir (w : World) (g : Nat) (t : Tr) (off n : Int) (s : ByteArray) (o d : Value) (h : RefAt Zp w g t) (G : Good t) (hb : Small t) (hs : s.size ≤ 1000) :
    Calls Tryz.prog 27 #[.pointer (some ⟨g, 0, none⟩), .agg #[.int .i64 2, .string s, o, .int .i64 off, .int .i64 n, d]] w (RDid Zp g (doRmdir t s.data.toList) w) := by
  have HT := Lib.hid h
  have HG := Lib.hid G
  have HSM := Lib.hid hb
  have HLT := Lib.hid h.lt
  have HF := Lib.hid fun W (s' : ByteArray) (k : KF w W) (hs' : s'.size ≤ 1000) => rfind_any s' W g t (h.kept k) G hb hs'
  have HSS := Lib.hid hs
  clear h G hb
  rcases pathM_cases s.data.toList with hp | ⟨ns, x, hp⟩
  · have HU := Lib.hid fun W => rup_no s W hs hp
    have HD : Hid (doRmdir t s.data.toList = (errA 20, t)) := Lib.hid (by unfold doRmdir; rw [findUp_none hp])
    clear hp hs
    obtain ⟨b, hb⟩ : ∃ b, w.heap.size = b := ⟨_, rfl⟩
    obtain ⟨W, hW⟩ : ∃ W, (((w.alloc (.cells #[.int .i64 2, .string s, o, .int .i64 off, .int .i64 n, d] 31)).alloc (.cells #[.int .i64 0, .int .i64 0, .int .i64 0, .int .i64 0, .slice none 0 0, .slice none 0 0] 36)).alloc (.cells #[.int .i64 0, .int .i64 0, .int .i64 0, .int .i64 0, .slice none 0 0, .slice none 0 0] 36)) = W := ⟨_, rfl⟩
    have S := DoS.new w 2 off n (.string s) o d
    rw [hb, hW] at S
    have kW : KF w W := by rw [← hW]; exact (((KF.refl w).alloc _).alloc _).alloc _
    have HW := Lib.hid hW
    have HBB := Lib.hid hb
    have HS := Lib.hid S
    have HK := Lib.hid kW
    clear hb hW S kW
    go_enter Tryz.func27, Tryz.ntmps27
    go_upto_region 2 with fail
    rw [HW.out, HBB.out]
    have HLE : Hid (w.heap.size ≤ b ∧ g < b) := Lib.hid ⟨Nat.le_of_eq HBB.out, by have := HBB.out; have := HLT.out; omega⟩
    clear HW HBB
    obtain ⟨q0, q1, q2, q3, q4, q5⟩ := HS.out.call.cells
    go_wp2_with fail
    refine (HU.out W).mono ?_
    rintro e w1 ⟨rfl, k1⟩
    have HS1 := Lib.hid (HS.out.kept k1 (fun h => h) (fun h => h) (fun h => h))
    have K1 := Lib.hid (KF.trans HK.out k1)
    clear q0 q1 q2 q3 q4 q5 k1 HU HS HK HF
    have FIN := Lib.hid (HS1.out.res.put (.int .i64 0) (.int .i64 0) (.int .i64 0) (.int .i64 0) (.slice none 0 0) (.slice none 0 0))
    obtain ⟨q0, q1, q2, q3, q4, q5⟩ := HS1.out.call.cells
    obtain ⟨r0, r1, r2, r3, r4, r5⟩ := HS1.out.res.cells
    obtain ⟨n0, n1, n2, n3, n4, n5⟩ := HS1.out.non.cells
    have z0 := HS1.out.res.free 0
    have z1 := HS1.out.res.free 1
    have z2 := HS1.out.res.free 2
    have z3 := HS1.out.res.free 3
    have z4 := HS1.out.res.free 4
    have z5 := HS1.out.res.free 5
    go_wp2_with fail
    obtain ⟨e1, e2⟩ := FIN.out
    obtain ⟨d0, d1, d2, d3, d4, d5⟩ := e1.cells
    clear FIN q0 q1 q2 q3 q4 q5 r0 r1 r2 r3 r4 r5 n0 n1 n2 n3 n4 n5 z0 z1 z2 z3 z4 z5
    refine bodyPost_ret (v := .tuple #[.agg zAns, .int .i64 20]) (by simp [results, Tryz.results27, go_sem, d0, d1, d2, d3, d4, d5, zAns]) rfl ?_
    have hle := HLE.out
    rw [HD.out]
    have kE := Keep.trans K1.out e2 (fun i hi (h : i = b + 1) => by omega)
    exact ⟨rfl, Keep.mono kE (fun _ _ h => h.elim), HT.out.kept kE⟩
  · have HU := Lib.hid fun W => rup_yes s W ns x hs hp
    have HJS : Hid ((ba (joinM ns)).size ≤ 1000) := Lib.hid (by
      obtain ⟨_, h8, hnm⟩ := pathM_some hp
      rw [ba_size]
      show (47 :: joined ns).length ≤ _
      have := joined_le ns fun q hq => hnm q (by simp [hq])
      rw [List.length_append, List.length_cons, List.length_nil] at h8
      rw [List.length_cons]
      omega)
    have HP := Lib.hid hp
    clear hp hs
    obtain ⟨b, hb⟩ : ∃ b, w.heap.size = b := ⟨_, rfl⟩
    obtain ⟨W, hW⟩ : ∃ W, (((w.alloc (.cells #[.int .i64 2, .string s, o, .int .i64 off, .int .i64 n, d] 31)).alloc (.cells #[.int .i64 0, .int .i64 0, .int .i64 0, .int .i64 0, .slice none 0 0, .slice none 0 0] 36)).alloc (.cells #[.int .i64 0, .int .i64 0, .int .i64 0, .int .i64 0, .slice none 0 0, .slice none 0 0] 36)) = W := ⟨_, rfl⟩
    have S := DoS.new w 2 off n (.string s) o d
    rw [hb, hW] at S
    have kW : KF w W := by rw [← hW]; exact (((KF.refl w).alloc _).alloc _).alloc _
    have HW := Lib.hid hW
    have HBB := Lib.hid hb
    have HS := Lib.hid S
    have HK := Lib.hid kW
    clear hb hW S kW
    go_enter Tryz.func27, Tryz.ntmps27
    go_upto_region 2 with fail
    rw [HW.out, HBB.out]
    have HLE : Hid (w.heap.size ≤ b ∧ g < b) := Lib.hid ⟨Nat.le_of_eq HBB.out, by have := HBB.out; have := HLT.out; omega⟩
    clear HW HBB
    obtain ⟨A, hA⟩ : ∃ A, ba (joinM ns) = A := ⟨_, rfl⟩
    obtain ⟨X, hX⟩ : ∃ X, ba x = X := ⟨_, rfl⟩
    rw [hA, hX] at HU
    rw [hA] at HJS
    have HAA := Lib.hid hA
    have HXX := Lib.hid hX
    clear hA hX
    obtain ⟨q0, q1, q2, q3, q4, q5⟩ := HS.out.call.cells
    go_wp2_with fail
    refine (HU.out W).mono ?_
    rintro e w1 ⟨rfl, k1⟩
    have HS1 := Lib.hid (HS.out.kept k1 (fun h => h) (fun h => h) (fun h => h))
    have K1 := Lib.hid (KF.trans HK.out k1)
    clear q0 q1 q2 q3 q4 q5 k1 HU HS HK
    obtain ⟨q0, q1, q2, q3, q4, q5⟩ := HS1.out.call.cells
    go_wp2_with fail
    refine (HF.out w1 s K1.out HSS.out).mono ?_
    rintro e w2 ⟨k2, ⟨kk, hk, hk0, rfl⟩ | ⟨a, ha, hka, rfl⟩⟩
    · have HS2 := Lib.hid (HS1.out.kept k2 (fun h => h) (fun h => h) (fun h => h))
      have K2 := Lib.hid (KF.trans K1.out k2)
      have HD : Hid (doRmdir t s.data.toList = (errA kk, t)) := Lib.hid (by unfold doRmdir; rw [findUp_err HP.out hk])
      have hk0' : ((kk : Int) != 0) = true := by simp; omega
      clear q0 q1 q2 q3 q4 q5 k2 hk hk0 HS1 K1 HF
      have FIN := Lib.hid (HS2.out.res.put (.int .i64 0) (.int .i64 0) (.int .i64 0) (.int .i64 0) (.slice none 0 0) (.slice none 0 0))
      obtain ⟨q0, q1, q2, q3, q4, q5⟩ := HS2.out.call.cells
      obtain ⟨r0, r1, r2, r3, r4, r5⟩ := HS2.out.res.cells
      obtain ⟨n0, n1, n2, n3, n4, n5⟩ := HS2.out.non.cells
      have z0 := HS2.out.res.free 0
      have z1 := HS2.out.res.free 1
      have z2 := HS2.out.res.free 2
      have z3 := HS2.out.res.free 3
      have z4 := HS2.out.res.free 4
      have z5 := HS2.out.res.free 5
      go_wp2_with fail
      obtain ⟨e1, e2⟩ := FIN.out
      obtain ⟨d0, d1, d2, d3, d4, d5⟩ := e1.cells
      clear FIN q0 q1 q2 q3 q4 q5 r0 r1 r2 r3 r4 r5 n0 n1 n2 n3 n4 n5 z0 z1 z2 z3 z4 z5
      refine bodyPost_ret (v := .tuple #[.agg zAns, .int .i64 (kk : Int)]) (by simp [results, Tryz.results27, go_sem, d0, d1, d2, d3, d4, d5, zAns]) rfl ?_
      have hle := HLE.out
      rw [HD.out]
      have kE := Keep.trans K2.out e2 (fun i hi (h : i = b + 1) => by omega)
      exact ⟨rfl, Keep.mono kE (fun _ _ h => h.elim), HT.out.kept kE⟩
    · have HS2 := Lib.hid (HS1.out.kept k2 (fun h => h) (fun h => h) (fun h => h))
      have K2 := Lib.hid (KF.trans K1.out k2)
      obtain ⟨p, hpf, hpk, hpl, hup⟩ := findUp_yes HP.out ha
      have HPF : Hid (find t A.data.toList = .ok p) := Lib.hid (by rw [← HAA.out]; exact hpf)
      have HPK := Lib.hid hpk
      have HPL := Lib.hid hpl
      have HE := Lib.hid hup
      have ha64 := HG.out.lt hka
      have ha64' : (a : Int) < 64 := by omega
      have hp64 : p < 64 := HG.out.lt (by rw [hpk]; decide)
      have hp64' : (p : Int) < 64 := by omega
      have HKA := Lib.hid hka
      clear q0 q1 q2 q3 q4 q5 k2 ha hka HS1 K1 hpf hpk hpl hup
      obtain ⟨q0, q1, q2, q3, q4, q5⟩ := HS2.out.call.cells
      go_wp2_with fail
      refine (HF.out w2 A K2.out HJS.out).mono ?_
      rintro e w3 ⟨k3, ⟨kk, hk, hk0, rfl⟩ | ⟨a', ha', hka', rfl⟩⟩
      · exact absurd (hk.symm.trans HPF.out) (fun h => by cases h)
      obtain rfl : a' = p := by
        have := ha'.symm.trans HPF.out
        injection this
      have HS3 := Lib.hid (HS2.out.kept k3 (fun h => h) (fun h => h) (fun h => h))
      have K3 := Lib.hid (KF.trans K2.out k3)
      have R3 := Lib.hid (HT.out.kept K3.out)
      have c1 := (R3.out.node a ha64).kind
      clear q0 q1 q2 q3 q4 q5 k3 ha' hka' HS2 K2 HF
      rcases HG.out.two HKA.out with h1 | h2
      · rw [h1] at c1
        obtain ⟨A4, x4, c4, _⟩ := (R3.out.node a ha64).ents
        rcases he : (t a).entries with _ | ⟨e0, es0⟩
        · have HD : Hid (doRmdir t s.data.toList = (okA, unlinked t a a' x)) := Lib.hid (by unfold doRmdir; rw [HE.out]; simp only [h1, he]; rfl)
          have HAP : Hid (a ≠ a') := Lib.hid (fun e => by
            have hl := HPL.out
            rw [← e, he] at hl
            cases hl)
          rw [he] at c4
          have HL1 : Hid (1 ≤ (t a).links) := Lib.hid (links_small HG.out HSM.out HKA.out).2
          have HLN : Hid ((t a).links ≤ 64000000) := Lib.hid (links_small HG.out HSM.out HKA.out).1
          clear h1 he
          have HP4 := Lib.hid (rdrop_any w3 g t a' x R3.out hp64 (HSM.out a'))
          rw [HXX.out] at HP4
          obtain ⟨q0, q1, q2, q3, q4, q5⟩ := HS3.out.call.cells
          go_upto_region 38 with (go_at_call 57; refine HP4.out.mono ?_; rintro e w4 ⟨rfl, k4, R4⟩)
          have HS4 := Lib.hid (HS3.out.kept k4 (by have := HLE.out; omega) (by have := HLE.out; omega) (by have := HLE.out; omega))
          have K4 := Lib.hid (Keep.trans (Keep.mono K3.out (fun _ _ h => h.elim) : Keep (fun i => i = g) w w3) k4 (fun _ _ h => h))
          have hrow : (t.rows a' (drop (t a').entries x)) a = t a := by unfold Tr.rows; exact if_neg HAP.out
          have HGT := Lib.hid (gone_tree (x := x) HAP.out HL1.out)
          rw [hrow] at HGT
          obtain ⟨t4, ht4⟩ : ∃ t4, t.rows a' (drop (t a').entries x) = t4 := ⟨_, rfl⟩
          rw [ht4] at R4 hrow HGT
          have R4h := Lib.hid R4
          obtain ⟨l, hl⟩ : ∃ l, (t a).links = l + 1 := ⟨(t a).links - 1, by have := HL1.out; omega⟩
          have HLL := Lib.hid hl
          have c2 := (R4.node a ha64).links
          rw [hrow, hl] at c2
          have f2 := R4.free (a * 5 + 2)
          have hl64 : l ≤ 64000000 := by have := HLN.out; omega
          have hws : IntKind.i64.wrap (((l + 1 : Nat) : Int) - 1) = (l : Int) := by rw [IntKind.wrap_i64]; omega
          have HROW := Lib.hid hrow
          clear ht4 k4 R4 hrow hl HS3 K3 R3 HP4 q0 q1 q2 q3 q4 q5 c1
          obtain ⟨w5, hw5⟩ : ∃ w5, (w4.setCell ⟨g, a * 5 + 2, none⟩ (.int .i64 (l : Int))).drew = w5 := ⟨_, rfl⟩
          have k5 : Keep (fun i => i = g) w4 w5 := by rw [← hw5]; exact (keep1 w4 g (a * 5 + 2) _).drew
          have R5 : Hid (RefAt Zp w5 g (t4.set a ⟨(t a).kind, l, (t a).data, (t a).entries⟩)) := Lib.hid (by
            have h5 := R4h.out.setLinks ha64 l
            rw [HROW.out] at h5
            rw [← hw5]
            exact h5.kept (KF.refl _).drew)
          have HW5 := Lib.hid hw5
          have HS5 := Lib.hid (HS4.out.kept k5 (by have := HLE.out; omega) (by have := HLE.out; omega) (by have := HLE.out; omega))
          have K5 := Lib.hid (Keep.trans K4.out k5 (fun _ _ h => h))
          clear hw5 k5
          go_region
          rw [HW5.out]
          clear c2 f2 HW5
          have e5 : (t4.set a ⟨(t a).kind, l, (t a).data, (t a).entries⟩) a = ⟨(t a).kind, l, (t a).data, (t a).entries⟩ := Tr.set_same a _
          have c2 := (R5.out.node a ha64).links
          rw [e5] at c2
          rcases Nat.eq_zero_or_pos l with hl0 | hl0
          · subst hl0
            have HT6 : Hid (unlinked t a a' x = t4.set a ⟨0, 0, [], []⟩) := Lib.hid (by rw [HGT.out, if_pos HLL.out])
            have c0 := (R5.out.node a ha64).num
            have c1 := (R5.out.node a ha64).kind
            rw [e5] at c0 c1
            rw [if_neg HKA.out] at c0
            obtain ⟨A5, x5, c3, _⟩ := (R5.out.node a ha64).data
            obtain ⟨A6, x6, c4, _⟩ := (R5.out.node a ha64).ents
            rw [e5] at c3 c4
            dsimp only at c0 c1 c3 c4
            have y0 := R5.out.free (a * 5)
            have y1 := R5.out.free (a * 5 + 1)
            have y2 := R5.out.free (a * 5 + 2)
            have y3 := R5.out.free (a * 5 + 3)
            have y4 := R5.out.free (a * 5 + 4)
            obtain ⟨w6, hw6⟩ : ∃ w6, (((((w5.setCell ⟨g, a * 5, none⟩ (.int .i64 0)).setCell ⟨g, a * 5 + 1, none⟩ (.int .i64 0)).setCell ⟨g, a * 5 + 2, none⟩ (.int .i64 0)).setCell ⟨g, a * 5 + 3, none⟩ (.slice none 0 0)).setCell ⟨g, a * 5 + 4, none⟩ (.slice none 0 0)) = w6 := ⟨_, rfl⟩
            have R6 : Hid (RefAt Zp w6 g (t4.set a ⟨0, 0, [], []⟩)) := Lib.hid (by
              have h6 := R5.out.setNode ha64 0 0 0 (by simp)
              rw [rset_set] at h6
              rw [← hw6]
              exact h6)
            have k6 : Keep (fun i => i = g) w5 w6 := by
              rw [← hw6]
              exact keep5 w5 g _ _ _ _ _ _ _ _ _ _
            have HS6 := Lib.hid (HS5.out.kept k6 (by have := HLE.out; omega) (by have := HLE.out; omega) (by have := HLE.out; omega))
            have K6 := Lib.hid (Keep.trans K5.out k6 (fun _ _ h => h))
            have HW6 := Lib.hid hw6
            generalize (t a).data.length = ld at *
            generalize (t a).entries.length = le at *
            generalize (t a).kind = kda at *
            clear hw6 k6 e5 K5 HS5 R5 HS4 K4
            go_upto_region 41 with fail
            rw [HW6.out]
            clear HW6 c0 c1 c2 c3 c4 y0 y1 y2 y3 y4
            have FIN := Lib.hid (HS6.out.res.put (.int .i64 0) (.int .i64 0) (.int .i64 0) (.int .i64 0) (.slice none 0 0) (.slice none 0 0))
            obtain ⟨q0, q1, q2, q3, q4, q5⟩ := HS6.out.call.cells
            obtain ⟨r0, r1, r2, r3, r4, r5⟩ := HS6.out.res.cells
            obtain ⟨n0, n1, n2, n3, n4, n5⟩ := HS6.out.non.cells
            have z0 := HS6.out.res.free 0
            have z1 := HS6.out.res.free 1
            have z2 := HS6.out.res.free 2
            have z3 := HS6.out.res.free 3
            have z4 := HS6.out.res.free 4
            have z5 := HS6.out.res.free 5
            go_wp2_with fail
            obtain ⟨e1, e2⟩ := FIN.out
            obtain ⟨d0, d1, d2, d3, d4, d5⟩ := e1.cells
            clear FIN q0 q1 q2 q3 q4 q5 r0 r1 r2 r3 r4 r5 n0 n1 n2 n3 n4 n5 z0 z1 z2 z3 z4 z5
            refine bodyPost_ret (v := .tuple #[.agg zAns, .int .i64 0]) (by simp [results, Tryz.results27, go_sem, d0, d1, d2, d3, d4, d5, zAns]) rfl ?_
            have hle := HLE.out
            rw [HD.out]
            exact ⟨rfl, Keep.trans K6.out e2 (fun i hi (h : i = b + 1) => by omega), (by show RefAt Zp _ g (unlinked t a a' x); rw [HT6.out]; exact R6.out.keepFar HS6.out.res (by simp) (by simp) e2 (by omega))⟩
          · have HT5 : Hid (unlinked t a a' x = t4.set a ⟨(t a).kind, l, (t a).data, (t a).entries⟩) := Lib.hid (by rw [HGT.out, if_neg (by have := HLL.out; omega)]; have : (t a).links - 1 = l := (by have := HLL.out; omega); rw [this])
            have hl0' : ((l : Int) == 0) = false := by simp; omega
            clear e5
            have FIN := Lib.hid (HS5.out.res.put (.int .i64 0) (.int .i64 0) (.int .i64 0) (.int .i64 0) (.slice none 0 0) (.slice none 0 0))
            obtain ⟨q0, q1, q2, q3, q4, q5⟩ := HS5.out.call.cells
            obtain ⟨r0, r1, r2, r3, r4, r5⟩ := HS5.out.res.cells
            obtain ⟨n0, n1, n2, n3, n4, n5⟩ := HS5.out.non.cells
            have z0 := HS5.out.res.free 0
            have z1 := HS5.out.res.free 1
            have z2 := HS5.out.res.free 2
            have z3 := HS5.out.res.free 3
            have z4 := HS5.out.res.free 4
            have z5 := HS5.out.res.free 5
            go_wp2_with fail
            obtain ⟨e1, e2⟩ := FIN.out
            obtain ⟨d0, d1, d2, d3, d4, d5⟩ := e1.cells
            clear FIN q0 q1 q2 q3 q4 q5 r0 r1 r2 r3 r4 r5 n0 n1 n2 n3 n4 n5 z0 z1 z2 z3 z4 z5
            refine bodyPost_ret (v := .tuple #[.agg zAns, .int .i64 0]) (by simp [results, Tryz.results27, go_sem, d0, d1, d2, d3, d4, d5, zAns]) rfl ?_
            have hle := HLE.out
            rw [HD.out]
            exact ⟨rfl, Keep.trans K5.out e2 (fun i hi (h : i = b + 1) => by omega), (by show RefAt Zp _ g (unlinked t a a' x); rw [HT5.out]; exact R5.out.keepFar HS5.out.res (by simp) (by simp) e2 (by omega))⟩
        · have HD : Hid (doRmdir t s.data.toList = (errA 25, t)) := Lib.hid (by unfold doRmdir; rw [HE.out]; simp only [h1, he]; rfl)
          rw [he, List.length_cons] at c4
          have hpos : (0 : Int) < ((es0.length + 1 : Nat) : Int) := by omega
          clear h1 he
          have FIN := Lib.hid (HS3.out.res.put (.int .i64 0) (.int .i64 0) (.int .i64 0) (.int .i64 0) (.slice none 0 0) (.slice none 0 0))
          obtain ⟨q0, q1, q2, q3, q4, q5⟩ := HS3.out.call.cells
          obtain ⟨r0, r1, r2, r3, r4, r5⟩ := HS3.out.res.cells
          obtain ⟨n0, n1, n2, n3, n4, n5⟩ := HS3.out.non.cells
          have z0 := HS3.out.res.free 0
          have z1 := HS3.out.res.free 1
          have z2 := HS3.out.res.free 2
          have z3 := HS3.out.res.free 3
          have z4 := HS3.out.res.free 4
          have z5 := HS3.out.res.free 5
          go_wp2_with fail
          obtain ⟨e1, e2⟩ := FIN.out
          obtain ⟨d0, d1, d2, d3, d4, d5⟩ := e1.cells
          clear FIN q0 q1 q2 q3 q4 q5 r0 r1 r2 r3 r4 r5 n0 n1 n2 n3 n4 n5 z0 z1 z2 z3 z4 z5
          refine bodyPost_ret (v := .tuple #[.agg zAns, .int .i64 25]) (by simp [results, Tryz.results27, go_sem, d0, d1, d2, d3, d4, d5, zAns]) rfl ?_
          have hle := HLE.out
          rw [HD.out]
          have kE := Keep.trans K3.out e2 (fun i hi (h : i = b + 1) => by omega)
          exact ⟨rfl, Keep.mono kE (fun _ _ h => h.elim), HT.out.kept kE⟩
      · rw [h2] at c1
        have HD : Hid (doRmdir t s.data.toList = (errA 23, t)) := Lib.hid (by unfold doRmdir; rw [HE.out]; simp only [h2]; rfl)
        clear h2
        have FIN := Lib.hid (HS3.out.res.put (.int .i64 0) (.int .i64 0) (.int .i64 0) (.int .i64 0) (.slice none 0 0) (.slice none 0 0))
        obtain ⟨q0, q1, q2, q3, q4, q5⟩ := HS3.out.call.cells
        obtain ⟨r0, r1, r2, r3, r4, r5⟩ := HS3.out.res.cells
        obtain ⟨n0, n1, n2, n3, n4, n5⟩ := HS3.out.non.cells
        have z0 := HS3.out.res.free 0
        have z1 := HS3.out.res.free 1
        have z2 := HS3.out.res.free 2
        have z3 := HS3.out.res.free 3
        have z4 := HS3.out.res.free 4
        have z5 := HS3.out.res.free 5
        go_wp2_with fail
        obtain ⟨e1, e2⟩ := FIN.out
        obtain ⟨d0, d1, d2, d3, d4, d5⟩ := e1.cells
        clear FIN q0 q1 q2 q3 q4 q5 r0 r1 r2 r3 r4 r5 n0 n1 n2 n3 n4 n5 z0 z1 z2 z3 z4 z5
        refine bodyPost_ret (v := .tuple #[.agg zAns, .int .i64 23]) (by simp [results, Tryz.results27, go_sem, d0, d1, d2, d3, d4, d5, zAns]) rfl ?_
        have hle := HLE.out
        rw [HD.out]
        have kE := Keep.trans K3.out e2 (fun i hi (h : i = b + 1) => by omega)
        exact ⟨rfl, Keep.mono kE (fun _ _ h => h.elim), HT.out.kept kE⟩
end Go.Proofs.YtlkiaghpdjbfeaaGreatDoor
