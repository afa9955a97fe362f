/-
  The reference's do: cut.
-/
import Derived.Test.YtlkiaghpdjbfeaaGreatDoorPhRefStat
namespace Go.Proofs.YtlkiaghpdjbfeaaGreatDoor
open Go.RowKit
variable {Zp : Nat → Prop}

theorem rcut_err {t : Tr} {s : Txt} {k : Nat} {n : Int} (h : find t s = .error k) : doCut t s n = (errA k, t) := by unfold doCut; rw [findFile_err h]
theorem rcut_dir {t : Tr} {s : Txt} {a : Nat} {n : Int} (h : find t s = .ok a) (hk : (t a).kind = 1) : doCut t s n = (errA 24, t) := by unfold doCut; rw [findFile_dir h hk]
theorem rcut_file {t : Tr} {s : Txt} {a : Nat} {n : Int} (h : find t s = .ok a) (hk : (t a).kind = 2) : doCut t s n = if n < 0 then (errA 1, t) else if 512 < n then (errA 27, t) else (okA, t.bytes a (sized (t a).data n.toNat)) := by unfold doCut; rw [findFile_file h hk]
set_option maxRecDepth 100000 in
set_option maxHeartbeats 4000000 in
theorem rdo_cut (w : World) (g : Nat) (t : Tr) (off n : Int) (s : ByteArray) (o d : Value) (h : RefAt Zp w g t) (G : Good t) (hb : Small t) (hs : s.size ≤ 1000) :
    Calls Tryz.prog 27 #[.pointer (some ⟨g, 0, none⟩), .agg #[.int .i64 9, .string s, o, .int .i64 off, .int .i64 n, d]] w (RDid Zp g (doCut t s.data.toList n) w) := by
  have HT := Lib.hid h
  have HG := Lib.hid G
  have HSM := Lib.hid hb
  have HLT := Lib.hid h.lt
  have HU := Lib.hid fun W => rups_any s W hs
  have HF := Lib.hid fun W (s' : ByteArray) (k : KF w W) (hs' : s'.size ≤ 1000) => rfind_any s' W g t (h.kept k) G hb hs'
  have HSS := Lib.hid hs
  clear h G hb hs
  obtain ⟨b, hb⟩ : ∃ b, w.heap.size = b := ⟨_, rfl⟩
  obtain ⟨W, hW⟩ : ∃ W, (((w.alloc (.cells #[.int .i64 9, .string s, o, .int .i64 off, .int .i64 n, d] 31)).alloc (.cells #[.int .i64 0, .int .i64 0, .int .i64 0, .int .i64 0, .slice none 0 0, .slice none 0 0] 36)).alloc (.cells #[.int .i64 0, .int .i64 0, .int .i64 0, .int .i64 0, .slice none 0 0, .slice none 0 0] 36)) = W := ⟨_, rfl⟩
  have S := DoS.new w 9 off n (.string s) o d
  rw [hb, hW] at S
  have kW : KF w W := by rw [← hW]; exact (((KF.refl w).alloc _).alloc _).alloc _
  have HW := Lib.hid hW
  have HBB := Lib.hid hb
  have HS := Lib.hid S
  have HK := Lib.hid kW
  clear hb hW S kW
  go_enter Tryz.func27, Tryz.ntmps27
  go_upto_region 2 with fail
  rw [HW.out, HBB.out]
  have HLE : Hid (w.heap.size ≤ b ∧ g < b) := Lib.hid ⟨Nat.le_of_eq HBB.out, by have := HBB.out; have := HLT.out; omega⟩
  clear HW HBB
  obtain ⟨q0, q1, q2, q3, q4, q5⟩ := HS.out.call.cells
  go_wp2_with fail
  refine (HU.out W).mono ?_
  rintro e w1 ⟨A, X, k, rfl, hA, k1, _⟩
  have HS1 := Lib.hid (HS.out.kept k1 (fun h => h) (fun h => h) (fun h => h))
  have K1 := Lib.hid (KF.trans HK.out k1)
  have HA := Lib.hid hA
  clear q0 q1 q2 q3 q4 q5 k1 hA HU HS HK
  obtain ⟨q0, q1, q2, q3, q4, q5⟩ := HS1.out.call.cells
  obtain ⟨bb, hbb⟩ : ∃ bb, ((k : Int) != 0) = bb := ⟨_, rfl⟩
  cases bb
  all_goals
    go_wp2_with fail
    refine (HF.out w1 s K1.out HSS.out).mono ?_
    rintro e w2 ⟨k2, ⟨kk, hk, hk0, rfl⟩ | ⟨a, ha, hka, rfl⟩⟩
    · have HS2 := Lib.hid (HS1.out.kept k2 (fun h => h) (fun h => h) (fun h => h))
      have K2 := Lib.hid (KF.trans K1.out k2)
      have HE := Lib.hid hk
      have hk0' : ((kk : Int) != 0) = true := by simp; omega
      clear q0 q1 q2 q3 q4 q5 k2 hk hk0 HS1 K1
      have FIN := Lib.hid (HS2.out.res.put (.int .i64 0) (.int .i64 0) (.int .i64 0) (.int .i64 0) (.slice none 0 0) (.slice none 0 0))
      obtain ⟨q0, q1, q2, q3, q4, q5⟩ := HS2.out.call.cells
      obtain ⟨r0, r1, r2, r3, r4, r5⟩ := HS2.out.res.cells
      obtain ⟨n0, n1, n2, n3, n4, n5⟩ := HS2.out.non.cells
      have z0 := HS2.out.res.free 0
      have z1 := HS2.out.res.free 1
      have z2 := HS2.out.res.free 2
      have z3 := HS2.out.res.free 3
      have z4 := HS2.out.res.free 4
      have z5 := HS2.out.res.free 5
      go_wp2_with fail
      obtain ⟨e1, e2⟩ := FIN.out
      obtain ⟨d0, d1, d2, d3, d4, d5⟩ := e1.cells
      clear FIN q0 q1 q2 q3 q4 q5 r0 r1 r2 r3 r4 r5 n0 n1 n2 n3 n4 n5 z0 z1 z2 z3 z4 z5
      refine bodyPost_ret (v := .tuple #[.agg zAns, .int .i64 (kk : Int)]) (by simp [results, Tryz.results27, go_sem, d0, d1, d2, d3, d4, d5, zAns]) rfl ?_
      have hle := HLE.out
      rw [rcut_err HE.out]
      have kE := Keep.trans K2.out e2 (fun i hi (h : i = b + 1) => by omega)
      exact ⟨rfl, Keep.mono kE (fun _ _ h => h.elim), HT.out.kept kE⟩
    · have HS2 := Lib.hid (HS1.out.kept k2 (fun h => h) (fun h => h) (fun h => h))
      have K2 := Lib.hid (KF.trans K1.out k2)
      have HE := Lib.hid ha
      have ha64 := HG.out.lt hka
      have ha64' : (a : Int) < 64 := by omega
      have HKA := Lib.hid hka
      clear q0 q1 q2 q3 q4 q5 k2 ha hka HS1 K1
      go_wp2_with fail
      refine (HF.out w2 A K2.out HA.out).mono ?_
      have HQ : ∀ e w3, Finds t A.data.toList w2 e w3 → ∃ z0 z1 : Int, e = .returned (.tuple #[.int .i64 z0, .int .i64 z1]) ∧ KF w2 w3 := by
        rintro e w3 ⟨k3, ⟨kk, _, _, rfl⟩ | ⟨a', _, _, rfl⟩⟩
        · exact ⟨_, _, rfl, k3⟩
        · exact ⟨_, _, rfl, k3⟩
      intro e w3 he
      obtain ⟨z0', z1', rfl, k3⟩ := HQ e w3 he
      have HS3 := Lib.hid (HS2.out.kept k3 (fun h => h) (fun h => h) (fun h => h))
      have K3 := Lib.hid (KF.trans K2.out k3)
      have R3 := Lib.hid (HT.out.kept K3.out)
      have c1 := (R3.out.node a ha64).kind
      obtain ⟨A3, x3, c3, hrd, _⟩ := (R3.out.node a ha64).data
      have HRD := Lib.hid hrd
      have g3 := R3.out.free (a * 5 + 3)
      clear he HQ k3 HS2 K2 hrd
      rcases HG.out.two HKA.out with h1 | h2
      · rw [h1] at c1
        have H1 := Lib.hid h1
        clear h1 c3
        have FIN := Lib.hid (HS3.out.res.put (.int .i64 0) (.int .i64 0) (.int .i64 0) (.int .i64 0) (.slice none 0 0) (.slice none 0 0))
        obtain ⟨q0, q1, q2, q3, q4, q5⟩ := HS3.out.call.cells
        obtain ⟨r0, r1, r2, r3, r4, r5⟩ := HS3.out.res.cells
        obtain ⟨n0, n1, n2, n3, n4, n5⟩ := HS3.out.non.cells
        have z0 := HS3.out.res.free 0
        have z1 := HS3.out.res.free 1
        have z2 := HS3.out.res.free 2
        have z3 := HS3.out.res.free 3
        have z4 := HS3.out.res.free 4
        have z5 := HS3.out.res.free 5
        go_wp2_with fail
        obtain ⟨e1, e2⟩ := FIN.out
        obtain ⟨d0, d1, d2, d3, d4, d5⟩ := e1.cells
        clear FIN q0 q1 q2 q3 q4 q5 r0 r1 r2 r3 r4 r5 n0 n1 n2 n3 n4 n5 z0 z1 z2 z3 z4 z5
        refine bodyPost_ret (v := .tuple #[.agg zAns, .int .i64 24]) (by simp [results, Tryz.results27, go_sem, d0, d1, d2, d3, d4, d5, zAns]) rfl ?_
        have hle := HLE.out
        rw [rcut_dir HE.out H1.out]
        have kE := Keep.trans K3.out e2 (fun i hi (h : i = b + 1) => by omega)
        exact ⟨rfl, Keep.mono kE (fun _ _ h => h.elim), HT.out.kept kE⟩
      · rw [h2] at c1
        have H2 := Lib.hid h2
        have hd512 := (HG.out.file a h2).2
        clear h2
        rcases Int.lt_or_le n 0 with hn | hn
        · have HD : Hid (doCut t s.data.toList n = (errA 1, t)) := Lib.hid (by rw [rcut_file HE.out H2.out, if_pos hn])
          have FIN := Lib.hid (HS3.out.res.put (.int .i64 0) (.int .i64 0) (.int .i64 0) (.int .i64 0) (.slice none 0 0) (.slice none 0 0))
          obtain ⟨q0, q1, q2, q3, q4, q5⟩ := HS3.out.call.cells
          obtain ⟨r0, r1, r2, r3, r4, r5⟩ := HS3.out.res.cells
          obtain ⟨n0, n1, n2, n3, n4, n5⟩ := HS3.out.non.cells
          have z0 := HS3.out.res.free 0
          have z1 := HS3.out.res.free 1
          have z2 := HS3.out.res.free 2
          have z3 := HS3.out.res.free 3
          have z4 := HS3.out.res.free 4
          have z5 := HS3.out.res.free 5
          go_wp2_with fail
          obtain ⟨e1, e2⟩ := FIN.out
          obtain ⟨d0, d1, d2, d3, d4, d5⟩ := e1.cells
          clear FIN q0 q1 q2 q3 q4 q5 r0 r1 r2 r3 r4 r5 n0 n1 n2 n3 n4 n5 z0 z1 z2 z3 z4 z5
          refine bodyPost_ret (v := .tuple #[.agg zAns, .int .i64 1]) (by simp [results, Tryz.results27, go_sem, d0, d1, d2, d3, d4, d5, zAns]) rfl ?_
          have hle := HLE.out
          rw [HD.out]
          have kE := Keep.trans K3.out e2 (fun i hi (h : i = b + 1) => by omega)
          exact ⟨rfl, Keep.mono kE (fun _ _ h => h.elim), HT.out.kept kE⟩
        · have hn' : ¬ n < 0 := by omega
          rcases Int.lt_or_le 512 n with hn2 | hn2
          · have HD : Hid (doCut t s.data.toList n = (errA 27, t)) := Lib.hid (by rw [rcut_file HE.out H2.out, if_neg hn', if_pos hn2])
            have FIN := Lib.hid (HS3.out.res.put (.int .i64 0) (.int .i64 0) (.int .i64 0) (.int .i64 0) (.slice none 0 0) (.slice none 0 0))
            obtain ⟨q0, q1, q2, q3, q4, q5⟩ := HS3.out.call.cells
            obtain ⟨r0, r1, r2, r3, r4, r5⟩ := HS3.out.res.cells
            obtain ⟨n0, n1, n2, n3, n4, n5⟩ := HS3.out.non.cells
            have z0 := HS3.out.res.free 0
            have z1 := HS3.out.res.free 1
            have z2 := HS3.out.res.free 2
            have z3 := HS3.out.res.free 3
            have z4 := HS3.out.res.free 4
            have z5 := HS3.out.res.free 5
            go_wp2_with fail
            obtain ⟨e1, e2⟩ := FIN.out
            obtain ⟨d0, d1, d2, d3, d4, d5⟩ := e1.cells
            clear FIN q0 q1 q2 q3 q4 q5 r0 r1 r2 r3 r4 r5 n0 n1 n2 n3 n4 n5 z0 z1 z2 z3 z4 z5
            refine bodyPost_ret (v := .tuple #[.agg zAns, .int .i64 27]) (by simp [results, Tryz.results27, go_sem, d0, d1, d2, d3, d4, d5, zAns]) rfl ?_
            have hle := HLE.out
            rw [HD.out]
            have kE := Keep.trans K3.out e2 (fun i hi (h : i = b + 1) => by omega)
            exact ⟨rfl, Keep.mono kE (fun _ _ h => h.elim), HT.out.kept kE⟩
          · have hn2' : ¬ 512 < n := by omega
            have HD : Hid (doCut t s.data.toList n = (okA, t.bytes a (sized (t a).data n.toNat))) := Lib.hid (by rw [rcut_file HE.out H2.out, if_neg hn', if_neg hn2'])
            obtain ⟨m, rfl⟩ : ∃ m : Nat, n = (m : Int) := ⟨n.toNat, by omega⟩
            rw [Int.toNat_natCast] at HD
            have hm512 : m ≤ 512 := by omega
            obtain ⟨L1, hL1⟩ : ∃ L1, (t a).data.length = L1 := ⟨_, rfl⟩
            rw [hL1] at c3 hd512
            have HL1 := Lib.hid hL1
            have hgb : b ≠ g := by have := HLE.out; omega
            have hgb2 : g ≠ b := fun e => hgb e.symm
            have HZ : Hid (∀ W, KF w3 W → Calls Tryz.prog 59 #[.slice A3 L1 x3, .int .i64 (m : Int)] W fun e w' => ∃ A5 n5 c5, e = .returned (.slice A5 n5 c5) ∧ w'.cell? ⟨b, 4, none⟩ = some (.int .i64 (m : Int)) ∧ w'.cell? ⟨g, a * 5 + 3, none⟩ = some (.slice A3 L1 x3) ∧ w'.frozen? ⟨g, a * 5 + 3, none⟩ = false ∧ KF w3 w' ∧ Hid (Own 5 w' (.slice A5 n5 c5) (sized (t a).data m)) ∧ Hid (NB w3 (.slice A5 n5 c5))) := Lib.hid fun W kW => by
              have hW := kW
              refine (rsize_any A3 (t a).data L1 x3 m W HL1.out.symm (by omega) (by omega) ((HRD.out.keepF kW (Nat.le_refl _)).more kW.size)).mono ?_
              rintro e w' ⟨A5, n5, c5, rfl, o5, nb5, k5⟩
              have kk := KF.trans kW k5
              have D5 := HS3.out.kept kk (fun h => h) (fun h => h) (fun h => h)
              have g5 := (R3.out.kept kk).free (a * 5 + 3)
              exact ⟨A5, n5, c5, rfl, D5.call.cells.2.2.2.2.1, (KF.cell kk (p := ⟨g, a * 5 + 3, none⟩) R3.out.lt).trans c3, g5, kk, Lib.hid o5, Lib.hid (nb5.older kW.size)⟩
            obtain ⟨q0, q1, q2, q3, q4, q5⟩ := HS3.out.call.cells
            clear hL1 hn' hn hn2
            go_upto_region 101 with fail
            go_region_held3 (fun W => W.cell? ⟨b, 4, none⟩ = some (.int .i64 (m : Int))) (go_keep)
              (first | (go_at_call 59; refine (HZ.out _ ?_).mono ?_; (first | exact KF.refl _ | exact (KF.refl _).drew | exact (KF.refl _).drewN _ | assumption); rintro e w5 ⟨A5, n5, c5, rfl, s0, s1, s2, k5, HO5, HN5⟩))
            obtain ⟨w6, hw6⟩ : ∃ w6, w5.setCell ⟨g, a * 5 + 3, none⟩ (.slice A5 n5 c5) = w6 := ⟨_, rfl⟩
            have k56 := keep1 w5 g (a * 5 + 3) (.slice A5 n5 c5)
            rw [hw6] at k56
            have k36 : Keep (fun i => i = g) w3 w6 := Keep.trans (Keep.mono k5 (fun _ _ h => h.elim) : Keep (fun i => i = g) w3 w5) k56 (fun _ _ h => h)
            have HS6 := Lib.hid (HS3.out.kept k36 (by have := HLE.out; omega) (by have := HLE.out; omega) (by have := HLE.out; omega))
            have K6 := Lib.hid (Keep.trans (Keep.mono K3.out (fun _ _ h => h.elim) : Keep (fun i => i = g) w w3) k36 (fun _ _ h => h))
            have HR6 : Hid (RefAt Zp w6 g (t.bytes a (sized (t a).data m))) := Lib.hid (by
              obtain ⟨A6, c6, e6, _, _, rd6, ob6⟩ := HO5.out.shape
              have e7 := e6
              injection e7 with e8 e9 e10
              subst e8 e10
              rw [← hw6]
              refine (R3.out.kept k5).setData ha64 e9 rd6 (fun ad had => ?_) (fun ad had => .inr (R3.out.new _ (HN5.out ad.block ((ob6 ad.block).2 ⟨ad, had, rfl⟩))))
              have h1 := HN5.out ad.block ((ob6 ad.block).2 ⟨ad, had, rfl⟩)
              have h2 := R3.out.lt
              omega)
            rw [hw6]
            clear hw6 k56 k36 k5 s0 s1 s2 HO5 HN5 HZ q0 q1 q2 q3 q4 q5 c1 c3 g3 hd512 HL1
            have FIN := Lib.hid (HS6.out.res.put (.int .i64 0) (.int .i64 0) (.int .i64 0) (.int .i64 0) (.slice none 0 0) (.slice none 0 0))
            obtain ⟨q0, q1, q2, q3, q4, q5⟩ := HS6.out.call.cells
            obtain ⟨r0, r1, r2, r3, r4, r5⟩ := HS6.out.res.cells
            obtain ⟨n0, n1, n2, n3, n4, n5⟩ := HS6.out.non.cells
            have z0 := HS6.out.res.free 0
            have z1 := HS6.out.res.free 1
            have z2 := HS6.out.res.free 2
            have z3 := HS6.out.res.free 3
            have z4 := HS6.out.res.free 4
            have z5 := HS6.out.res.free 5
            go_wp2_with fail
            obtain ⟨e1, e2⟩ := FIN.out
            obtain ⟨d0, d1, d2, d3, d4, d5⟩ := e1.cells
            clear FIN q0 q1 q2 q3 q4 q5 r0 r1 r2 r3 r4 r5 n0 n1 n2 n3 n4 n5 z0 z1 z2 z3 z4 z5
            refine bodyPost_ret (v := .tuple #[.agg zAns, .int .i64 0]) (by simp [results, Tryz.results27, go_sem, d0, d1, d2, d3, d4, d5, zAns]) rfl ?_
            have hle := HLE.out
            rw [HD.out]
            exact ⟨rfl, Keep.trans K6.out e2 (fun i hi (h : i = b + 1) => by omega), HR6.out.keepFar HS6.out.res (by simp) (by simp) e2 (by omega)⟩
end Go.Proofs.YtlkiaghpdjbfeaaGreatDoor
