/-
  The reference's do: link.
-/
import Derived.Test.YtlkiaghpdjbfeaaGreatDoorPhRefGone
namespace Go.Proofs.YtlkiaghpdjbfeaaGreatDoor
open Go.RowKit
variable {Zp : Nat → Prop}

/-- The root has no name: it is a directory. -/
theorem find_top {t : Tr} {s : Txt} {a : Nat} (G : Good t) (hp : pathM s = none ∨ pathM s = some []) (h : find t s = .ok a) : (t a).kind = 1 := by
  unfold find at h
  rcases hp with hp | hp <;> rw [hp] at h
  · cases h
  · simp only [walk] at h
    injection h with h
    rw [← h]
    exact G.root.1
set_option maxRecDepth 100000 in
set_option maxHeartbeats 4000000 in
theorem rdo_link (w : World) (g : Nat) (t : Tr) (off n : Int) (s o : ByteArray) (d : Value) (h : RefAt Zp w g t) (G : Good t) (hb : Small t) (hs : s.size ≤ 1000) (ho : o.size ≤ 1000) :
    Calls Tryz.prog 27 #[.pointer (some ⟨g, 0, none⟩), .agg #[.int .i64 5, .string s, .string o, .int .i64 off, .int .i64 n, d]] w (RDid Zp g (doLink t s.data.toList o.data.toList) w) := by
  have HT := Lib.hid h
  have HG := Lib.hid G
  have HSM := Lib.hid hb
  have HLT := Lib.hid h.lt
  have HF := Lib.hid fun W (s' : ByteArray) (k : KF w W) (hs' : s'.size ≤ 1000) => rfind_any s' W g t (h.kept k) G hb hs'
  have HSS := Lib.hid hs
  have HPL := Lib.hid fun W (s' : ByteArray) (k : KF w W) (hs' : s'.size ≤ 1000) => rplace_any s' W g t (h.kept k) G hb hs'
  clear h G hb
  rcases pathM_cases s.data.toList with hp | ⟨ns, x, hp⟩
  · have HU := Lib.hid fun W => rup_no s W hs hp
    have HROOT : Hid (∀ a, find t s.data.toList = .ok a → (t a).kind = 1) := Lib.hid fun a ha => find_top HG.out hp ha
    clear hp hs HPL
    obtain ⟨b, hb⟩ : ∃ b, w.heap.size = b := ⟨_, rfl⟩
    obtain ⟨W, hW⟩ : ∃ W, (((w.alloc (.cells #[.int .i64 5, .string s, .string o, .int .i64 off, .int .i64 n, d] 31)).alloc (.cells #[.int .i64 0, .int .i64 0, .int .i64 0, .int .i64 0, .slice none 0 0, .slice none 0 0] 36)).alloc (.cells #[.int .i64 0, .int .i64 0, .int .i64 0, .int .i64 0, .slice none 0 0, .slice none 0 0] 36)) = W := ⟨_, rfl⟩
    have S := DoS.new w 5 off n (.string s) (.string o) d
    rw [hb, hW] at S
    have kW : KF w W := by rw [← hW]; exact (((KF.refl w).alloc _).alloc _).alloc _
    have HW := Lib.hid hW
    have HBB := Lib.hid hb
    have HS := Lib.hid S
    have HK := Lib.hid kW
    clear hb hW S kW
    go_enter Tryz.func27, Tryz.ntmps27
    go_upto_region 2 with fail
    rw [HW.out, HBB.out]
    have HLE : Hid (w.heap.size ≤ b ∧ g < b) := Lib.hid ⟨Nat.le_of_eq HBB.out, by have := HBB.out; have := HLT.out; omega⟩
    clear HW HBB
    obtain ⟨q0, q1, q2, q3, q4, q5⟩ := HS.out.call.cells
    go_wp2_with fail
    refine (HU.out W).mono ?_
    rintro e w1 ⟨rfl, k1⟩
    have HS1 := Lib.hid (HS.out.kept k1 (fun h => h) (fun h => h) (fun h => h))
    have K1 := Lib.hid (KF.trans HK.out k1)
    clear q0 q1 q2 q3 q4 q5 k1 HU HS HK
    obtain ⟨q0, q1, q2, q3, q4, q5⟩ := HS1.out.call.cells
    go_wp2_with fail
    refine (HF.out w1 s K1.out HSS.out).mono ?_
    rintro e w2 ⟨k2, ⟨kk, hk, hk0, rfl⟩ | ⟨a, ha, hka, rfl⟩⟩
    · have HS2 := Lib.hid (HS1.out.kept k2 (fun h => h) (fun h => h) (fun h => h))
      have K2 := Lib.hid (KF.trans K1.out k2)
      have HD : Hid (doLink t s.data.toList o.data.toList = (errA kk, t)) := Lib.hid (by unfold doLink; rw [hk])
      have hk0' : ((kk : Int) != 0) = true := by simp; omega
      clear q0 q1 q2 q3 q4 q5 k2 hk hk0 HS1 K1 HF
      have FIN := Lib.hid (HS2.out.res.put (.int .i64 0) (.int .i64 0) (.int .i64 0) (.int .i64 0) (.slice none 0 0) (.slice none 0 0))
      obtain ⟨q0, q1, q2, q3, q4, q5⟩ := HS2.out.call.cells
      obtain ⟨r0, r1, r2, r3, r4, r5⟩ := HS2.out.res.cells
      obtain ⟨n0, n1, n2, n3, n4, n5⟩ := HS2.out.non.cells
      have z0 := HS2.out.res.free 0
      have z1 := HS2.out.res.free 1
      have z2 := HS2.out.res.free 2
      have z3 := HS2.out.res.free 3
      have z4 := HS2.out.res.free 4
      have z5 := HS2.out.res.free 5
      go_wp2_with fail
      obtain ⟨e1, e2⟩ := FIN.out
      obtain ⟨d0, d1, d2, d3, d4, d5⟩ := e1.cells
      clear FIN q0 q1 q2 q3 q4 q5 r0 r1 r2 r3 r4 r5 n0 n1 n2 n3 n4 n5 z0 z1 z2 z3 z4 z5
      refine bodyPost_ret (v := .tuple #[.agg zAns, .int .i64 (kk : Int)]) (by simp [results, Tryz.results27, go_sem, d0, d1, d2, d3, d4, d5, zAns]) rfl ?_
      have hle := HLE.out
      rw [HD.out]
      have kE := Keep.trans K2.out e2 (fun i hi (h : i = b + 1) => by omega)
      exact ⟨rfl, Keep.mono kE (fun _ _ h => h.elim), HT.out.kept kE⟩
    · have HS2 := Lib.hid (HS1.out.kept k2 (fun h => h) (fun h => h) (fun h => h))
      have K2 := Lib.hid (KF.trans K1.out k2)
      have h1 := HROOT.out a ha
      have HD : Hid (doLink t s.data.toList o.data.toList = (errA 24, t)) := Lib.hid (by unfold doLink; rw [ha]; simp only [h1, if_true])
      have ha64 := HG.out.lt hka
      have ha64' : (a : Int) < 64 := by omega
      have H1 := Lib.hid h1
      clear q0 q1 q2 q3 q4 q5 k2 ha hka HS1 K1 h1
      obtain ⟨q0, q1, q2, q3, q4, q5⟩ := HS2.out.call.cells
      go_wp2_with fail
      refine (HF.out w2 ⟨#[]⟩ K2.out (by decide)).mono ?_
      have HQ : ∀ e w3, Finds t (⟨#[]⟩ : ByteArray).data.toList w2 e w3 → ∃ z0 z1 : Int, e = .returned (.tuple #[.int .i64 z0, .int .i64 z1]) ∧ KF w2 w3 := by
        rintro e w3 ⟨k3, ⟨kk, _, _, rfl⟩ | ⟨a', _, _, rfl⟩⟩
        · exact ⟨_, _, rfl, k3⟩
        · exact ⟨_, _, rfl, k3⟩
      intro e w3 he
      obtain ⟨z0', z1', rfl, k3⟩ := HQ e w3 he
      have HS3 := Lib.hid (HS2.out.kept k3 (fun h => h) (fun h => h) (fun h => h))
      have K3 := Lib.hid (KF.trans K2.out k3)
      have c1 := ((HT.out.kept K3.out).node a ha64).kind
      rw [H1.out] at c1
      clear q0 q1 q2 q3 q4 q5 k3 he HQ HS2 K2 HF
      have FIN := Lib.hid (HS3.out.res.put (.int .i64 0) (.int .i64 0) (.int .i64 0) (.int .i64 0) (.slice none 0 0) (.slice none 0 0))
      obtain ⟨q0, q1, q2, q3, q4, q5⟩ := HS3.out.call.cells
      obtain ⟨r0, r1, r2, r3, r4, r5⟩ := HS3.out.res.cells
      obtain ⟨n0, n1, n2, n3, n4, n5⟩ := HS3.out.non.cells
      have z0 := HS3.out.res.free 0
      have z1 := HS3.out.res.free 1
      have z2 := HS3.out.res.free 2
      have z3 := HS3.out.res.free 3
      have z4 := HS3.out.res.free 4
      have z5 := HS3.out.res.free 5
      go_wp2_with fail
      obtain ⟨e1, e2⟩ := FIN.out
      obtain ⟨d0, d1, d2, d3, d4, d5⟩ := e1.cells
      clear FIN q0 q1 q2 q3 q4 q5 r0 r1 r2 r3 r4 r5 n0 n1 n2 n3 n4 n5 z0 z1 z2 z3 z4 z5
      refine bodyPost_ret (v := .tuple #[.agg zAns, .int .i64 24]) (by simp [results, Tryz.results27, go_sem, d0, d1, d2, d3, d4, d5, zAns]) rfl ?_
      have hle := HLE.out
      rw [HD.out]
      have kE := Keep.trans K3.out e2 (fun i hi (h : i = b + 1) => by omega)
      exact ⟨rfl, Keep.mono kE (fun _ _ h => h.elim), HT.out.kept kE⟩
  · have HU := Lib.hid fun W => rup_yes s W ns x hs hp
    have HJS : Hid ((ba (joinM ns)).size ≤ 1000) := Lib.hid (by
      obtain ⟨_, h8, hnm⟩ := pathM_some hp
      rw [ba_size]
      show (47 :: joined ns).length ≤ _
      have := joined_le ns fun q hq => hnm q (by simp [hq])
      rw [List.length_append, List.length_cons, List.length_nil] at h8
      rw [List.length_cons]
      omega)
    clear hp hs
    obtain ⟨b, hb⟩ : ∃ b, w.heap.size = b := ⟨_, rfl⟩
    obtain ⟨W, hW⟩ : ∃ W, (((w.alloc (.cells #[.int .i64 5, .string s, .string o, .int .i64 off, .int .i64 n, d] 31)).alloc (.cells #[.int .i64 0, .int .i64 0, .int .i64 0, .int .i64 0, .slice none 0 0, .slice none 0 0] 36)).alloc (.cells #[.int .i64 0, .int .i64 0, .int .i64 0, .int .i64 0, .slice none 0 0, .slice none 0 0] 36)) = W := ⟨_, rfl⟩
    have S := DoS.new w 5 off n (.string s) (.string o) d
    rw [hb, hW] at S
    have kW : KF w W := by rw [← hW]; exact (((KF.refl w).alloc _).alloc _).alloc _
    have HW := Lib.hid hW
    have HBB := Lib.hid hb
    have HS := Lib.hid S
    have HK := Lib.hid kW
    clear hb hW S kW
    go_enter Tryz.func27, Tryz.ntmps27
    go_upto_region 2 with fail
    rw [HW.out, HBB.out]
    have HLE : Hid (w.heap.size ≤ b ∧ g < b) := Lib.hid ⟨Nat.le_of_eq HBB.out, by have := HBB.out; have := HLT.out; omega⟩
    clear HW HBB
    obtain ⟨A, hA⟩ : ∃ A, ba (joinM ns) = A := ⟨_, rfl⟩
    obtain ⟨X, hX⟩ : ∃ X, ba x = X := ⟨_, rfl⟩
    rw [hA, hX] at HU
    rw [hA] at HJS
    clear hA hX
    obtain ⟨q0, q1, q2, q3, q4, q5⟩ := HS.out.call.cells
    go_wp2_with fail
    refine (HU.out W).mono ?_
    rintro e w1 ⟨rfl, k1⟩
    have HS1 := Lib.hid (HS.out.kept k1 (fun h => h) (fun h => h) (fun h => h))
    have K1 := Lib.hid (KF.trans HK.out k1)
    clear q0 q1 q2 q3 q4 q5 k1 HU HS HK
    obtain ⟨q0, q1, q2, q3, q4, q5⟩ := HS1.out.call.cells
    go_wp2_with fail
    refine (HF.out w1 s K1.out HSS.out).mono ?_
    rintro e w2 ⟨k2, ⟨kk, hk, hk0, rfl⟩ | ⟨a, ha, hka, rfl⟩⟩
    · have HS2 := Lib.hid (HS1.out.kept k2 (fun h => h) (fun h => h) (fun h => h))
      have K2 := Lib.hid (KF.trans K1.out k2)
      have HD : Hid (doLink t s.data.toList o.data.toList = (errA kk, t)) := Lib.hid (by unfold doLink; rw [hk])
      have hk0' : ((kk : Int) != 0) = true := by simp; omega
      clear q0 q1 q2 q3 q4 q5 k2 hk hk0 HS1 K1 HF
      have FIN := Lib.hid (HS2.out.res.put (.int .i64 0) (.int .i64 0) (.int .i64 0) (.int .i64 0) (.slice none 0 0) (.slice none 0 0))
      obtain ⟨q0, q1, q2, q3, q4, q5⟩ := HS2.out.call.cells
      obtain ⟨r0, r1, r2, r3, r4, r5⟩ := HS2.out.res.cells
      obtain ⟨n0, n1, n2, n3, n4, n5⟩ := HS2.out.non.cells
      have z0 := HS2.out.res.free 0
      have z1 := HS2.out.res.free 1
      have z2 := HS2.out.res.free 2
      have z3 := HS2.out.res.free 3
      have z4 := HS2.out.res.free 4
      have z5 := HS2.out.res.free 5
      go_wp2_with fail
      obtain ⟨e1, e2⟩ := FIN.out
      obtain ⟨d0, d1, d2, d3, d4, d5⟩ := e1.cells
      clear FIN q0 q1 q2 q3 q4 q5 r0 r1 r2 r3 r4 r5 n0 n1 n2 n3 n4 n5 z0 z1 z2 z3 z4 z5
      refine bodyPost_ret (v := .tuple #[.agg zAns, .int .i64 (kk : Int)]) (by simp [results, Tryz.results27, go_sem, d0, d1, d2, d3, d4, d5, zAns]) rfl ?_
      have hle := HLE.out
      rw [HD.out]
      have kE := Keep.trans K2.out e2 (fun i hi (h : i = b + 1) => by omega)
      exact ⟨rfl, Keep.mono kE (fun _ _ h => h.elim), HT.out.kept kE⟩
    · have HS2 := Lib.hid (HS1.out.kept k2 (fun h => h) (fun h => h) (fun h => h))
      have K2 := Lib.hid (KF.trans K1.out k2)
      have HE := Lib.hid ha
      have ha64 := HG.out.lt hka
      have ha64' : (a : Int) < 64 := by omega
      have HKA := Lib.hid hka
      clear q0 q1 q2 q3 q4 q5 k2 ha hka HS1 K1
      obtain ⟨q0, q1, q2, q3, q4, q5⟩ := HS2.out.call.cells
      go_wp2_with fail
      refine (HF.out w2 A K2.out HJS.out).mono ?_
      have HQ : ∀ e w3, Finds t A.data.toList w2 e w3 → ∃ z0 z1 : Int, e = .returned (.tuple #[.int .i64 z0, .int .i64 z1]) ∧ KF w2 w3 := by
        rintro e w3 ⟨k3, ⟨kk, _, _, rfl⟩ | ⟨a', _, _, rfl⟩⟩
        · exact ⟨_, _, rfl, k3⟩
        · exact ⟨_, _, rfl, k3⟩
      intro e w3 he
      obtain ⟨z0', z1', rfl, k3⟩ := HQ e w3 he
      have HS3 := Lib.hid (HS2.out.kept k3 (fun h => h) (fun h => h) (fun h => h))
      have K3 := Lib.hid (KF.trans K2.out k3)
      have R3 := Lib.hid (HT.out.kept K3.out)
      have c1 := (R3.out.node a ha64).kind
      clear q0 q1 q2 q3 q4 q5 k3 he HQ HS2 K2 HF
      rcases HG.out.two HKA.out with h1 | h2
      · rw [h1] at c1
        have HD : Hid (doLink t s.data.toList o.data.toList = (errA 24, t)) := Lib.hid (by have ha := HE.out; exact (by unfold doLink; rw [ha]; simp only [h1, if_true]))
        clear h1
        have FIN := Lib.hid (HS3.out.res.put (.int .i64 0) (.int .i64 0) (.int .i64 0) (.int .i64 0) (.slice none 0 0) (.slice none 0 0))
        obtain ⟨q0, q1, q2, q3, q4, q5⟩ := HS3.out.call.cells
        obtain ⟨r0, r1, r2, r3, r4, r5⟩ := HS3.out.res.cells
        obtain ⟨n0, n1, n2, n3, n4, n5⟩ := HS3.out.non.cells
        have z0 := HS3.out.res.free 0
        have z1 := HS3.out.res.free 1
        have z2 := HS3.out.res.free 2
        have z3 := HS3.out.res.free 3
        have z4 := HS3.out.res.free 4
        have z5 := HS3.out.res.free 5
        go_wp2_with fail
        obtain ⟨e1, e2⟩ := FIN.out
        obtain ⟨d0, d1, d2, d3, d4, d5⟩ := e1.cells
        clear FIN q0 q1 q2 q3 q4 q5 r0 r1 r2 r3 r4 r5 n0 n1 n2 n3 n4 n5 z0 z1 z2 z3 z4 z5
        refine bodyPost_ret (v := .tuple #[.agg zAns, .int .i64 24]) (by simp [results, Tryz.results27, go_sem, d0, d1, d2, d3, d4, d5, zAns]) rfl ?_
        have hle := HLE.out
        rw [HD.out]
        have kE := Keep.trans K3.out e2 (fun i hi (h : i = b + 1) => by omega)
        exact ⟨rfl, Keep.mono kE (fun _ _ h => h.elim), HT.out.kept kE⟩
      · rw [h2] at c1
        have HAL := Lib.hid (links_small HG.out HSM.out HKA.out)
        have H2 := Lib.hid h2
        clear h2
        obtain ⟨q0, q1, q2, q3, q4, q5⟩ := HS3.out.call.cells
        go_upto_region 45 with fail
        go_wp2_with fail
        refine (HPL.out w3 o K3.out ho).mono ?_
        rintro e w4 ⟨k4, ⟨kk, hk, hk0, rfl⟩ | ⟨dd, y, hd, hd64, rfl⟩⟩
        · have HS4 := Lib.hid (HS3.out.kept k4 (fun h => h) (fun h => h) (fun h => h))
          have K4 := Lib.hid (KF.trans K3.out k4)
          have HD : Hid (doLink t s.data.toList o.data.toList = (errA kk, t)) := Lib.hid (by unfold doLink; rw [HE.out]; simp only [H2.out, hk]; rfl)
          have hk0' : ((kk : Int) != 0) = true := by simp; omega
          clear q0 q1 q2 q3 q4 q5 k4 hk hk0 HS3 K3 R3 c1 HPL
          have FIN := Lib.hid (HS4.out.res.put (.int .i64 0) (.int .i64 0) (.int .i64 0) (.int .i64 0) (.slice none 0 0) (.slice none 0 0))
          obtain ⟨q0, q1, q2, q3, q4, q5⟩ := HS4.out.call.cells
          obtain ⟨r0, r1, r2, r3, r4, r5⟩ := HS4.out.res.cells
          obtain ⟨n0, n1, n2, n3, n4, n5⟩ := HS4.out.non.cells
          have z0 := HS4.out.res.free 0
          have z1 := HS4.out.res.free 1
          have z2 := HS4.out.res.free 2
          have z3 := HS4.out.res.free 3
          have z4 := HS4.out.res.free 4
          have z5 := HS4.out.res.free 5
          go_wp2_with fail
          obtain ⟨e1, e2⟩ := FIN.out
          obtain ⟨d0, d1, d2, d3, d4, d5⟩ := e1.cells
          clear FIN q0 q1 q2 q3 q4 q5 r0 r1 r2 r3 r4 r5 n0 n1 n2 n3 n4 n5 z0 z1 z2 z3 z4 z5
          refine bodyPost_ret (v := .tuple #[.agg zAns, .int .i64 (kk : Int)]) (by simp [results, Tryz.results27, go_sem, d0, d1, d2, d3, d4, d5, zAns]) rfl ?_
          have hle := HLE.out
          rw [HD.out]
          have kE := Keep.trans K4.out e2 (fun i hi (h : i = b + 1) => by omega)
          exact ⟨rfl, Keep.mono kE (fun _ _ h => h.elim), HT.out.kept kE⟩
        · have HS4 := Lib.hid (HS3.out.kept k4 (fun h => h) (fun h => h) (fun h => h))
          have K4 := Lib.hid (KF.trans K3.out k4)
          have HD : Hid (doLink t s.data.toList o.data.toList = (okA, (t.rows dd (put (t dd).entries y a)).set a ⟨(t a).kind, (t a).links + 1, (t a).data, (t a).entries⟩)) := Lib.hid (by unfold doLink; rw [HE.out]; simp only [H2.out, hd]; rfl)
          obtain ⟨_, _, _, hdk, _⟩ := place_ok hd
          have hne : a ≠ dd := fun e => by
            have := H2.out
            rw [e, hdk] at this
            cases this
          have R4 := Lib.hid (HT.out.kept K4.out)
          have HP4 := Lib.hid (rput_any w4 g t dd y a R4.out hd64 (HSM.out dd))
          have hd64' : (dd : Int) < 64 := by omega
          have HROW : Hid ((t.rows dd (put (t dd).entries y a)) a = t a) := Lib.hid (by unfold Tr.rows; exact if_neg hne)
          generalize t.rows dd (put (t dd).entries y a) = t5 at *
          generalize ba y = Y at *
          clear q0 q1 q2 q3 q4 q5 k4 hd HS3 K3 R3 c1 HPL hdk hne
          obtain ⟨q0, q1, q2, q3, q4, q5⟩ := HS4.out.call.cells
          go_upto_region 49 with (go_at_call 54; refine HP4.out.mono ?_; rintro e w5 ⟨rfl, k5, R5⟩)
          have HS5 := Lib.hid (HS4.out.kept k5 (by have := HLE.out; omega) (by have := HLE.out; omega) (by have := HLE.out; omega))
          have K5 := Lib.hid (Keep.trans (Keep.mono K4.out (fun _ _ h => h.elim) : Keep (fun i => i = g) w w4) k5 (fun _ _ h => h))
          obtain ⟨l, hl⟩ : ∃ l, (t a).links = l := ⟨_, rfl⟩
          have HLL := Lib.hid hl
          have c2 := (R5.node a ha64).links
          rw [HROW.out, hl] at c2
          have f2 := R5.free (a * 5 + 2)
          have hl64 : l ≤ 64000000 := by have := HAL.out.1; omega
          have hws : IntKind.i64.wrap ((l : Int) + 1) = (l : Int) + 1 := by rw [IntKind.wrap_i64]; omega
          obtain ⟨w6, hw6⟩ : ∃ w6, (w5.setCell ⟨g, a * 5 + 2, none⟩ (.int .i64 ((l : Int) + 1))).drew = w6 := ⟨_, rfl⟩
          have k6 : Keep (fun i => i = g) w5 w6 := by rw [← hw6]; exact (keep1 w5 g (a * 5 + 2) _).drew
          have R6 : Hid (RefAt Zp w6 g (t5.set a ⟨(t a).kind, (t a).links + 1, (t a).data, (t a).entries⟩)) := Lib.hid (by
            have h6 := R5.setLinks ha64 (l + 1)
            have e1 : ((l + 1 : Nat) : Int) = (l : Int) + 1 := rfl
            rw [HROW.out, e1] at h6
            rw [← hw6, HLL.out]
            exact h6.kept (KF.refl _).drew)
          have HW6 := Lib.hid hw6
          have HS6 := Lib.hid (HS5.out.kept k6 (by have := HLE.out; omega) (by have := HLE.out; omega) (by have := HLE.out; omega))
          have K6 := Lib.hid (Keep.trans K5.out k6 (fun _ _ h => h))
          clear hw6 k6 k5 R5 HP4 hl q0 q1 q2 q3 q4 q5 HS4 K4 R4
          go_region
          rw [HW6.out]
          clear c2 f2 HW6 HS5 K5
          have FIN := Lib.hid (HS6.out.res.put (.int .i64 0) (.int .i64 0) (.int .i64 0) (.int .i64 0) (.slice none 0 0) (.slice none 0 0))
          obtain ⟨q0, q1, q2, q3, q4, q5⟩ := HS6.out.call.cells
          obtain ⟨r0, r1, r2, r3, r4, r5⟩ := HS6.out.res.cells
          obtain ⟨n0, n1, n2, n3, n4, n5⟩ := HS6.out.non.cells
          have z0 := HS6.out.res.free 0
          have z1 := HS6.out.res.free 1
          have z2 := HS6.out.res.free 2
          have z3 := HS6.out.res.free 3
          have z4 := HS6.out.res.free 4
          have z5 := HS6.out.res.free 5
          go_wp2_with fail
          obtain ⟨e1, e2⟩ := FIN.out
          obtain ⟨d0, d1, d2, d3, d4, d5⟩ := e1.cells
          clear FIN q0 q1 q2 q3 q4 q5 r0 r1 r2 r3 r4 r5 n0 n1 n2 n3 n4 n5 z0 z1 z2 z3 z4 z5
          refine bodyPost_ret (v := .tuple #[.agg zAns, .int .i64 0]) (by simp [results, Tryz.results27, go_sem, d0, d1, d2, d3, d4, d5, zAns]) rfl ?_
          have hle := HLE.out
          rw [HD.out]
          exact ⟨rfl, Keep.trans K6.out e2 (fun i hi (h : i = b + 1) => by omega), R6.out.keepFar HS6.out.res (by simp) (by simp) e2 (by omega)⟩
end Go.Proofs.YtlkiaghpdjbfeaaGreatDoor
