/-
  The reference's do: stat.
-/
import Derived.Test.YtlkiaghpdjbfeaaGreatDoorPhRefMake
namespace Go.Proofs.YtlkiaghpdjbfeaaGreatDoor
open Go.RowKit
variable {Zp : Nat → Prop}

/-- Whatever Up says. -/
theorem rups_any (s : ByteArray) (w : World) (hs : s.size ≤ 1000) : Calls Tryz.prog 55 #[.string s] w fun e w' => ∃ (A X : ByteArray) (k : Nat), e = .returned (.tuple #[.string A, .string X, .int .i64 (k : Int)]) ∧ A.size ≤ 1000 ∧ KF w w' ∧
    (((pathM s.data.toList = none ∨ pathM s.data.toList = some []) ∧ k = 20) ∨ ∃ ns x, pathM s.data.toList = some (ns ++ [x]) ∧ A = ba (joinM ns) ∧ X = ba x ∧ k = 0) := by
  rcases pathM_cases s.data.toList with hp | ⟨ns, x, hp⟩
  · refine (rup_no s w hs hp).mono ?_
    rintro e w' ⟨rfl, k⟩
    exact ⟨⟨#[]⟩, ⟨#[]⟩, 20, rfl, by decide, k, .inl ⟨hp, rfl⟩⟩
  · refine (rup_yes s w ns x hs hp).mono ?_
    rintro e w' ⟨rfl, k⟩
    obtain ⟨_, h8, hnm⟩ := pathM_some hp
    refine ⟨ba (joinM ns), ba x, 0, rfl, ?_, k, .inr ⟨ns, x, hp, rfl, rfl, rfl⟩⟩
    rw [ba_size]
    show (47 :: joined ns).length ≤ _
    have := joined_le ns fun q hq => hnm q (by simp [hq])
    rw [List.length_append, List.length_cons, List.length_nil] at h8
    rw [List.length_cons]
    omega
set_option maxRecDepth 100000 in
set_option maxHeartbeats 4000000 in
theorem rdo_stat (w : World) (g : Nat) (t : Tr) (off n : Int) (s : ByteArray) (o d : Value) (h : RefAt Zp w g t) (G : Good t) (hb : Small t) (hs : s.size ≤ 1000) :
    Calls Tryz.prog 27 #[.pointer (some ⟨g, 0, none⟩), .agg #[.int .i64 10, .string s, o, .int .i64 off, .int .i64 n, d]] w fun e w' => KF w w' ∧
      ((∃ k : Nat, find t s.data.toList = .error k ∧ e = .returned (.tuple #[.agg zAns, .int .i64 (k : Int)])) ∨ ∃ a, find t s.data.toList = .ok a ∧ e = .returned (.tuple #[.agg #[.int .i64 0, .int .i64 ((t a).kind : Int), .int .i64 ((t a).data.length + (t a).entries.length : Int), .int .i64 ((t a).links : Int), .slice none 0 0, .slice none 0 0], .int .i64 0])) := by
  have HT := Lib.hid h
  have HG := Lib.hid G
  have HSM := Lib.hid hb
  have HLT := Lib.hid h.lt
  have HU := Lib.hid fun W => rups_any s W hs
  have HF := Lib.hid fun W (s' : ByteArray) (k : KF w W) (hs' : s'.size ≤ 1000) => rfind_any s' W g t (h.kept k) G hb hs'
  have HSS := Lib.hid hs
  clear h G hb hs
  obtain ⟨b, hb⟩ : ∃ b, w.heap.size = b := ⟨_, rfl⟩
  obtain ⟨W, hW⟩ : ∃ W, (((w.alloc (.cells #[.int .i64 10, .string s, o, .int .i64 off, .int .i64 n, d] 31)).alloc (.cells #[.int .i64 0, .int .i64 0, .int .i64 0, .int .i64 0, .slice none 0 0, .slice none 0 0] 36)).alloc (.cells #[.int .i64 0, .int .i64 0, .int .i64 0, .int .i64 0, .slice none 0 0, .slice none 0 0] 36)) = W := ⟨_, rfl⟩
  have S := DoS.new w 10 off n (.string s) o d
  rw [hb, hW] at S
  have kW : KF w W := by rw [← hW]; exact (((KF.refl w).alloc _).alloc _).alloc _
  have HW := Lib.hid hW
  have HBB := Lib.hid hb
  have HS := Lib.hid S
  have HK := Lib.hid kW
  clear hb hW S kW
  go_enter Tryz.func27, Tryz.ntmps27
  go_upto_region 2 with fail
  rw [HW.out, HBB.out]
  have HLE : Hid (w.heap.size ≤ b ∧ g < b) := Lib.hid ⟨Nat.le_of_eq HBB.out, by have := HBB.out; have := HLT.out; omega⟩
  clear HW HBB
  obtain ⟨q0, q1, q2, q3, q4, q5⟩ := HS.out.call.cells
  go_wp2_with fail
  refine (HU.out W).mono ?_
  rintro e w1 ⟨A, X, k, rfl, hA, k1, _⟩
  have HS1 := Lib.hid (HS.out.kept k1 (fun h => h) (fun h => h) (fun h => h))
  have K1 := Lib.hid (KF.trans HK.out k1)
  have HA := Lib.hid hA
  clear q0 q1 q2 q3 q4 q5 k1 hA HU HS HK
  obtain ⟨q0, q1, q2, q3, q4, q5⟩ := HS1.out.call.cells
  obtain ⟨bb, hbb⟩ : ∃ bb, ((k : Int) != 0) = bb := ⟨_, rfl⟩
  cases bb
  all_goals
    go_wp2_with fail
    refine (HF.out w1 s K1.out HSS.out).mono ?_
    rintro e w2 ⟨k2, ⟨kk, hk, hk0, rfl⟩ | ⟨a, ha, hka, rfl⟩⟩
    · have HS2 := Lib.hid (HS1.out.kept k2 (fun h => h) (fun h => h) (fun h => h))
      have K2 := Lib.hid (KF.trans K1.out k2)
      have HE := Lib.hid hk
      have hk0' : ((kk : Int) != 0) = true := by simp; omega
      clear q0 q1 q2 q3 q4 q5 k2 hk hk0 HS1 K1
      have FIN := Lib.hid (HS2.out.res.put (.int .i64 0) (.int .i64 0) (.int .i64 0) (.int .i64 0) (.slice none 0 0) (.slice none 0 0))
      obtain ⟨q0, q1, q2, q3, q4, q5⟩ := HS2.out.call.cells
      obtain ⟨r0, r1, r2, r3, r4, r5⟩ := HS2.out.res.cells
      obtain ⟨n0, n1, n2, n3, n4, n5⟩ := HS2.out.non.cells
      have z0 := HS2.out.res.free 0
      have z1 := HS2.out.res.free 1
      have z2 := HS2.out.res.free 2
      have z3 := HS2.out.res.free 3
      have z4 := HS2.out.res.free 4
      have z5 := HS2.out.res.free 5
      go_wp2_with fail
      obtain ⟨e1, e2⟩ := FIN.out
      obtain ⟨d0, d1, d2, d3, d4, d5⟩ := e1.cells
      clear FIN q0 q1 q2 q3 q4 q5 r0 r1 r2 r3 r4 r5 n0 n1 n2 n3 n4 n5 z0 z1 z2 z3 z4 z5
      refine bodyPost_ret (v := .tuple #[.agg zAns, .int .i64 (kk : Int)]) (by simp [results, Tryz.results27, go_sem, d0, d1, d2, d3, d4, d5, zAns]) rfl ?_
      have hle := HLE.out
      exact ⟨Keep.trans K2.out e2 (fun i hi (h : i = b + 1) => by omega), .inl ⟨kk, HE.out, rfl⟩⟩
    · have HS2 := Lib.hid (HS1.out.kept k2 (fun h => h) (fun h => h) (fun h => h))
      have K2 := Lib.hid (KF.trans K1.out k2)
      have HE := Lib.hid ha
      have ha64 := HG.out.lt hka
      have ha64' : (a : Int) < 64 := by omega
      have HKA := Lib.hid hka
      clear q0 q1 q2 q3 q4 q5 k2 ha hka HS1 K1
      go_wp2_with fail
      refine (HF.out w2 A K2.out HA.out).mono ?_
      have HQ : ∀ e w3, Finds t A.data.toList w2 e w3 → ∃ z0 z1 : Int, e = .returned (.tuple #[.int .i64 z0, .int .i64 z1]) ∧ KF w2 w3 := by
        rintro e w3 ⟨k3, ⟨kk, _, _, rfl⟩ | ⟨a', _, _, rfl⟩⟩
        · exact ⟨_, _, rfl, k3⟩
        · exact ⟨_, _, rfl, k3⟩
      intro e w3 he
      obtain ⟨z0', z1', rfl, k3⟩ := HQ e w3 he
      have HS3 := Lib.hid (HS2.out.kept k3 (fun h => h) (fun h => h) (fun h => h))
      have K3 := Lib.hid (KF.trans K2.out k3)
      have r := (HT.out.kept K3.out).node a ha64
      have c0 := r.num
      have c1 := r.kind
      have c2 := r.links
      obtain ⟨A3, x3, c3, _⟩ := r.data
      obtain ⟨A4, x4, c4, _⟩ := r.ents
      clear r he HQ k3 HS2 K2
      rw [if_neg HKA.out] at c0
      have hd512 : (t a).data.length ≤ 512 := by
        rcases HG.out.two HKA.out with h1 | h2
        · rw [(HG.out.dir a h1).2]; simp
        · exact (HG.out.file a h2).2
      have he6 := HSM.out a
      have hwr : IntKind.i64.wrap (((t a).data.length : Int) + ((t a).entries.length : Int)) = ((t a).data.length : Int) + ((t a).entries.length : Int) := by rw [IntKind.wrap_i64]; omega
      obtain ⟨w4, hw4⟩ : ∃ w4, w3.alloc (.cells #[.int .i64 (a : Int), .int .i64 ((t a).kind : Int), .int .i64 ((t a).links : Int), .slice A3 (t a).data.length x3, .slice A4 (t a).entries.length x4] 55) = w4 := ⟨_, rfl⟩
      obtain ⟨nb, hnb⟩ : ∃ nb, w3.heap.size = nb := ⟨_, rfl⟩
      have k4 : KF w3 w4 := by rw [← hw4]; exact (KF.refl _).alloc _
      have P : w4.heap[nb]? = some (.cells #[.int .i64 (a : Int), .int .i64 ((t a).kind : Int), .int .i64 ((t a).links : Int), .slice A3 (t a).data.length x3, .slice A4 (t a).entries.length x4] 55 (0, 0)) := by rw [← hw4, ← hnb]; exact heap_alloc_new w3 _
      have HS4 := Lib.hid (HS3.out.kept k4 (fun h => h) (fun h => h) (fun h => h))
      have K4 := Lib.hid (KF.trans K3.out k4)
      have p1 : w4.cell? ⟨nb, 1, none⟩ = some (.int .i64 ((t a).kind : Int)) := by simp [World.cell?, P]
      have p2 : w4.cell? ⟨nb, 2, none⟩ = some (.int .i64 ((t a).links : Int)) := by simp [World.cell?, P]
      have p3 : w4.cell? ⟨nb, 3, none⟩ = some (.slice A3 (t a).data.length x3) := by simp [World.cell?, P]
      have p4 : w4.cell? ⟨nb, 4, none⟩ = some (.slice A4 (t a).entries.length x4) := by simp [World.cell?, P]
      have HW4 := Lib.hid hw4
      have HNB := Lib.hid hnb
      obtain ⟨q0, q1, q2, q3, q4, q5⟩ := HS3.out.call.cells
      obtain ⟨s0, s1, s2, s3, s4, s5⟩ := HS4.out.call.cells
      obtain ⟨r0, r1, r2, r3, r4, r5⟩ := HS4.out.res.cells
      have z0 := HS4.out.res.free 0
      have z1 := HS4.out.res.free 1
      have z2 := HS4.out.res.free 2
      have z3 := HS4.out.res.free 3
      have z4 := HS4.out.res.free 4
      have z5 := HS4.out.res.free 5
      have FIN := Lib.hid (HS4.out.res.put (.int .i64 0) (.int .i64 ((t a).kind : Int)) (.int .i64 (((t a).data.length : Int) + ((t a).entries.length : Int))) (.int .i64 ((t a).links : Int)) (.slice none 0 0) (.slice none 0 0))
      have FIN3 : Hid (∀ V, Keep (fun i => i = b + 1) w4 V → KF w V ∧ ((∃ k : Nat, find t s.data.toList = .error k ∧ Ending.returned (.tuple #[.agg #[.int .i64 0, .int .i64 ((t a).kind : Int), .int .i64 ((t a).data.length + (t a).entries.length : Int), .int .i64 ((t a).links : Int), .slice none 0 0, .slice none 0 0], .int .i64 0]) = .returned (.tuple #[.agg zAns, .int .i64 (k : Int)])) ∨ ∃ a', find t s.data.toList = .ok a' ∧ Ending.returned (.tuple #[.agg #[.int .i64 0, .int .i64 ((t a).kind : Int), .int .i64 ((t a).data.length + (t a).entries.length : Int), .int .i64 ((t a).links : Int), .slice none 0 0, .slice none 0 0], .int .i64 0]) = .returned (.tuple #[.agg #[.int .i64 0, .int .i64 ((t a').kind : Int), .int .i64 ((t a').data.length + (t a').entries.length : Int), .int .i64 ((t a').links : Int), .slice none 0 0, .slice none 0 0], .int .i64 0]))) := Lib.hid fun V e2 => ⟨Keep.trans K4.out e2 (fun i hi (h : i = b + 1) => by have := HLE.out; omega), .inr ⟨a, HE.out, rfl⟩⟩
      clear hw4 hnb P k4 hd512 he6 HS4 HS3 K3 K4
      generalize (t a).data.length = l1 at *
      generalize (t a).entries.length = l2 at *
      generalize (t a).kind = kd at *
      generalize (t a).links = lk at *
      go_upto_region 64 with fail
      rw [HW4.out, HNB.out]
      clear HW4 HNB
      go_wp2_with fail
      obtain ⟨e1, e2⟩ := FIN.out
      obtain ⟨d0, d1, d2, d3, d4, d5⟩ := e1.cells
      have F3 := FIN3.out _ e2
      clear FIN q0 q1 q2 q3 q4 q5 r0 r1 r2 r3 r4 r5 s0 s1 s2 s3 s4 s5 p1 p2 p3 p4 c0 c1 c2 c3 c4 z0 z1 z2 z3 z4 z5
      refine bodyPost_ret (v := .tuple #[.agg #[.int .i64 0, .int .i64 (kd : Int), .int .i64 (l1 + l2 : Int), .int .i64 (lk : Int), .slice none 0 0, .slice none 0 0], .int .i64 0]) (by simp [results, Tryz.results27, go_sem, d0, d1, d2, d3, d4, d5]) rfl ?_
      exact F3
end Go.Proofs.YtlkiaghpdjbfeaaGreatDoor
