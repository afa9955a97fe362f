/-
  The reference's do: the calls that make a node.
-/
import Derived.Test.YtlkiaghpdjbfeaaGreatDoorPhRefDo
namespace Go.Proofs.YtlkiaghpdjbfeaaGreatDoor
open Go.RowKit
variable {Zp : Nat → Prop}

theorem least_some {t : Tr} {k : Nat} (hk : k < 64) (h0 : (t k).kind = 0) (h : ∀ j, j < k → (t j).kind ≠ 0) : least t = some k := by
  unfold least
  rw [List.find?_eq_some_iff_append]
  refine ⟨by simp [h0], List.range k, (List.range (64 - k - 1)).map (· + (k + 1)), ?_, fun j hj => by simp at hj; simp [h j hj]⟩
  have e : 64 = (k + 1) + (64 - k - 1) := by omega
  have e2 := List.range_add (n := k + 1) (m := 64 - k - 1)
  rw [← e] at e2
  rw [e2, List.range_succ, List.append_assoc]
  simp [Nat.add_comm]
theorem least_none {t : Tr} (h : ∀ j, j < 64 → (t j).kind ≠ 0) : least t = none := by
  unfold least
  rw [List.find?_eq_none]
  intro j hj
  simp at hj
  simp [h j hj]
theorem RefAt.setKind {w : World} {g : Nat} {t : Tr} {n : Nat} (h : RefAt Zp w g t) (hn : n < 64) (hk : (t n).kind ≠ 0) {kd : Nat} (hkd : kd ≠ 0) : RefAt Zp (w.setCell ⟨g, n * 5 + 1, none⟩ (.int .i64 (kd : Int))) g (t.set n ⟨kd, (t n).links, (t n).data, (t n).entries⟩) := by
  have k := keep1 w g (n * 5 + 1) (.int .i64 (kd : Int))
  have r := h.node n hn
  have c' : ∀ j, j ≠ 1 → j < 5 → (w.setCell ⟨g, n * 5 + 1, none⟩ (.int .i64 (kd : Int))).cell? ⟨g, n * 5 + j, none⟩ = w.cell? ⟨g, n * 5 + j, none⟩ := fun j hj _ => cell_other w g (by omega) _
  have hnum := r.num
  rw [if_neg hk] at hnum
  obtain ⟨A1, d, e1, e2, e3, e4, e5⟩ := r.ents
  obtain ⟨A2, d2, h1, h2, h3⟩ := r.data
  refine h.upd (Blk.set h.blk _ _) k (fun m hm' hmn j hj => cell_other w g (by omega) _) ⟨?_, ?_, (c' 2 (by omega) (by omega)).trans r.links, ⟨A2, d2, (c' 3 (by omega) (by omega)).trans h1, (h2.keepS (Nat.le_refl _) k (fun a ha => (h3 a ha).1)).more k.size, h3⟩, ⟨A1, d, (c' 4 (by omega) (by omega)).trans e1, e2, e3, (e4.keep (Nat.le_refl _) k (fun a ha => (e5 a ha).1)).more k.size, e5⟩⟩
  · rw [if_neg hkd]
    exact (c' 0 (by omega) (by omega)).trans hnum
  · exact Blk.same h.blk (by omega) _
/-- What do leaves: the answer that says nothing, with an error's number. -/
def RDid (Zp : Nat → Prop) (g : Nat) (r : TAns × Tr) (w : World) (e : Ending) (w' : World) : Prop := e = .returned (.tuple #[.agg zAns, .int .i64 (r.1.err : Int)]) ∧ Keep (fun i => i = g) w w' ∧ RefAt Zp w' g r.2
set_option maxRecDepth 100000 in
set_option maxHeartbeats 4000000 in
theorem rdo_mkdir (w : World) (g : Nat) (t : Tr) (off n : Int) (s : ByteArray) (o d : Value) (h : RefAt Zp w g t) (G : Good t) (hb : Small t) (hs : s.size ≤ 1000) :
    Calls Tryz.prog 27 #[.pointer (some ⟨g, 0, none⟩), .agg #[.int .i64 1, .string s, o, .int .i64 off, .int .i64 n, d]] w (RDid Zp g (doMake t 1 s.data.toList) w) := by
  have HT := Lib.hid h
  have HG := Lib.hid G
  have HSM := Lib.hid hb
  have HLT := Lib.hid h.lt
  have HC := Lib.hid fun W (k : KF w W) => rplace_any s W g t (h.kept k) G hb hs
  clear h G hb
  obtain ⟨b, hb⟩ : ∃ b, w.heap.size = b := ⟨_, rfl⟩
  obtain ⟨W, hW⟩ : ∃ W, (((w.alloc (.cells #[.int .i64 1, .string s, o, .int .i64 off, .int .i64 n, d] 31)).alloc (.cells #[.int .i64 0, .int .i64 0, .int .i64 0, .int .i64 0, .slice none 0 0, .slice none 0 0] 36)).alloc (.cells #[.int .i64 0, .int .i64 0, .int .i64 0, .int .i64 0, .slice none 0 0, .slice none 0 0] 36)) = W := ⟨_, rfl⟩
  have S := DoS.new w 1 off n (.string s) o d
  rw [hb, hW] at S
  have kW : KF w W := by rw [← hW]; exact (((KF.refl w).alloc _).alloc _).alloc _
  have HW := Lib.hid hW
  have HBB := Lib.hid hb
  have HS := Lib.hid S
  have HK := Lib.hid kW
  clear hb hW S kW
  go_enter Tryz.func27, Tryz.ntmps27
  go_upto_region 2 with fail
  rw [HW.out, HBB.out]
  have HLE : Hid (w.heap.size ≤ b ∧ g < b) := Lib.hid ⟨Nat.le_of_eq HBB.out, by have := HBB.out; have := HLT.out; omega⟩
  clear HW HBB
  obtain ⟨q0, q1, q2, q3, q4, q5⟩ := HS.out.call.cells
  go_wp2_with fail
  refine (HC.out W HK.out).mono ?_
  rintro e w1 ⟨k1, ⟨k, hk, hk0, rfl⟩ | ⟨dd, x, hd, hd64, rfl⟩⟩
  · have HS1 := Lib.hid (HS.out.kept k1 (fun h => h) (fun h => h) (fun h => h))
    have K1 := Lib.hid (KF.trans HK.out k1)
    have HE := Lib.hid hk
    have hk0' : ((k : Int) != 0) = true := by simp; omega
    clear q0 q1 q2 q3 q4 q5 HC k1 hk hk0
    have FIN := Lib.hid (HS1.out.res.put (.int .i64 0) (.int .i64 0) (.int .i64 0) (.int .i64 0) (.slice none 0 0) (.slice none 0 0))
    obtain ⟨q0, q1, q2, q3, q4, q5⟩ := HS1.out.call.cells
    obtain ⟨r0, r1, r2, r3, r4, r5⟩ := HS1.out.res.cells
    obtain ⟨n0, n1, n2, n3, n4, n5⟩ := HS1.out.non.cells
    have z0 := HS1.out.res.free 0
    have z1 := HS1.out.res.free 1
    have z2 := HS1.out.res.free 2
    have z3 := HS1.out.res.free 3
    have z4 := HS1.out.res.free 4
    have z5 := HS1.out.res.free 5
    go_wp2_with fail
    obtain ⟨e1, e2⟩ := FIN.out
    obtain ⟨d0, d1, d2, d3, d4, d5⟩ := e1.cells
    clear FIN q0 q1 q2 q3 q4 q5 r0 r1 r2 r3 r4 r5 n0 n1 n2 n3 n4 n5 z0 z1 z2 z3 z4 z5
    refine bodyPost_ret (v := .tuple #[.agg zAns, .int .i64 (k : Int)]) (by simp [results, Tryz.results27, go_sem, d0, d1, d2, d3, d4, d5, zAns]) rfl ?_
    have hle := HLE.out
    have hkk : (doMake t 1 s.data.toList) = (errA k, t) := by unfold doMake; rw [HE.out]
    rw [hkk]
    have kE := Keep.trans K1.out e2 (fun i hi (h : i = b + 1) => by omega)
    exact ⟨rfl, Keep.mono kE (fun _ _ h => h.elim), HT.out.kept kE⟩
  · have HS1 := Lib.hid (HS.out.kept k1 (fun h => h) (fun h => h) (fun h => h))
    have K1 := Lib.hid (KF.trans HK.out k1)
    have HE := Lib.hid hd
    have hd64' : (dd : Int) < 64 := by omega
    clear q0 q1 q2 q3 q4 q5 HC k1 hd
    obtain ⟨_, _, _, hdk, _⟩ := place_ok HE.out
    go_wp2_with fail
    go_loopg [10] 64 (fun gh i wr => ∃ k : Nat, k ≤ 64 ∧ 64 - k ≤ gh ∧ i = .int .i64 k ∧ wr = w1 ∧ Hid (∀ j, j < k → (t j).kind ≠ 0))
    case atStart => exact ⟨0, by omega, by omega, rfl, rfl, Lib.hid (fun j hj => by omega)⟩
    case round =>
      obtain ⟨k, hk, hg, rfl, rfl, HJ⟩ := hrel
      have R1 := Lib.hid (HT.out.kept K1.out)
      rcases Nat.lt_or_ge k 64 with hlt | hge
      · have hlt' : (k : Int) < 64 := by omega
        have c1 := (R1.out.node k hlt).kind
        by_cases hkz : (t k).kind = 0
        · have HKZ := Lib.hid hkz
          rw [hkz] at c1
          have hne64 : ((k : Int) == 64) = false := by simp; omega
          have c0 := (R1.out.node k hlt).num
          rw [hkz, if_pos rfl] at c0
          have c2 := (R1.out.node k hlt).links
          obtain ⟨A3, x3, c3, _⟩ := (R1.out.node k hlt).data
          obtain ⟨A4, x4, c4, _⟩ := (R1.out.node k hlt).ents
          have y0 := R1.out.free (k * 5)
          have y1 := R1.out.free (k * 5 + 1)
          have y2 := R1.out.free (k * 5 + 2)
          have y3 := R1.out.free (k * 5 + 3)
          have y4 := R1.out.free (k * 5 + 4)
          have hdne : dd ≠ k := fun e => by rw [e, hkz] at hdk; cases hdk
          obtain ⟨w2, hw2⟩ : ∃ w2, (((((wr.setCell ⟨g, k * 5, none⟩ (.int .i64 (k : Int))).setCell ⟨g, k * 5 + 1, none⟩ (.int .i64 1)).setCell ⟨g, k * 5 + 2, none⟩ (.int .i64 1)).setCell ⟨g, k * 5 + 3, none⟩ (.slice none 0 0)).setCell ⟨g, k * 5 + 4, none⟩ (.slice none 0 0)) = w2 := ⟨_, rfl⟩
          have R2 : Hid (RefAt Zp w2 g (t.set k ⟨1, 1, [], []⟩)) := Lib.hid (by rw [← hw2]; exact R1.out.setNode hlt 1 1 k (by simp))
          have k2 : Keep (fun i => i = g) wr w2 := by
            rw [← hw2]
            exact keep5 wr g _ _ _ _ _ _ _ _ _ _
          have HS2 := Lib.hid (HS1.out.kept k2 (by have := HLE.out; omega) (by have := HLE.out; omega) (by have := HLE.out; omega))
          have K2 := Lib.hid (Keep.trans (Keep.mono K1.out (fun _ _ h => h.elim) : Keep (fun i => i = g) w wr) k2 (fun _ _ h => h))
          have hset : (t.set k ⟨1, 1, [], []⟩) dd = t dd := if_neg hdne
          have HP := Lib.hid (rput_any w2 g (t.set k ⟨1, 1, [], []⟩) dd x k R2.out hd64 (by rw [hset]; exact HSM.out dd))
          have HD : Hid (doMake t 1 s.data.toList = (okA, (t.set k ⟨1, 1, [], []⟩).rows dd (put ((t.set k ⟨1, 1, [], []⟩) dd).entries x k))) := Lib.hid (by unfold doMake; rw [HE.out]; simp only [least_some hlt hkz HJ.out]; rw [hset])
          have HW2 := Lib.hid hw2
          obtain ⟨q0, q1, q2, q3, q4, q5⟩ := HS1.out.call.cells
          obtain ⟨p0, p1, p2, p3, p4, p5⟩ := HS2.out.call.cells
          generalize t.set k ⟨1, 1, [], []⟩ = t2 at *
          generalize put (t2 dd).entries x k = es2 at *
          clear hkz hw2 k2 hset hdne hdk
          go_upto_region 16 with fail
          rw [HW2.out]
          go_wp2_with fail
          refine HP.out.mono ?_
          rintro e w3 ⟨rfl, k3, R3⟩
          have HS3 := Lib.hid (HS2.out.kept k3 (by have := HLE.out; omega) (by have := HLE.out; omega) (by have := HLE.out; omega))
          have K3 := Lib.hid (Keep.trans K2.out k3 (fun _ _ h => h))
          have HR3 := Lib.hid R3
          clear k3 R3 c0 c1 c2 c3 c4 y0 y1 y2 y3 y4 q0 q1 q2 q3 q4 q5 p0 p1 p2 p3 p4 p5 HP HW2 HS2 K2
          have FIN := Lib.hid (HS3.out.res.put (.int .i64 0) (.int .i64 0) (.int .i64 0) (.int .i64 0) (.slice none 0 0) (.slice none 0 0))
          obtain ⟨q0, q1, q2, q3, q4, q5⟩ := HS3.out.call.cells
          obtain ⟨r0, r1, r2, r3, r4, r5⟩ := HS3.out.res.cells
          obtain ⟨n0, n1, n2, n3, n4, n5⟩ := HS3.out.non.cells
          have z0 := HS3.out.res.free 0
          have z1 := HS3.out.res.free 1
          have z2 := HS3.out.res.free 2
          have z3 := HS3.out.res.free 3
          have z4 := HS3.out.res.free 4
          have z5 := HS3.out.res.free 5
          go_wp2_with fail
          obtain ⟨e1, e2⟩ := FIN.out
          obtain ⟨d0, d1, d2, d3, d4, d5⟩ := e1.cells
          clear FIN q0 q1 q2 q3 q4 q5 r0 r1 r2 r3 r4 r5 n0 n1 n2 n3 n4 n5 z0 z1 z2 z3 z4 z5
          refine bodyPost_ret (v := .tuple #[.agg zAns, .int .i64 0]) (by simp [results, Tryz.results27, go_sem, d0, d1, d2, d3, d4, d5, zAns]) rfl ?_
          have hle := HLE.out
          rw [HD.out]
          exact ⟨rfl, Keep.trans K3.out e2 (fun i hi (h : i = b + 1) => by omega), HR3.out.keepFar HS3.out.res (by simp) (by simp) e2 (by omega)⟩
        · have hkz' : (((t k).kind : Int) != 0) = true := by simp; omega
          have HJ2 : Hid (∀ j, j < k + 1 → (t j).kind ≠ 0) := Lib.hid fun j hj => by
            rcases Nat.lt_or_ge j k with h' | h'
            · exact HJ.out j h'
            · obtain rfl : j = k := by omega
              exact hkz
          clear hkz hdk
          go_wp2_with fail
          go_roundg (64 - (k + 1))
          case measure => omega
          case rel => exact ⟨k + 1, by omega, by omega, by go_num, rfl, HJ2⟩
      · obtain rfl : k = 64 := by omega
        have HD : Hid (doMake t 1 s.data.toList = (errA 27, t)) := Lib.hid (by unfold doMake; rw [HE.out]; simp only [least_none HJ.out])
        clear hdk HJ
        have FIN := Lib.hid (HS1.out.res.put (.int .i64 0) (.int .i64 0) (.int .i64 0) (.int .i64 0) (.slice none 0 0) (.slice none 0 0))
        obtain ⟨q0, q1, q2, q3, q4, q5⟩ := HS1.out.call.cells
        obtain ⟨r0, r1, r2, r3, r4, r5⟩ := HS1.out.res.cells
        obtain ⟨n0, n1, n2, n3, n4, n5⟩ := HS1.out.non.cells
        have z0 := HS1.out.res.free 0
        have z1 := HS1.out.res.free 1
        have z2 := HS1.out.res.free 2
        have z3 := HS1.out.res.free 3
        have z4 := HS1.out.res.free 4
        have z5 := HS1.out.res.free 5
        go_wp2_with fail
        obtain ⟨e1, e2⟩ := FIN.out
        obtain ⟨d0, d1, d2, d3, d4, d5⟩ := e1.cells
        clear FIN q0 q1 q2 q3 q4 q5 r0 r1 r2 r3 r4 r5 n0 n1 n2 n3 n4 n5 z0 z1 z2 z3 z4 z5
        refine bodyPost_ret (v := .tuple #[.agg zAns, .int .i64 27]) (by simp [results, Tryz.results27, go_sem, d0, d1, d2, d3, d4, d5, zAns]) rfl ?_
        have hle := HLE.out
        rw [HD.out]
        have kE := Keep.trans K1.out e2 (fun i hi (h : i = b + 1) => by omega)
        exact ⟨rfl, Keep.mono kE (fun _ _ h => h.elim), HT.out.kept kE⟩
end Go.Proofs.YtlkiaghpdjbfeaaGreatDoor
