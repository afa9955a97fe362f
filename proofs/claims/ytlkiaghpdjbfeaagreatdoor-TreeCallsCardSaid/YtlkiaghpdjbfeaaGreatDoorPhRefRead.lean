/-
  The reference's do: read.
-/
import Derived.Test.YtlkiaghpdjbfeaaGreatDoorPhRefLink
namespace Go.Proofs.YtlkiaghpdjbfeaaGreatDoor
open Go.RowKit
variable {Zp : Nat → Prop}

/-- What do leaves: an answer's cells, an error's number, the tree. -/
def RAns (Zp : Nat → Prop) (g : Nat) (r : TAns × Tr) (w : World) (e : Ending) (w' : World) : Prop := ∃ A1 n1 c1 A2 n2 c2, e = .returned (.tuple #[.agg #[.int .i64 0, .int .i64 (r.1.kind : Int), .int .i64 (r.1.size : Int), .int .i64 (r.1.links : Int), .slice A1 n1 c1, .slice A2 n2 c2], .int .i64 (r.1.err : Int)]) ∧
  (n1 = r.1.data.length ∧ n2 = r.1.names.length ∧ Rd w' w'.heap.size A1 r.1.data ∧ Strs w' w'.heap.size A2 (r.1.names.map ba)) ∧ Keep (fun i => i = g) w w' ∧ RefAt Zp w' g r.2 ∧ (∀ a : Addr, A1 = some a → Zp a.block) ∧ ∀ a : Addr, A2 = some a → Zp a.block
theorem RDid.ans {g : Nat} {r : TAns × Tr} {w : World} {e : Ending} {w' : World} (h : RDid Zp g r w e w') (hr : r.1.kind = 0 ∧ r.1.size = 0 ∧ r.1.links = 0 ∧ r.1.data = [] ∧ r.1.names = []) : RAns Zp g r w e w' := by
  obtain ⟨h1, h2, h3, h4, h5⟩ := hr
  refine ⟨none, 0, 0, none, 0, 0, ?_, ⟨by rw [h4]; rfl, by rw [h5]; rfl, by rw [h4]; exact Rd.nil, by rw [h5]; exact Strs.nil⟩, h.2.1, h.2.2, (fun _ h => nomatch h), fun _ h => nomatch h⟩
  rw [h.1, h1, h2, h3]
  rfl
theorem rread_err {t : Tr} {s : Txt} {k : Nat} {off n : Int} (h : find t s = .error k) : doRead t s off n = (errA k, t) := by unfold doRead; rw [findFile_err h]
theorem rread_dir {t : Tr} {s : Txt} {a : Nat} {off n : Int} (h : find t s = .ok a) (hk : (t a).kind = 1) : doRead t s off n = (errA 24, t) := by unfold doRead; rw [findFile_dir h hk]
theorem rread_file {t : Tr} {s : Txt} {a : Nat} {off n : Int} (h : find t s = .ok a) (hk : (t a).kind = 2) : doRead t s off n = if off < 0 ∨ n < 0 ∨ 256 < n then (errA 1, t) else (⟨0, 0, 0, 0, ((t a).data.drop off.toNat).take n.toNat, []⟩, t) := by unfold doRead; rw [findFile_file h hk]
theorem take_more {l : Txt} {m k : Nat} (h : m + k < l.length) : (l.drop m).take (k + 1) = (l.drop m).take k ++ [l[m + k]'h] := by
  rw [List.take_succ_eq_append_getElem (by rw [List.length_drop]; omega), List.getElem_drop]
theorem take_end {l : Txt} {m k q : Nat} (h : k = q ∨ l.length ≤ m + k) (hk : k ≤ q) : (l.drop m).take k = (l.drop m).take q := by
  rcases h with rfl | h
  · rfl
  · rw [List.take_of_length_le (by rw [List.length_drop]; omega), List.take_of_length_le (by rw [List.length_drop]; omega)]
theorem rbytesT : U8 Tryz.prog 29 5 := ⟨Tryz.underlying29, (Tryz.prog.info? 5).get (by kernel_rfl), by kernel_rfl, by kernel_rfl, by kernel_rfl, by kernel_rfl⟩
/-- What a read has come to: the bytes in block b + 2. -/
structure DN (b L1 : Nat) (dat : Txt) (m : Nat) (w3 wr : World) (k : Nat) (v : Value) : Prop where
  non : Six6 wr (b + 1 + 1) 36 (.int .i64 0) (.int .i64 0) (.int .i64 0) (.int .i64 0) v (.slice none 0 0)
  own : ∃ A n c, v = .slice A n c ∧ Own 5 wr v ((dat.drop m).take k) ∧ NB w3 v
  keep : Keep (fun i => i = b + 1 + 1) w3 wr
set_option maxRecDepth 100000 in
set_option maxHeartbeats 4000000 in
theorem rdo_read (w : World) (g : Nat) (t : Tr) (off n : Int) (s : ByteArray) (o d : Value) (h : RefAt Zp w g t) (G : Good t) (hb : Small t) (hs : s.size ≤ 1000) :
    Calls Tryz.prog 27 #[.pointer (some ⟨g, 0, none⟩), .agg #[.int .i64 8, .string s, o, .int .i64 off, .int .i64 n, d]] w (RAns Zp g (doRead t s.data.toList off n) w) := by
  have HT := Lib.hid h
  have HG := Lib.hid G
  have HSM := Lib.hid hb
  have HLT := Lib.hid h.lt
  have HF := Lib.hid fun W (s' : ByteArray) (k : KF w W) (hs' : s'.size ≤ 1000) => rfind_any s' W g t (h.kept k) G hb hs'
  have HSS := Lib.hid hs
  have HPL := Lib.hid fun W (s' : ByteArray) (k : KF w W) (hs' : s'.size ≤ 1000) => rplace_any s' W g t (h.kept k) G hb hs'
  clear h G hb
  rcases pathM_cases s.data.toList with hp | ⟨ns, x, hp⟩
  · have HU := Lib.hid fun W => rup_no s W hs hp
    have HROOT : Hid (∀ a, find t s.data.toList = .ok a → (t a).kind = 1) := Lib.hid fun a ha => find_top HG.out hp ha
    clear hp hs HPL
    obtain ⟨b, hb⟩ : ∃ b, w.heap.size = b := ⟨_, rfl⟩
    obtain ⟨W, hW⟩ : ∃ W, (((w.alloc (.cells #[.int .i64 8, .string s, o, .int .i64 off, .int .i64 n, d] 31)).alloc (.cells #[.int .i64 0, .int .i64 0, .int .i64 0, .int .i64 0, .slice none 0 0, .slice none 0 0] 36)).alloc (.cells #[.int .i64 0, .int .i64 0, .int .i64 0, .int .i64 0, .slice none 0 0, .slice none 0 0] 36)) = W := ⟨_, rfl⟩
    have S := DoS.new w 8 off n (.string s) o d
    rw [hb, hW] at S
    have kW : KF w W := by rw [← hW]; exact (((KF.refl w).alloc _).alloc _).alloc _
    have HW := Lib.hid hW
    have HBB := Lib.hid hb
    have HS := Lib.hid S
    have HK := Lib.hid kW
    clear hb hW S kW
    go_enter Tryz.func27, Tryz.ntmps27
    go_upto_region 2 with fail
    rw [HW.out, HBB.out]
    have HLE : Hid (w.heap.size ≤ b ∧ g < b) := Lib.hid ⟨Nat.le_of_eq HBB.out, by have := HBB.out; have := HLT.out; omega⟩
    clear HW HBB
    obtain ⟨q0, q1, q2, q3, q4, q5⟩ := HS.out.call.cells
    go_wp2_with fail
    refine (HU.out W).mono ?_
    rintro e w1 ⟨rfl, k1⟩
    have HS1 := Lib.hid (HS.out.kept k1 (fun h => h) (fun h => h) (fun h => h))
    have K1 := Lib.hid (KF.trans HK.out k1)
    clear q0 q1 q2 q3 q4 q5 k1 HU HS HK
    obtain ⟨q0, q1, q2, q3, q4, q5⟩ := HS1.out.call.cells
    go_wp2_with fail
    refine (HF.out w1 s K1.out HSS.out).mono ?_
    rintro e w2 ⟨k2, ⟨kk, hk, hk0, rfl⟩ | ⟨a, ha, hka, rfl⟩⟩
    · have HS2 := Lib.hid (HS1.out.kept k2 (fun h => h) (fun h => h) (fun h => h))
      have K2 := Lib.hid (KF.trans K1.out k2)
      have HD : Hid (doRead t s.data.toList off n = (errA kk, t)) := Lib.hid (rread_err hk)
      have hk0' : ((kk : Int) != 0) = true := by simp; omega
      clear q0 q1 q2 q3 q4 q5 k2 hk hk0 HS1 K1 HF
      have FIN := Lib.hid (HS2.out.res.put (.int .i64 0) (.int .i64 0) (.int .i64 0) (.int .i64 0) (.slice none 0 0) (.slice none 0 0))
      obtain ⟨q0, q1, q2, q3, q4, q5⟩ := HS2.out.call.cells
      obtain ⟨r0, r1, r2, r3, r4, r5⟩ := HS2.out.res.cells
      obtain ⟨n0, n1, n2, n3, n4, n5⟩ := HS2.out.non.cells
      have z0 := HS2.out.res.free 0
      have z1 := HS2.out.res.free 1
      have z2 := HS2.out.res.free 2
      have z3 := HS2.out.res.free 3
      have z4 := HS2.out.res.free 4
      have z5 := HS2.out.res.free 5
      go_wp2_with fail
      obtain ⟨e1, e2⟩ := FIN.out
      obtain ⟨d0, d1, d2, d3, d4, d5⟩ := e1.cells
      clear FIN q0 q1 q2 q3 q4 q5 r0 r1 r2 r3 r4 r5 n0 n1 n2 n3 n4 n5 z0 z1 z2 z3 z4 z5
      refine bodyPost_ret (v := .tuple #[.agg zAns, .int .i64 (kk : Int)]) (by simp [results, Tryz.results27, go_sem, d0, d1, d2, d3, d4, d5, zAns]) rfl ?_
      have hle := HLE.out
      rw [HD.out]
      have kE := Keep.trans K2.out e2 (fun i hi (h : i = b + 1) => by omega)
      exact RDid.ans ⟨rfl, Keep.mono kE (fun _ _ h => h.elim), HT.out.kept kE⟩ ⟨rfl, rfl, rfl, rfl, rfl⟩
    · have HS2 := Lib.hid (HS1.out.kept k2 (fun h => h) (fun h => h) (fun h => h))
      have K2 := Lib.hid (KF.trans K1.out k2)
      have h1 := HROOT.out a ha
      have HD : Hid (doRead t s.data.toList off n = (errA 24, t)) := Lib.hid (rread_dir ha h1)
      have ha64 := HG.out.lt hka
      have ha64' : (a : Int) < 64 := by omega
      have H1 := Lib.hid h1
      clear q0 q1 q2 q3 q4 q5 k2 ha hka HS1 K1 h1
      obtain ⟨q0, q1, q2, q3, q4, q5⟩ := HS2.out.call.cells
      go_wp2_with fail
      refine (HF.out w2 ⟨#[]⟩ K2.out (by decide)).mono ?_
      have HQ : ∀ e w3, Finds t (⟨#[]⟩ : ByteArray).data.toList w2 e w3 → ∃ z0 z1 : Int, e = .returned (.tuple #[.int .i64 z0, .int .i64 z1]) ∧ KF w2 w3 := by
        rintro e w3 ⟨k3, ⟨kk, _, _, rfl⟩ | ⟨a', _, _, rfl⟩⟩
        · exact ⟨_, _, rfl, k3⟩
        · exact ⟨_, _, rfl, k3⟩
      intro e w3 he
      obtain ⟨z0', z1', rfl, k3⟩ := HQ e w3 he
      have HS3 := Lib.hid (HS2.out.kept k3 (fun h => h) (fun h => h) (fun h => h))
      have K3 := Lib.hid (KF.trans K2.out k3)
      have c1 := ((HT.out.kept K3.out).node a ha64).kind
      rw [H1.out] at c1
      clear q0 q1 q2 q3 q4 q5 k3 he HQ HS2 K2 HF
      have FIN := Lib.hid (HS3.out.res.put (.int .i64 0) (.int .i64 0) (.int .i64 0) (.int .i64 0) (.slice none 0 0) (.slice none 0 0))
      obtain ⟨q0, q1, q2, q3, q4, q5⟩ := HS3.out.call.cells
      obtain ⟨r0, r1, r2, r3, r4, r5⟩ := HS3.out.res.cells
      obtain ⟨n0, n1, n2, n3, n4, n5⟩ := HS3.out.non.cells
      have z0 := HS3.out.res.free 0
      have z1 := HS3.out.res.free 1
      have z2 := HS3.out.res.free 2
      have z3 := HS3.out.res.free 3
      have z4 := HS3.out.res.free 4
      have z5 := HS3.out.res.free 5
      go_wp2_with fail
      obtain ⟨e1, e2⟩ := FIN.out
      obtain ⟨d0, d1, d2, d3, d4, d5⟩ := e1.cells
      clear FIN q0 q1 q2 q3 q4 q5 r0 r1 r2 r3 r4 r5 n0 n1 n2 n3 n4 n5 z0 z1 z2 z3 z4 z5
      refine bodyPost_ret (v := .tuple #[.agg zAns, .int .i64 24]) (by simp [results, Tryz.results27, go_sem, d0, d1, d2, d3, d4, d5, zAns]) rfl ?_
      have hle := HLE.out
      rw [HD.out]
      have kE := Keep.trans K3.out e2 (fun i hi (h : i = b + 1) => by omega)
      exact RDid.ans ⟨rfl, Keep.mono kE (fun _ _ h => h.elim), HT.out.kept kE⟩ ⟨rfl, rfl, rfl, rfl, rfl⟩
  · have HU := Lib.hid fun W => rup_yes s W ns x hs hp
    have HJS : Hid ((ba (joinM ns)).size ≤ 1000) := Lib.hid (by
      obtain ⟨_, h8, hnm⟩ := pathM_some hp
      rw [ba_size]
      show (47 :: joined ns).length ≤ _
      have := joined_le ns fun q hq => hnm q (by simp [hq])
      rw [List.length_append, List.length_cons, List.length_nil] at h8
      rw [List.length_cons]
      omega)
    clear hp hs
    obtain ⟨b, hb⟩ : ∃ b, w.heap.size = b := ⟨_, rfl⟩
    obtain ⟨W, hW⟩ : ∃ W, (((w.alloc (.cells #[.int .i64 8, .string s, o, .int .i64 off, .int .i64 n, d] 31)).alloc (.cells #[.int .i64 0, .int .i64 0, .int .i64 0, .int .i64 0, .slice none 0 0, .slice none 0 0] 36)).alloc (.cells #[.int .i64 0, .int .i64 0, .int .i64 0, .int .i64 0, .slice none 0 0, .slice none 0 0] 36)) = W := ⟨_, rfl⟩
    have S := DoS.new w 8 off n (.string s) o d
    rw [hb, hW] at S
    have kW : KF w W := by rw [← hW]; exact (((KF.refl w).alloc _).alloc _).alloc _
    have HW := Lib.hid hW
    have HBB := Lib.hid hb
    have HS := Lib.hid S
    have HK := Lib.hid kW
    clear hb hW S kW
    go_enter Tryz.func27, Tryz.ntmps27
    go_upto_region 2 with fail
    rw [HW.out, HBB.out]
    have HLE : Hid (w.heap.size ≤ b ∧ g < b) := Lib.hid ⟨Nat.le_of_eq HBB.out, by have := HBB.out; have := HLT.out; omega⟩
    clear HW HBB
    obtain ⟨A, hA⟩ : ∃ A, ba (joinM ns) = A := ⟨_, rfl⟩
    obtain ⟨X, hX⟩ : ∃ X, ba x = X := ⟨_, rfl⟩
    rw [hA, hX] at HU
    rw [hA] at HJS
    clear hA hX
    obtain ⟨q0, q1, q2, q3, q4, q5⟩ := HS.out.call.cells
    go_wp2_with fail
    refine (HU.out W).mono ?_
    rintro e w1 ⟨rfl, k1⟩
    have HS1 := Lib.hid (HS.out.kept k1 (fun h => h) (fun h => h) (fun h => h))
    have K1 := Lib.hid (KF.trans HK.out k1)
    clear q0 q1 q2 q3 q4 q5 k1 HU HS HK
    obtain ⟨q0, q1, q2, q3, q4, q5⟩ := HS1.out.call.cells
    go_wp2_with fail
    refine (HF.out w1 s K1.out HSS.out).mono ?_
    rintro e w2 ⟨k2, ⟨kk, hk, hk0, rfl⟩ | ⟨a, ha, hka, rfl⟩⟩
    · have HS2 := Lib.hid (HS1.out.kept k2 (fun h => h) (fun h => h) (fun h => h))
      have K2 := Lib.hid (KF.trans K1.out k2)
      have HD : Hid (doRead t s.data.toList off n = (errA kk, t)) := Lib.hid (rread_err hk)
      have hk0' : ((kk : Int) != 0) = true := by simp; omega
      clear q0 q1 q2 q3 q4 q5 k2 hk hk0 HS1 K1 HF
      have FIN := Lib.hid (HS2.out.res.put (.int .i64 0) (.int .i64 0) (.int .i64 0) (.int .i64 0) (.slice none 0 0) (.slice none 0 0))
      obtain ⟨q0, q1, q2, q3, q4, q5⟩ := HS2.out.call.cells
      obtain ⟨r0, r1, r2, r3, r4, r5⟩ := HS2.out.res.cells
      obtain ⟨n0, n1, n2, n3, n4, n5⟩ := HS2.out.non.cells
      have z0 := HS2.out.res.free 0
      have z1 := HS2.out.res.free 1
      have z2 := HS2.out.res.free 2
      have z3 := HS2.out.res.free 3
      have z4 := HS2.out.res.free 4
      have z5 := HS2.out.res.free 5
      go_wp2_with fail
      obtain ⟨e1, e2⟩ := FIN.out
      obtain ⟨d0, d1, d2, d3, d4, d5⟩ := e1.cells
      clear FIN q0 q1 q2 q3 q4 q5 r0 r1 r2 r3 r4 r5 n0 n1 n2 n3 n4 n5 z0 z1 z2 z3 z4 z5
      refine bodyPost_ret (v := .tuple #[.agg zAns, .int .i64 (kk : Int)]) (by simp [results, Tryz.results27, go_sem, d0, d1, d2, d3, d4, d5, zAns]) rfl ?_
      have hle := HLE.out
      rw [HD.out]
      have kE := Keep.trans K2.out e2 (fun i hi (h : i = b + 1) => by omega)
      exact RDid.ans ⟨rfl, Keep.mono kE (fun _ _ h => h.elim), HT.out.kept kE⟩ ⟨rfl, rfl, rfl, rfl, rfl⟩
    · have HS2 := Lib.hid (HS1.out.kept k2 (fun h => h) (fun h => h) (fun h => h))
      have K2 := Lib.hid (KF.trans K1.out k2)
      have HE := Lib.hid ha
      have ha64 := HG.out.lt hka
      have ha64' : (a : Int) < 64 := by omega
      have HKA := Lib.hid hka
      clear q0 q1 q2 q3 q4 q5 k2 ha hka HS1 K1
      obtain ⟨q0, q1, q2, q3, q4, q5⟩ := HS2.out.call.cells
      go_wp2_with fail
      refine (HF.out w2 A K2.out HJS.out).mono ?_
      have HQ : ∀ e w3, Finds t A.data.toList w2 e w3 → ∃ z0 z1 : Int, e = .returned (.tuple #[.int .i64 z0, .int .i64 z1]) ∧ KF w2 w3 := by
        rintro e w3 ⟨k3, ⟨kk, _, _, rfl⟩ | ⟨a', _, _, rfl⟩⟩
        · exact ⟨_, _, rfl, k3⟩
        · exact ⟨_, _, rfl, k3⟩
      intro e w3 he
      obtain ⟨z0', z1', rfl, k3⟩ := HQ e w3 he
      have HS3 := Lib.hid (HS2.out.kept k3 (fun h => h) (fun h => h) (fun h => h))
      have K3 := Lib.hid (KF.trans K2.out k3)
      have R3 := Lib.hid (HT.out.kept K3.out)
      have c1 := (R3.out.node a ha64).kind
      clear q0 q1 q2 q3 q4 q5 k3 he HQ HS2 K2 HF
      rcases HG.out.two HKA.out with h1 | h2
      · rw [h1] at c1
        have HD : Hid (doRead t s.data.toList off n = (errA 24, t)) := Lib.hid (by have ha := HE.out; exact (rread_dir ha h1))
        clear h1
        have FIN := Lib.hid (HS3.out.res.put (.int .i64 0) (.int .i64 0) (.int .i64 0) (.int .i64 0) (.slice none 0 0) (.slice none 0 0))
        obtain ⟨q0, q1, q2, q3, q4, q5⟩ := HS3.out.call.cells
        obtain ⟨r0, r1, r2, r3, r4, r5⟩ := HS3.out.res.cells
        obtain ⟨n0, n1, n2, n3, n4, n5⟩ := HS3.out.non.cells
        have z0 := HS3.out.res.free 0
        have z1 := HS3.out.res.free 1
        have z2 := HS3.out.res.free 2
        have z3 := HS3.out.res.free 3
        have z4 := HS3.out.res.free 4
        have z5 := HS3.out.res.free 5
        go_wp2_with fail
        obtain ⟨e1, e2⟩ := FIN.out
        obtain ⟨d0, d1, d2, d3, d4, d5⟩ := e1.cells
        clear FIN q0 q1 q2 q3 q4 q5 r0 r1 r2 r3 r4 r5 n0 n1 n2 n3 n4 n5 z0 z1 z2 z3 z4 z5
        refine bodyPost_ret (v := .tuple #[.agg zAns, .int .i64 24]) (by simp [results, Tryz.results27, go_sem, d0, d1, d2, d3, d4, d5, zAns]) rfl ?_
        have hle := HLE.out
        rw [HD.out]
        have kE := Keep.trans K3.out e2 (fun i hi (h : i = b + 1) => by omega)
        exact RDid.ans ⟨rfl, Keep.mono kE (fun _ _ h => h.elim), HT.out.kept kE⟩ ⟨rfl, rfl, rfl, rfl, rfl⟩
      · rw [h2] at c1
        have H2 := Lib.hid h2
        have hd512 := (HG.out.file a h2).2
        obtain ⟨A3, x3, c3w, hrd, _⟩ := (HT.out.node a ha64).data
        have c3 := (KF.cell K3.out (p := ⟨g, a * 5 + 3, none⟩) HLT.out).trans c3w
        clear c3w
        have HRD := Lib.hid hrd
        clear h2 hrd
        obtain ⟨q0, q1, q2, q3, q4, q5⟩ := HS3.out.call.cells
        by_cases hbad : off < 0 ∨ n < 0 ∨ 256 < n
        · have HD : Hid (doRead t s.data.toList off n = (errA 1, t)) := Lib.hid (by rw [rread_file HE.out H2.out, if_pos hbad])
          by_cases hb1 : off < 0
          · clear hbad q0 q1 q2 q3 q4 q5
            have FIN := Lib.hid (HS3.out.res.put (.int .i64 0) (.int .i64 0) (.int .i64 0) (.int .i64 0) (.slice none 0 0) (.slice none 0 0))
            obtain ⟨q0, q1, q2, q3, q4, q5⟩ := HS3.out.call.cells
            obtain ⟨r0, r1, r2, r3, r4, r5⟩ := HS3.out.res.cells
            obtain ⟨n0, n1, n2, n3, n4, n5⟩ := HS3.out.non.cells
            have z0 := HS3.out.res.free 0
            have z1 := HS3.out.res.free 1
            have z2 := HS3.out.res.free 2
            have z3 := HS3.out.res.free 3
            have z4 := HS3.out.res.free 4
            have z5 := HS3.out.res.free 5
            go_wp2_with fail
            obtain ⟨e1, e2⟩ := FIN.out
            obtain ⟨d0, d1, d2, d3, d4, d5⟩ := e1.cells
            clear FIN q0 q1 q2 q3 q4 q5 r0 r1 r2 r3 r4 r5 n0 n1 n2 n3 n4 n5 z0 z1 z2 z3 z4 z5
            refine bodyPost_ret (v := .tuple #[.agg zAns, .int .i64 1]) (by simp [results, Tryz.results27, go_sem, d0, d1, d2, d3, d4, d5, zAns]) rfl ?_
            have hle := HLE.out
            rw [HD.out]
            have kE := Keep.trans K3.out e2 (fun i hi (h : i = b + 1) => by omega)
            exact RDid.ans ⟨rfl, Keep.mono kE (fun _ _ h => h.elim), HT.out.kept kE⟩ ⟨rfl, rfl, rfl, rfl, rfl⟩
          by_cases hb2 : n < 0
          · clear hbad q0 q1 q2 q3 q4 q5
            have FIN := Lib.hid (HS3.out.res.put (.int .i64 0) (.int .i64 0) (.int .i64 0) (.int .i64 0) (.slice none 0 0) (.slice none 0 0))
            obtain ⟨q0, q1, q2, q3, q4, q5⟩ := HS3.out.call.cells
            obtain ⟨r0, r1, r2, r3, r4, r5⟩ := HS3.out.res.cells
            obtain ⟨n0, n1, n2, n3, n4, n5⟩ := HS3.out.non.cells
            have z0 := HS3.out.res.free 0
            have z1 := HS3.out.res.free 1
            have z2 := HS3.out.res.free 2
            have z3 := HS3.out.res.free 3
            have z4 := HS3.out.res.free 4
            have z5 := HS3.out.res.free 5
            go_wp2_with fail
            obtain ⟨e1, e2⟩ := FIN.out
            obtain ⟨d0, d1, d2, d3, d4, d5⟩ := e1.cells
            clear FIN q0 q1 q2 q3 q4 q5 r0 r1 r2 r3 r4 r5 n0 n1 n2 n3 n4 n5 z0 z1 z2 z3 z4 z5
            refine bodyPost_ret (v := .tuple #[.agg zAns, .int .i64 1]) (by simp [results, Tryz.results27, go_sem, d0, d1, d2, d3, d4, d5, zAns]) rfl ?_
            have hle := HLE.out
            rw [HD.out]
            have kE := Keep.trans K3.out e2 (fun i hi (h : i = b + 1) => by omega)
            exact RDid.ans ⟨rfl, Keep.mono kE (fun _ _ h => h.elim), HT.out.kept kE⟩ ⟨rfl, rfl, rfl, rfl, rfl⟩
          have hb3 : 256 < n := (hbad.resolve_left hb1).resolve_left hb2
          clear hbad q0 q1 q2 q3 q4 q5
          have FIN := Lib.hid (HS3.out.res.put (.int .i64 0) (.int .i64 0) (.int .i64 0) (.int .i64 0) (.slice none 0 0) (.slice none 0 0))
          obtain ⟨q0, q1, q2, q3, q4, q5⟩ := HS3.out.call.cells
          obtain ⟨r0, r1, r2, r3, r4, r5⟩ := HS3.out.res.cells
          obtain ⟨n0, n1, n2, n3, n4, n5⟩ := HS3.out.non.cells
          have z0 := HS3.out.res.free 0
          have z1 := HS3.out.res.free 1
          have z2 := HS3.out.res.free 2
          have z3 := HS3.out.res.free 3
          have z4 := HS3.out.res.free 4
          have z5 := HS3.out.res.free 5
          go_wp2_with fail
          obtain ⟨e1, e2⟩ := FIN.out
          obtain ⟨d0, d1, d2, d3, d4, d5⟩ := e1.cells
          clear FIN q0 q1 q2 q3 q4 q5 r0 r1 r2 r3 r4 r5 n0 n1 n2 n3 n4 n5 z0 z1 z2 z3 z4 z5
          refine bodyPost_ret (v := .tuple #[.agg zAns, .int .i64 1]) (by simp [results, Tryz.results27, go_sem, d0, d1, d2, d3, d4, d5, zAns]) rfl ?_
          have hle := HLE.out
          rw [HD.out]
          have kE := Keep.trans K3.out e2 (fun i hi (h : i = b + 1) => by omega)
          exact RDid.ans ⟨rfl, Keep.mono kE (fun _ _ h => h.elim), HT.out.kept kE⟩ ⟨rfl, rfl, rfl, rfl, rfl⟩
        have hb1 : ¬ off < 0 := fun h => hbad (.inl h)
        have hb2 : ¬ n < 0 := fun h => hbad (.inr (.inl h))
        have hb3 : ¬ 256 < n := fun h => hbad (.inr (.inr h))
        have HD0 : Hid (doRead t s.data.toList off n = (⟨0, 0, 0, 0, ((t a).data.drop off.toNat).take n.toNat, []⟩, t)) := Lib.hid (by rw [rread_file HE.out H2.out, if_neg hbad])
        clear hbad
        obtain ⟨m, rfl⟩ : ∃ m : Nat, off = (m : Int) := ⟨off.toNat, by omega⟩
        obtain ⟨nn, rfl⟩ : ∃ nn : Nat, n = (nn : Int) := ⟨n.toNat, by omega⟩
        have HD : Hid (doRead t s.data.toList (m : Int) (nn : Int) = (⟨0, 0, 0, 0, ((t a).data.drop m).take nn, []⟩, t)) := Lib.hid (by rw [HD0.out]; simp)
        obtain ⟨dat, hdat⟩ : ∃ dat, (t a).data = dat := ⟨_, rfl⟩
        rw [hdat] at HD HRD hd512 c3
        obtain ⟨L1, hL1⟩ : ∃ L1, dat.length = L1 := ⟨_, rfl⟩
        rw [hL1] at c3 hd512
        have HL1 := Lib.hid hL1
        have HNON : Hid (DN b L1 dat m w3 w3 0 (.slice none 0 0)) := Lib.hid ⟨HS3.out.non, ⟨none, 0, 0, rfl, Own.nil _ _, NB.nil _⟩, Keep.refl _ _⟩
        clear HD0 hL1 hdat
        go_upto_region 93 with fail
        go_wp2_with fail
        go_loopg [29] nn (fun gh i wr => ∃ (k : Nat) (v : Value), k ≤ nn ∧ nn - k ≤ gh ∧ i = .int .i64 k ∧ (k = 0 ∨ m + k ≤ L1) ∧ Hid (DN b L1 dat m w3 wr k v))
        case atStart => exact ⟨0, _, by omega, by omega, rfl, .inl rfl, HNON⟩
        case round =>
          obtain ⟨k, v, hk, hgk, rfl, hkL, HN⟩ := hrel
          obtain ⟨Av, nv, cv, rfl, hown, hnb⟩ := HN.out.own
          have HNB := Lib.hid hnb
          have HSZ : Hid (b + 1 + 1 < w3.heap.size) := Lib.hid HS3.out.non.lt
          obtain ⟨q0, q1, q2, q3, q4, q5⟩ := (HS3.out.call.kept HN.out.keep (show ¬ b = b + 1 + 1 by omega)).cells
          have k24 := HN.out.non.cells.2.2.2.2.1
          clear hnb
          by_cases hin : k < nn ∧ m + k < L1
          · obtain ⟨hk1, hmk⟩ := hin
            have hm1 : m < L1 := by omega
            have hmk2 : m + k < dat.length := by rw [HL1.out]; exact hmk
            have rdW : Rd wr w.heap.size A3 dat := (HRD.out.keepF K3.out (Nat.le_refl _)).keepS (Keep.size K3.out) HN.out.keep (by
              rintro a0 rfl e
              obtain ⟨_, h1, h2, _⟩ := HRD.out.cells hmk2
              injection h1 with h1
              subst h1
              have := HLE.out
              omega)
            obtain ⟨a3, rfl, _, hc⟩ := rdW.cells hmk2
            have HTM := Lib.hid (take_more hmk2)
            obtain ⟨xb, hxb⟩ : ∃ xb, dat[m + k]'hmk2 = xb := ⟨_, rfl⟩
            rw [hxb] at hc HTM
            obtain ⟨pre, hpre⟩ : ∃ pre, (dat.drop m).take k = pre := ⟨_, rfl⟩
            have hpl : pre.length ≤ k := by rw [← hpre]; exact List.length_take_le _ _
            rw [hpre] at HTM hown
            have HO := Lib.hid hown
            have hwv : ∀ kk, (Value.slice Av nv cv).ownBlock = some kk → b + 1 + 1 < kk := fun kk e => Nat.lt_of_lt_of_le HSZ.out (HNB.out kk e)
            have HG : Hid (∀ X W9, ((wr.alloc X).drew).grownBy W9 (Value.slice Av nv cv).ownBlock → Six6 W9 (b + 1 + 1) 36 (.int .i64 0) (.int .i64 0) (.int .i64 0) (.int .i64 0) (.slice Av nv cv) (.slice none 0 0) ∧ W9.cell? ⟨b + 1 + 1, 4, none⟩ = some (.slice Av nv cv) ∧ W9.frozen? ⟨b + 1 + 1, 4, none⟩ = false) := Lib.hid fun X W9 hg => by
              have S9 := HN.out.non.kept ((((Keep.refl (fun i => (Value.slice Av nv cv).ownBlock = some i) wr).alloc X).drew).grown hg (fun i e _ => e)) (fun e => by have := hwv _ e; omega)
              exact ⟨S9, S9.cells.2.2.2.2.1, S9.free 4⟩
            have FIN : Hid (∀ X W9 A9 n9 c9, ((wr.alloc X).drew).grownBy W9 (Value.slice Av nv cv).ownBlock → Own 5 W9 (.slice A9 n9 c9) (pre ++ [xb]) → ((Value.slice A9 n9 c9).ownBlock = (Value.slice Av nv cv).ownBlock ∨ (Value.slice A9 n9 c9).ownBlock = some (wr.alloc X).heap.size) → DN b L1 dat m w3 (W9.setCell ⟨b + 1 + 1, 4, none⟩ (.slice A9 n9 c9)) (k + 1) (.slice A9 n9 c9)) := Lib.hid fun X W9 A9 n9 c9 hg o9 f9 => by
              have nb9 : NB w3 (.slice A9 n9 c9) := HNB.out.next (Nat.le_trans (Keep.size HN.out.keep) (by simp)) f9
              refine ⟨Go.heap_setCell_same _ _ _ _ _ _ (HG.out X W9 hg).1, ⟨A9, n9, c9, rfl, ?_, nb9⟩, ?_⟩
              · rw [HTM.out]
                exact o9.kept ((Keep.refl (fun i => i = b + 1 + 1) W9).setCell (.inr rfl) _) (fun kk e h => by have := nb9 kk e; have := HSZ.out; omega)
              · exact (((HN.out.keep.alloc X).drew).own hg HNB.out).setCell (.inr rfl) _
            have k24a : (wr.alloc (.cells #[.int .u8 (xb.toNat : Int)] 5)).cell? ⟨b + 1 + 1, 4, none⟩ = some (.slice Av nv cv) := (World.cell?_alloc_lt wr _ ⟨b + 1 + 1, 4, none⟩ HN.out.non.lt).trans k24
            have hx : xb.toNat < 256 := UInt8.toNat_lt _
            obtain ⟨mk, hmk'⟩ : ∃ mk, m + k = mk := ⟨_, rfl⟩
            rw [hmk'] at hc hmk
            have wr1 : IntKind.i64.wrap ((m : Int) + (k : Int)) = ((mk : Nat) : Int) := by rw [IntKind.wrap_i64]; omega
            have d1 : decide ((k : Int) < (nn : Int)) = true := by simp; omega
            have d2 : decide ((m : Int) < (L1 : Int)) = true := by simp; omega
            have d3 : decide ((mk : Int) < (L1 : Int)) = true := by simp; omega
            clear hpre hxb hmk2 rdW HTM hwv hown
            go_upto_region 95 with fail
            go_region_law (first
              | (refine step_append_u8 _ rfl _ _ _ rfl rbytesT (.slice Av nv cv) pre rfl ((HO.out.alloc _).drew) (wr.heap.size + 1) (some ⟨wr.heap.size, 0, none⟩) 1 1 [xb] rfl rfl ((Rd.lit wr 5 (0, 0) [xb] _ rfl).drew) (by simp; omega) ?_; intro A9 n9 c9 w9 o9 e9 h9 m9 g9 f9; obtain ⟨_, s9, t9⟩ := HG.out _ _ g9)
              | (go_simp; go_wp2_with fail))
            all_goals
              go_wp2_with fail
              go_roundg (nn - (k + 1))
              case measure => omega
              case rel => exact ⟨k + 1, .slice A9 n9 c9, by omega, by omega, by go_num, .inr (by omega), Lib.hid (FIN.out _ _ _ _ _ g9 o9 f9)⟩
          · have HTE := Lib.hid (take_end (l := dat) (m := m) (k := k) (q := nn) (by rw [HL1.out]; omega) hk)
            by_cases hk1 : k < nn
            · have hk2 : L1 ≤ m + k := by omega
              by_cases hm1 : m < L1
              · have wr1 : IntKind.i64.wrap ((m : Int) + (k : Int)) = ((m + k : Nat) : Int) := by rw [IntKind.wrap_i64]; omega
                clear hin
                have HRS := HS3.out.res.kept HN.out.keep (show ¬ b + 1 = b + 1 + 1 by omega)
                have HO := Lib.hid hown
                have FIN := Lib.hid (HRS.put (.int .i64 0) (.int .i64 0) (.int .i64 0) (.int .i64 0) (.slice Av nv cv) (.slice none 0 0))
                obtain ⟨r0, r1, r2, r3, r4, r5⟩ := HRS.cells
                obtain ⟨n0, n1, n2, n3, n4, n5⟩ := HN.out.non.cells
                have z0 := HRS.free 0
                have z1 := HRS.free 1
                have z2 := HRS.free 2
                have z3 := HRS.free 3
                have z4 := HRS.free 4
                have z5 := HRS.free 5
                clear HRS hown k24
                go_wp2_with fail
                obtain ⟨e1, e2⟩ := FIN.out
                obtain ⟨d0, d1, d2, d3, d4, d5⟩ := e1.cells
                refine bodyPost_ret (v := .tuple #[.agg #[.int .i64 0, .int .i64 0, .int .i64 0, .int .i64 0, .slice Av nv cv, .slice none 0 0], .int .i64 0]) (by simp [results, Tryz.results27, go_sem, d0, d1, d2, d3, d4, d5]) rfl ?_
                have hle := HLE.out
                rw [HD.out, ← HTE.out]
                have kE := Keep.trans (Keep.trans K3.out HN.out.keep (fun i hi (h : i = b + 1 + 1) => by omega)) e2 (fun i hi (h : i = b + 1) => by omega)
                exact ⟨Av, nv, cv, none, 0, 0, rfl, ⟨HO.out.len, rfl, (HO.out.kept e2 (fun kk e (h : kk = b + 1) => by have := HNB.out kk e; have := HSZ.out; omega)).rd, Strs.nil⟩, Keep.mono kE (fun _ _ h => h.elim), HT.out.kept kE, fun ad had => (HT.out.kept K3.out).new _ (HNB.out ad.block (by rw [had]; rfl)), fun _ h => nomatch h⟩
              · clear hin
                have HRS := HS3.out.res.kept HN.out.keep (show ¬ b + 1 = b + 1 + 1 by omega)
                have HO := Lib.hid hown
                have FIN := Lib.hid (HRS.put (.int .i64 0) (.int .i64 0) (.int .i64 0) (.int .i64 0) (.slice Av nv cv) (.slice none 0 0))
                obtain ⟨r0, r1, r2, r3, r4, r5⟩ := HRS.cells
                obtain ⟨n0, n1, n2, n3, n4, n5⟩ := HN.out.non.cells
                have z0 := HRS.free 0
                have z1 := HRS.free 1
                have z2 := HRS.free 2
                have z3 := HRS.free 3
                have z4 := HRS.free 4
                have z5 := HRS.free 5
                clear HRS hown k24
                go_wp2_with fail
                obtain ⟨e1, e2⟩ := FIN.out
                obtain ⟨d0, d1, d2, d3, d4, d5⟩ := e1.cells
                refine bodyPost_ret (v := .tuple #[.agg #[.int .i64 0, .int .i64 0, .int .i64 0, .int .i64 0, .slice Av nv cv, .slice none 0 0], .int .i64 0]) (by simp [results, Tryz.results27, go_sem, d0, d1, d2, d3, d4, d5]) rfl ?_
                have hle := HLE.out
                rw [HD.out, ← HTE.out]
                have kE := Keep.trans (Keep.trans K3.out HN.out.keep (fun i hi (h : i = b + 1 + 1) => by omega)) e2 (fun i hi (h : i = b + 1) => by omega)
                exact ⟨Av, nv, cv, none, 0, 0, rfl, ⟨HO.out.len, rfl, (HO.out.kept e2 (fun kk e (h : kk = b + 1) => by have := HNB.out kk e; have := HSZ.out; omega)).rd, Strs.nil⟩, Keep.mono kE (fun _ _ h => h.elim), HT.out.kept kE, fun ad had => (HT.out.kept K3.out).new _ (HNB.out ad.block (by rw [had]; rfl)), fun _ h => nomatch h⟩
            · clear hin
              have HRS := HS3.out.res.kept HN.out.keep (show ¬ b + 1 = b + 1 + 1 by omega)
              have HO := Lib.hid hown
              have FIN := Lib.hid (HRS.put (.int .i64 0) (.int .i64 0) (.int .i64 0) (.int .i64 0) (.slice Av nv cv) (.slice none 0 0))
              obtain ⟨r0, r1, r2, r3, r4, r5⟩ := HRS.cells
              obtain ⟨n0, n1, n2, n3, n4, n5⟩ := HN.out.non.cells
              have z0 := HRS.free 0
              have z1 := HRS.free 1
              have z2 := HRS.free 2
              have z3 := HRS.free 3
              have z4 := HRS.free 4
              have z5 := HRS.free 5
              clear HRS hown k24
              go_wp2_with fail
              obtain ⟨e1, e2⟩ := FIN.out
              obtain ⟨d0, d1, d2, d3, d4, d5⟩ := e1.cells
              refine bodyPost_ret (v := .tuple #[.agg #[.int .i64 0, .int .i64 0, .int .i64 0, .int .i64 0, .slice Av nv cv, .slice none 0 0], .int .i64 0]) (by simp [results, Tryz.results27, go_sem, d0, d1, d2, d3, d4, d5]) rfl ?_
              have hle := HLE.out
              rw [HD.out, ← HTE.out]
              have kE := Keep.trans (Keep.trans K3.out HN.out.keep (fun i hi (h : i = b + 1 + 1) => by omega)) e2 (fun i hi (h : i = b + 1) => by omega)
              exact ⟨Av, nv, cv, none, 0, 0, rfl, ⟨HO.out.len, rfl, (HO.out.kept e2 (fun kk e (h : kk = b + 1) => by have := HNB.out kk e; have := HSZ.out; omega)).rd, Strs.nil⟩, Keep.mono kE (fun _ _ h => h.elim), HT.out.kept kE, fun ad had => (HT.out.kept K3.out).new _ (HNB.out ad.block (by rw [had]; rfl)), fun _ h => nomatch h⟩
end Go.Proofs.YtlkiaghpdjbfeaaGreatDoor
