/-
  The reference's do: write.
-/
import Derived.Test.YtlkiaghpdjbfeaaGreatDoorPhRefLink
import Derived.Test.YtlkiaghpdjbfeaaGreatDoorPk1
namespace Go.Proofs.YtlkiaghpdjbfeaaGreatDoor
open Go.RowKit
variable {Zp : Nat → Prop}

theorem rwrite_err {t : Tr} {s : Txt} {k : Nat} {off : Int} {d : Txt} (h : find t s = .error k) : doWrite t s off d = (errA k, t) := by unfold doWrite; rw [findFile_err h]
theorem rwrite_dir {t : Tr} {s : Txt} {a : Nat} {off : Int} {d : Txt} (h : find t s = .ok a) (hk : (t a).kind = 1) : doWrite t s off d = (errA 24, t) := by unfold doWrite; rw [findFile_dir h hk]
theorem rwrite_file {t : Tr} {s : Txt} {a : Nat} {off : Int} {d : Txt} (h : find t s = .ok a) (hk : (t a).kind = 2) : doWrite t s off d = if off < 0 ∨ 256 < d.length then (errA 1, t) else if 512 < off.toNat + d.length then (errA 27, t) else (okA, t.bytes a (written (t a).data off.toNat d)) := by unfold doWrite; rw [findFile_file h hk]
theorem Own.headW {E : TypeId} {w : World} {A : Option Addr} {n c : Nat} {l : List UInt8} (h : Own E w (.slice A n c) l) (hn : 0 < n) : ∃ g, A = some ⟨g, 0, none⟩ := by
  have e := h.len
  obtain ⟨g, cap, hv, _⟩ := World.ownsRow.form h (by omega)
  injection hv with hv
  exact ⟨g, hv⟩
theorem over_step (S : Txt) (m : Nat) (d : Txt) (k : Nat) (hk : k < d.length) (h : m + d.length ≤ S.length) : over S m (d.take (k + 1)) = (over S m (d.take k)).set (m + k) d[k] := by
  have hl : (d.take (k + 1)).length = k + 1 := by rw [List.length_take]; omega
  have hl0 : (d.take k).length = k := by rw [List.length_take]; omega
  apply List.ext_getElem?
  intro j
  rw [over_get (by rw [hl]; omega), List.getElem?_set, over_get (by rw [hl0]; omega), over_length (by rw [hl0]; omega), hl, hl0]
  by_cases hj : m + k = j
  · subst hj
    rw [if_pos (by omega), if_pos rfl, if_pos (by omega), List.getElem?_take, if_pos (by omega), show m + k - m = k by omega, List.getElem?_eq_getElem hk]
  · rw [if_neg hj]
    by_cases h4 : m ≤ j ∧ j < m + k
    · rw [if_pos (by omega), if_pos h4, List.getElem?_take, List.getElem?_take, if_pos (by omega), if_pos (by omega)]
    · rw [if_neg (by omega), if_neg h4]
theorem over_none (S : Txt) (m : Nat) : over S m [] = S := by simp [over]
theorem bytes_self (t : Tr) (a : Nat) : t.bytes a (t a).data = t := by
  funext n
  unfold Tr.bytes Tr.set
  split
  · next e => rw [e]
  · rfl
set_option maxRecDepth 100000 in
set_option maxHeartbeats 4000000 in
theorem rdo_write (w : World) (g : Nat) (t : Tr) (off n : Int) (s : ByteArray) (o d : Value) (Ad : Option Addr) (kd cd : Nat) (dd : Txt) (hdv : d = .slice Ad kd cd) (hkd : kd = dd.length) (hkb : kd ≤ 1000000) (hdr : Rd w w.heap.size Ad dd) (h : RefAt Zp w g t) (G : Good t) (hb : Small t) (hs : s.size ≤ 1000) :
    Calls Tryz.prog 27 #[.pointer (some ⟨g, 0, none⟩), .agg #[.int .i64 7, .string s, o, .int .i64 off, .int .i64 n, d]] w (RDid Zp g (doWrite t s.data.toList off dd) w) := by
  have HDV := Lib.hid hdv
  have HDR := Lib.hid hdr
  have HKD := Lib.hid hkd
  clear hdv hdr hkd
  have HT := Lib.hid h
  have HG := Lib.hid G
  have HSM := Lib.hid hb
  have HLT := Lib.hid h.lt
  have HF := Lib.hid fun W (s' : ByteArray) (k : KF w W) (hs' : s'.size ≤ 1000) => rfind_any s' W g t (h.kept k) G hb hs'
  have HSS := Lib.hid hs
  have HPL := Lib.hid fun W (s' : ByteArray) (k : KF w W) (hs' : s'.size ≤ 1000) => rplace_any s' W g t (h.kept k) G hb hs'
  clear h G hb
  rcases pathM_cases s.data.toList with hp | ⟨ns, x, hp⟩
  · have HU := Lib.hid fun W => rup_no s W hs hp
    have HROOT : Hid (∀ a, find t s.data.toList = .ok a → (t a).kind = 1) := Lib.hid fun a ha => find_top HG.out hp ha
    clear hp hs HPL
    obtain ⟨b, hb⟩ : ∃ b, w.heap.size = b := ⟨_, rfl⟩
    obtain ⟨W, hW⟩ : ∃ W, (((w.alloc (.cells #[.int .i64 7, .string s, o, .int .i64 off, .int .i64 n, d] 31)).alloc (.cells #[.int .i64 0, .int .i64 0, .int .i64 0, .int .i64 0, .slice none 0 0, .slice none 0 0] 36)).alloc (.cells #[.int .i64 0, .int .i64 0, .int .i64 0, .int .i64 0, .slice none 0 0, .slice none 0 0] 36)) = W := ⟨_, rfl⟩
    have S := DoS.new w 7 off n (.string s) o d
    rw [hb, hW] at S
    have kW : KF w W := by rw [← hW]; exact (((KF.refl w).alloc _).alloc _).alloc _
    have HW := Lib.hid hW
    have HBB := Lib.hid hb
    have HS := Lib.hid S
    have HK := Lib.hid kW
    clear hb hW S kW
    go_enter Tryz.func27, Tryz.ntmps27
    go_upto_region 2 with fail
    rw [HW.out, HBB.out]
    have HLE : Hid (w.heap.size ≤ b ∧ g < b) := Lib.hid ⟨Nat.le_of_eq HBB.out, by have := HBB.out; have := HLT.out; omega⟩
    clear HW HBB
    obtain ⟨q0, q1, q2, q3, q4, q5⟩ := HS.out.call.cells
    go_wp2_with fail
    refine (HU.out W).mono ?_
    rintro e w1 ⟨rfl, k1⟩
    have HS1 := Lib.hid (HS.out.kept k1 (fun h => h) (fun h => h) (fun h => h))
    have K1 := Lib.hid (KF.trans HK.out k1)
    clear q0 q1 q2 q3 q4 q5 k1 HU HS HK
    obtain ⟨q0, q1, q2, q3, q4, q5⟩ := HS1.out.call.cells
    go_wp2_with fail
    refine (HF.out w1 s K1.out HSS.out).mono ?_
    rintro e w2 ⟨k2, ⟨kk, hk, hk0, rfl⟩ | ⟨a, ha, hka, rfl⟩⟩
    · have HS2 := Lib.hid (HS1.out.kept k2 (fun h => h) (fun h => h) (fun h => h))
      have K2 := Lib.hid (KF.trans K1.out k2)
      have HD : Hid (doWrite t s.data.toList off dd = (errA kk, t)) := Lib.hid (rwrite_err hk)
      have hk0' : ((kk : Int) != 0) = true := by simp; omega
      clear q0 q1 q2 q3 q4 q5 k2 hk hk0 HS1 K1 HF
      have FIN := Lib.hid (HS2.out.res.put (.int .i64 0) (.int .i64 0) (.int .i64 0) (.int .i64 0) (.slice none 0 0) (.slice none 0 0))
      obtain ⟨q0, q1, q2, q3, q4, q5⟩ := HS2.out.call.cells
      obtain ⟨r0, r1, r2, r3, r4, r5⟩ := HS2.out.res.cells
      obtain ⟨n0, n1, n2, n3, n4, n5⟩ := HS2.out.non.cells
      have z0 := HS2.out.res.free 0
      have z1 := HS2.out.res.free 1
      have z2 := HS2.out.res.free 2
      have z3 := HS2.out.res.free 3
      have z4 := HS2.out.res.free 4
      have z5 := HS2.out.res.free 5
      go_wp2_with fail
      obtain ⟨e1, e2⟩ := FIN.out
      obtain ⟨d0, d1, d2, d3, d4, d5⟩ := e1.cells
      clear FIN q0 q1 q2 q3 q4 q5 r0 r1 r2 r3 r4 r5 n0 n1 n2 n3 n4 n5 z0 z1 z2 z3 z4 z5
      refine bodyPost_ret (v := .tuple #[.agg zAns, .int .i64 (kk : Int)]) (by simp [results, Tryz.results27, go_sem, d0, d1, d2, d3, d4, d5, zAns]) rfl ?_
      have hle := HLE.out
      rw [HD.out]
      have kE := Keep.trans K2.out e2 (fun i hi (h : i = b + 1) => by omega)
      exact ⟨rfl, Keep.mono kE (fun _ _ h => h.elim), HT.out.kept kE⟩
    · have HS2 := Lib.hid (HS1.out.kept k2 (fun h => h) (fun h => h) (fun h => h))
      have K2 := Lib.hid (KF.trans K1.out k2)
      have h1 := HROOT.out a ha
      have HD : Hid (doWrite t s.data.toList off dd = (errA 24, t)) := Lib.hid (rwrite_dir ha h1)
      have ha64 := HG.out.lt hka
      have ha64' : (a : Int) < 64 := by omega
      have H1 := Lib.hid h1
      clear q0 q1 q2 q3 q4 q5 k2 ha hka HS1 K1 h1
      obtain ⟨q0, q1, q2, q3, q4, q5⟩ := HS2.out.call.cells
      go_wp2_with fail
      refine (HF.out w2 ⟨#[]⟩ K2.out (by decide)).mono ?_
      have HQ : ∀ e w3, Finds t (⟨#[]⟩ : ByteArray).data.toList w2 e w3 → ∃ z0 z1 : Int, e = .returned (.tuple #[.int .i64 z0, .int .i64 z1]) ∧ KF w2 w3 := by
        rintro e w3 ⟨k3, ⟨kk, _, _, rfl⟩ | ⟨a', _, _, rfl⟩⟩
        · exact ⟨_, _, rfl, k3⟩
        · exact ⟨_, _, rfl, k3⟩
      intro e w3 he
      obtain ⟨z0', z1', rfl, k3⟩ := HQ e w3 he
      have HS3 := Lib.hid (HS2.out.kept k3 (fun h => h) (fun h => h) (fun h => h))
      have K3 := Lib.hid (KF.trans K2.out k3)
      have c1 := ((HT.out.kept K3.out).node a ha64).kind
      rw [H1.out] at c1
      clear q0 q1 q2 q3 q4 q5 k3 he HQ HS2 K2 HF
      have FIN := Lib.hid (HS3.out.res.put (.int .i64 0) (.int .i64 0) (.int .i64 0) (.int .i64 0) (.slice none 0 0) (.slice none 0 0))
      obtain ⟨q0, q1, q2, q3, q4, q5⟩ := HS3.out.call.cells
      obtain ⟨r0, r1, r2, r3, r4, r5⟩ := HS3.out.res.cells
      obtain ⟨n0, n1, n2, n3, n4, n5⟩ := HS3.out.non.cells
      have z0 := HS3.out.res.free 0
      have z1 := HS3.out.res.free 1
      have z2 := HS3.out.res.free 2
      have z3 := HS3.out.res.free 3
      have z4 := HS3.out.res.free 4
      have z5 := HS3.out.res.free 5
      go_wp2_with fail
      obtain ⟨e1, e2⟩ := FIN.out
      obtain ⟨d0, d1, d2, d3, d4, d5⟩ := e1.cells
      clear FIN q0 q1 q2 q3 q4 q5 r0 r1 r2 r3 r4 r5 n0 n1 n2 n3 n4 n5 z0 z1 z2 z3 z4 z5
      refine bodyPost_ret (v := .tuple #[.agg zAns, .int .i64 24]) (by simp [results, Tryz.results27, go_sem, d0, d1, d2, d3, d4, d5, zAns]) rfl ?_
      have hle := HLE.out
      rw [HD.out]
      have kE := Keep.trans K3.out e2 (fun i hi (h : i = b + 1) => by omega)
      exact ⟨rfl, Keep.mono kE (fun _ _ h => h.elim), HT.out.kept kE⟩
  · have HU := Lib.hid fun W => rup_yes s W ns x hs hp
    have HJS : Hid ((ba (joinM ns)).size ≤ 1000) := Lib.hid (by
      obtain ⟨_, h8, hnm⟩ := pathM_some hp
      rw [ba_size]
      show (47 :: joined ns).length ≤ _
      have := joined_le ns fun q hq => hnm q (by simp [hq])
      rw [List.length_append, List.length_cons, List.length_nil] at h8
      rw [List.length_cons]
      omega)
    clear hp hs
    obtain ⟨b, hb⟩ : ∃ b, w.heap.size = b := ⟨_, rfl⟩
    obtain ⟨W, hW⟩ : ∃ W, (((w.alloc (.cells #[.int .i64 7, .string s, o, .int .i64 off, .int .i64 n, d] 31)).alloc (.cells #[.int .i64 0, .int .i64 0, .int .i64 0, .int .i64 0, .slice none 0 0, .slice none 0 0] 36)).alloc (.cells #[.int .i64 0, .int .i64 0, .int .i64 0, .int .i64 0, .slice none 0 0, .slice none 0 0] 36)) = W := ⟨_, rfl⟩
    have S := DoS.new w 7 off n (.string s) o d
    rw [hb, hW] at S
    have kW : KF w W := by rw [← hW]; exact (((KF.refl w).alloc _).alloc _).alloc _
    have HW := Lib.hid hW
    have HBB := Lib.hid hb
    have HS := Lib.hid S
    have HK := Lib.hid kW
    clear hb hW S kW
    go_enter Tryz.func27, Tryz.ntmps27
    go_upto_region 2 with fail
    rw [HW.out, HBB.out]
    have HLE : Hid (w.heap.size ≤ b ∧ g < b) := Lib.hid ⟨Nat.le_of_eq HBB.out, by have := HBB.out; have := HLT.out; omega⟩
    clear HW HBB
    obtain ⟨A, hA⟩ : ∃ A, ba (joinM ns) = A := ⟨_, rfl⟩
    obtain ⟨X, hX⟩ : ∃ X, ba x = X := ⟨_, rfl⟩
    rw [hA, hX] at HU
    rw [hA] at HJS
    clear hA hX
    obtain ⟨q0, q1, q2, q3, q4, q5⟩ := HS.out.call.cells
    go_wp2_with fail
    refine (HU.out W).mono ?_
    rintro e w1 ⟨rfl, k1⟩
    have HS1 := Lib.hid (HS.out.kept k1 (fun h => h) (fun h => h) (fun h => h))
    have K1 := Lib.hid (KF.trans HK.out k1)
    clear q0 q1 q2 q3 q4 q5 k1 HU HS HK
    obtain ⟨q0, q1, q2, q3, q4, q5⟩ := HS1.out.call.cells
    go_wp2_with fail
    refine (HF.out w1 s K1.out HSS.out).mono ?_
    rintro e w2 ⟨k2, ⟨kk, hk, hk0, rfl⟩ | ⟨a, ha, hka, rfl⟩⟩
    · have HS2 := Lib.hid (HS1.out.kept k2 (fun h => h) (fun h => h) (fun h => h))
      have K2 := Lib.hid (KF.trans K1.out k2)
      have HD : Hid (doWrite t s.data.toList off dd = (errA kk, t)) := Lib.hid (rwrite_err hk)
      have hk0' : ((kk : Int) != 0) = true := by simp; omega
      clear q0 q1 q2 q3 q4 q5 k2 hk hk0 HS1 K1 HF
      have FIN := Lib.hid (HS2.out.res.put (.int .i64 0) (.int .i64 0) (.int .i64 0) (.int .i64 0) (.slice none 0 0) (.slice none 0 0))
      obtain ⟨q0, q1, q2, q3, q4, q5⟩ := HS2.out.call.cells
      obtain ⟨r0, r1, r2, r3, r4, r5⟩ := HS2.out.res.cells
      obtain ⟨n0, n1, n2, n3, n4, n5⟩ := HS2.out.non.cells
      have z0 := HS2.out.res.free 0
      have z1 := HS2.out.res.free 1
      have z2 := HS2.out.res.free 2
      have z3 := HS2.out.res.free 3
      have z4 := HS2.out.res.free 4
      have z5 := HS2.out.res.free 5
      go_wp2_with fail
      obtain ⟨e1, e2⟩ := FIN.out
      obtain ⟨d0, d1, d2, d3, d4, d5⟩ := e1.cells
      clear FIN q0 q1 q2 q3 q4 q5 r0 r1 r2 r3 r4 r5 n0 n1 n2 n3 n4 n5 z0 z1 z2 z3 z4 z5
      refine bodyPost_ret (v := .tuple #[.agg zAns, .int .i64 (kk : Int)]) (by simp [results, Tryz.results27, go_sem, d0, d1, d2, d3, d4, d5, zAns]) rfl ?_
      have hle := HLE.out
      rw [HD.out]
      have kE := Keep.trans K2.out e2 (fun i hi (h : i = b + 1) => by omega)
      exact ⟨rfl, Keep.mono kE (fun _ _ h => h.elim), HT.out.kept kE⟩
    · have HS2 := Lib.hid (HS1.out.kept k2 (fun h => h) (fun h => h) (fun h => h))
      have K2 := Lib.hid (KF.trans K1.out k2)
      have HE := Lib.hid ha
      have ha64 := HG.out.lt hka
      have ha64' : (a : Int) < 64 := by omega
      have HKA := Lib.hid hka
      clear q0 q1 q2 q3 q4 q5 k2 ha hka HS1 K1
      obtain ⟨q0, q1, q2, q3, q4, q5⟩ := HS2.out.call.cells
      go_wp2_with fail
      refine (HF.out w2 A K2.out HJS.out).mono ?_
      have HQ : ∀ e w3, Finds t A.data.toList w2 e w3 → ∃ z0 z1 : Int, e = .returned (.tuple #[.int .i64 z0, .int .i64 z1]) ∧ KF w2 w3 := by
        rintro e w3 ⟨k3, ⟨kk, _, _, rfl⟩ | ⟨a', _, _, rfl⟩⟩
        · exact ⟨_, _, rfl, k3⟩
        · exact ⟨_, _, rfl, k3⟩
      intro e w3 he
      obtain ⟨z0', z1', rfl, k3⟩ := HQ e w3 he
      have HS3 := Lib.hid (HS2.out.kept k3 (fun h => h) (fun h => h) (fun h => h))
      have K3 := Lib.hid (KF.trans K2.out k3)
      have R3 := Lib.hid (HT.out.kept K3.out)
      have c1 := (R3.out.node a ha64).kind
      clear q0 q1 q2 q3 q4 q5 k3 he HQ HS2 K2 HF
      rcases HG.out.two HKA.out with h1 | h2
      · rw [h1] at c1
        have HD : Hid (doWrite t s.data.toList off dd = (errA 24, t)) := Lib.hid (by have ha := HE.out; exact (rwrite_dir ha h1))
        clear h1
        have FIN := Lib.hid (HS3.out.res.put (.int .i64 0) (.int .i64 0) (.int .i64 0) (.int .i64 0) (.slice none 0 0) (.slice none 0 0))
        obtain ⟨q0, q1, q2, q3, q4, q5⟩ := HS3.out.call.cells
        obtain ⟨r0, r1, r2, r3, r4, r5⟩ := HS3.out.res.cells
        obtain ⟨n0, n1, n2, n3, n4, n5⟩ := HS3.out.non.cells
        have z0 := HS3.out.res.free 0
        have z1 := HS3.out.res.free 1
        have z2 := HS3.out.res.free 2
        have z3 := HS3.out.res.free 3
        have z4 := HS3.out.res.free 4
        have z5 := HS3.out.res.free 5
        go_wp2_with fail
        obtain ⟨e1, e2⟩ := FIN.out
        obtain ⟨d0, d1, d2, d3, d4, d5⟩ := e1.cells
        clear FIN q0 q1 q2 q3 q4 q5 r0 r1 r2 r3 r4 r5 n0 n1 n2 n3 n4 n5 z0 z1 z2 z3 z4 z5
        refine bodyPost_ret (v := .tuple #[.agg zAns, .int .i64 24]) (by simp [results, Tryz.results27, go_sem, d0, d1, d2, d3, d4, d5, zAns]) rfl ?_
        have hle := HLE.out
        rw [HD.out]
        have kE := Keep.trans K3.out e2 (fun i hi (h : i = b + 1) => by omega)
        exact ⟨rfl, Keep.mono kE (fun _ _ h => h.elim), HT.out.kept kE⟩
      · rw [h2] at c1
        have H2 := Lib.hid h2
        have hd512 := (HG.out.file a h2).2
        obtain ⟨A3, x3, c3w, hrd, _⟩ := (HT.out.node a ha64).data
        have c3 := (KF.cell K3.out (p := ⟨g, a * 5 + 3, none⟩) HLT.out).trans c3w
        clear c3w
        have HRD := Lib.hid hrd
        clear h2 hrd
        obtain rfl := HDV.out
        have HF2 := Lib.hid (rwrite_file (off := off) (d := dd) HE.out H2.out)
        by_cases hb1 : off < 0
        · have HD : Hid (doWrite t s.data.toList off dd = (errA 1, t)) := Lib.hid (by rw [HF2.out, if_pos (.inl hb1)])
          have FIN := Lib.hid (HS3.out.res.put (.int .i64 0) (.int .i64 0) (.int .i64 0) (.int .i64 0) (.slice none 0 0) (.slice none 0 0))
          obtain ⟨q0, q1, q2, q3, q4, q5⟩ := HS3.out.call.cells
          obtain ⟨r0, r1, r2, r3, r4, r5⟩ := HS3.out.res.cells
          obtain ⟨n0, n1, n2, n3, n4, n5⟩ := HS3.out.non.cells
          have z0 := HS3.out.res.free 0
          have z1 := HS3.out.res.free 1
          have z2 := HS3.out.res.free 2
          have z3 := HS3.out.res.free 3
          have z4 := HS3.out.res.free 4
          have z5 := HS3.out.res.free 5
          go_wp2_with fail
          obtain ⟨e1, e2⟩ := FIN.out
          obtain ⟨d0, d1, d2, d3, d4, d5⟩ := e1.cells
          clear FIN q0 q1 q2 q3 q4 q5 r0 r1 r2 r3 r4 r5 n0 n1 n2 n3 n4 n5 z0 z1 z2 z3 z4 z5
          refine bodyPost_ret (v := .tuple #[.agg zAns, .int .i64 1]) (by simp [results, Tryz.results27, go_sem, d0, d1, d2, d3, d4, d5, zAns]) rfl ?_
          have hle := HLE.out
          rw [HD.out]
          have kE := Keep.trans K3.out e2 (fun i hi (h : i = b + 1) => by omega)
          exact ⟨rfl, Keep.mono kE (fun _ _ h => h.elim), HT.out.kept kE⟩
        by_cases hb2 : 256 < kd
        · have HD : Hid (doWrite t s.data.toList off dd = (errA 1, t)) := Lib.hid (by rw [HF2.out, if_pos (.inr (by rw [← HKD.out]; exact hb2))])
          have FIN := Lib.hid (HS3.out.res.put (.int .i64 0) (.int .i64 0) (.int .i64 0) (.int .i64 0) (.slice none 0 0) (.slice none 0 0))
          obtain ⟨q0, q1, q2, q3, q4, q5⟩ := HS3.out.call.cells
          obtain ⟨r0, r1, r2, r3, r4, r5⟩ := HS3.out.res.cells
          obtain ⟨n0, n1, n2, n3, n4, n5⟩ := HS3.out.non.cells
          have z0 := HS3.out.res.free 0
          have z1 := HS3.out.res.free 1
          have z2 := HS3.out.res.free 2
          have z3 := HS3.out.res.free 3
          have z4 := HS3.out.res.free 4
          have z5 := HS3.out.res.free 5
          go_wp2_with fail
          obtain ⟨e1, e2⟩ := FIN.out
          obtain ⟨d0, d1, d2, d3, d4, d5⟩ := e1.cells
          clear FIN q0 q1 q2 q3 q4 q5 r0 r1 r2 r3 r4 r5 n0 n1 n2 n3 n4 n5 z0 z1 z2 z3 z4 z5
          refine bodyPost_ret (v := .tuple #[.agg zAns, .int .i64 1]) (by simp [results, Tryz.results27, go_sem, d0, d1, d2, d3, d4, d5, zAns]) rfl ?_
          have hle := HLE.out
          rw [HD.out]
          have kE := Keep.trans K3.out e2 (fun i hi (h : i = b + 1) => by omega)
          exact ⟨rfl, Keep.mono kE (fun _ _ h => h.elim), HT.out.kept kE⟩
        obtain ⟨m, rfl⟩ : ∃ m : Nat, off = (m : Int) := ⟨off.toNat, by omega⟩
        by_cases hm1 : 512 < m
        · have HD : Hid (doWrite t s.data.toList (m : Int) dd = (errA 27, t)) := Lib.hid (by rw [HF2.out, if_neg (by rw [← HKD.out]; omega), Int.toNat_natCast, if_pos (by omega)])
          have FIN := Lib.hid (HS3.out.res.put (.int .i64 0) (.int .i64 0) (.int .i64 0) (.int .i64 0) (.slice none 0 0) (.slice none 0 0))
          obtain ⟨q0, q1, q2, q3, q4, q5⟩ := HS3.out.call.cells
          obtain ⟨r0, r1, r2, r3, r4, r5⟩ := HS3.out.res.cells
          obtain ⟨n0, n1, n2, n3, n4, n5⟩ := HS3.out.non.cells
          have z0 := HS3.out.res.free 0
          have z1 := HS3.out.res.free 1
          have z2 := HS3.out.res.free 2
          have z3 := HS3.out.res.free 3
          have z4 := HS3.out.res.free 4
          have z5 := HS3.out.res.free 5
          go_wp2_with fail
          obtain ⟨e1, e2⟩ := FIN.out
          obtain ⟨d0, d1, d2, d3, d4, d5⟩ := e1.cells
          clear FIN q0 q1 q2 q3 q4 q5 r0 r1 r2 r3 r4 r5 n0 n1 n2 n3 n4 n5 z0 z1 z2 z3 z4 z5
          refine bodyPost_ret (v := .tuple #[.agg zAns, .int .i64 27]) (by simp [results, Tryz.results27, go_sem, d0, d1, d2, d3, d4, d5, zAns]) rfl ?_
          have hle := HLE.out
          rw [HD.out]
          have kE := Keep.trans K3.out e2 (fun i hi (h : i = b + 1) => by omega)
          exact ⟨rfl, Keep.mono kE (fun _ _ h => h.elim), HT.out.kept kE⟩
        by_cases hm2 : 512 < m + kd
        · have HD : Hid (doWrite t s.data.toList (m : Int) dd = (errA 27, t)) := Lib.hid (by rw [HF2.out, if_neg (by rw [← HKD.out]; omega), Int.toNat_natCast, if_pos (by rw [← HKD.out]; exact hm2)])
          have FIN := Lib.hid (HS3.out.res.put (.int .i64 0) (.int .i64 0) (.int .i64 0) (.int .i64 0) (.slice none 0 0) (.slice none 0 0))
          obtain ⟨q0, q1, q2, q3, q4, q5⟩ := HS3.out.call.cells
          obtain ⟨r0, r1, r2, r3, r4, r5⟩ := HS3.out.res.cells
          obtain ⟨n0, n1, n2, n3, n4, n5⟩ := HS3.out.non.cells
          have z0 := HS3.out.res.free 0
          have z1 := HS3.out.res.free 1
          have z2 := HS3.out.res.free 2
          have z3 := HS3.out.res.free 3
          have z4 := HS3.out.res.free 4
          have z5 := HS3.out.res.free 5
          go_wp2_with fail
          obtain ⟨e1, e2⟩ := FIN.out
          obtain ⟨d0, d1, d2, d3, d4, d5⟩ := e1.cells
          clear FIN q0 q1 q2 q3 q4 q5 r0 r1 r2 r3 r4 r5 n0 n1 n2 n3 n4 n5 z0 z1 z2 z3 z4 z5
          refine bodyPost_ret (v := .tuple #[.agg zAns, .int .i64 27]) (by simp [results, Tryz.results27, go_sem, d0, d1, d2, d3, d4, d5, zAns]) rfl ?_
          have hle := HLE.out
          rw [HD.out]
          have kE := Keep.trans K3.out e2 (fun i hi (h : i = b + 1) => by omega)
          exact ⟨rfl, Keep.mono kE (fun _ _ h => h.elim), HT.out.kept kE⟩
        have HD0 : Hid (doWrite t s.data.toList (m : Int) dd = (okA, t.bytes a (written (t a).data m dd))) := Lib.hid (by rw [HF2.out, if_neg (by rw [← HKD.out]; omega), Int.toNat_natCast, if_neg (by rw [← HKD.out]; exact hm2)])
        by_cases hz : kd = 0
        · have HD : Hid (doWrite t s.data.toList (m : Int) dd = (errA 0, t)) := Lib.hid (by
            have hd0 : dd = [] := List.eq_nil_of_length_eq_zero (by rw [← HKD.out]; exact hz)
            rw [HD0.out, written, if_pos hd0, bytes_self]
            rfl)
          subst hz
          have FIN := Lib.hid (HS3.out.res.put (.int .i64 0) (.int .i64 0) (.int .i64 0) (.int .i64 0) (.slice none 0 0) (.slice none 0 0))
          obtain ⟨q0, q1, q2, q3, q4, q5⟩ := HS3.out.call.cells
          obtain ⟨r0, r1, r2, r3, r4, r5⟩ := HS3.out.res.cells
          obtain ⟨n0, n1, n2, n3, n4, n5⟩ := HS3.out.non.cells
          have z0 := HS3.out.res.free 0
          have z1 := HS3.out.res.free 1
          have z2 := HS3.out.res.free 2
          have z3 := HS3.out.res.free 3
          have z4 := HS3.out.res.free 4
          have z5 := HS3.out.res.free 5
          go_wp2_with fail
          obtain ⟨e1, e2⟩ := FIN.out
          obtain ⟨d0, d1, d2, d3, d4, d5⟩ := e1.cells
          clear FIN q0 q1 q2 q3 q4 q5 r0 r1 r2 r3 r4 r5 n0 n1 n2 n3 n4 n5 z0 z1 z2 z3 z4 z5
          refine bodyPost_ret (v := .tuple #[.agg zAns, .int .i64 0]) (by simp [results, Tryz.results27, go_sem, d0, d1, d2, d3, d4, d5, zAns]) rfl ?_
          have hle := HLE.out
          rw [HD.out]
          have kE := Keep.trans K3.out e2 (fun i hi (h : i = b + 1) => by omega)
          exact ⟨rfl, Keep.mono kE (fun _ _ h => h.elim), HT.out.kept kE⟩
        have hz' : decide ((0 : Int) < (kd : Int)) = true := by simp; omega
        have hz2 : (0 : Int) < (kd : Int) := by omega
        obtain ⟨dat, hdat⟩ : ∃ dat, (t a).data = dat := ⟨_, rfl⟩
        rw [hdat] at HD0 HRD hd512 c3
        obtain ⟨L1, hL1⟩ : ∃ L1, dat.length = L1 := ⟨_, rfl⟩
        rw [hL1] at c3 hd512
        have HL1 := Lib.hid hL1
        obtain ⟨mk, hmk⟩ : ∃ mk, m + kd = mk := ⟨_, rfl⟩
        obtain ⟨mx, hmx⟩ : ∃ mx, max L1 mk = mx := ⟨_, rfl⟩
        have HMX := Lib.hid hmx
        have wr1 : IntKind.i64.wrap ((m : Int) + (kd : Int)) = ((mk : Nat) : Int) := by rw [IntKind.wrap_i64]; omega
        have wr2 : max (L1 : Int) ((mk : Nat) : Int) = (mx : Int) := by omega
        have wr3 : max (L1 : Int) ((m : Int) + (kd : Int)) = (mx : Int) := by omega
        have hmx5 : mx ≤ 512 := by omega
        have HZ : Hid (∀ W, KF w3 W → Calls Tryz.prog 59 #[.slice A3 L1 x3, .int .i64 (mx : Int)] W fun e w' => ∃ A5 n5 c5, e = .returned (.slice A5 n5 c5) ∧ KF w3 w' ∧ Hid (Own 5 w' (.slice A5 n5 c5) (sized dat mx)) ∧ Hid (NB w3 (.slice A5 n5 c5))) := Lib.hid fun W kW => by
          refine (rsize_any A3 dat L1 x3 mx W HL1.out.symm (by omega) (by omega) (((HRD.out.keepF K3.out (Nat.le_refl _)).keepF kW K3.out.size).more (Nat.le_trans K3.out.size kW.size))).mono ?_
          rintro e w' ⟨A5, n5, c5, rfl, o5, nb5, k5⟩
          exact ⟨A5, n5, c5, rfl, KF.trans kW k5, Lib.hid o5, Lib.hid (nb5.older kW.size)⟩
        clear hL1 hdat hmx
        obtain ⟨q0, q1, q2, q3, q4, q5⟩ := HS3.out.call.cells
        go_wp2_with (first | (go_at_call 59; refine (HZ.out _ (KF.refl _)).mono ?_; rintro e w5 ⟨A5, n5, c5, rfl, k5, HO5, HN5⟩))
        obtain rfl : n5 = mx := by have := HO5.out.len; rw [sized_length] at this; exact this
        obtain ⟨gb, rfl⟩ := HO5.out.headW (by omega)
        have K5 := Lib.hid k5
        clear q0 q1 q2 q3 q4 q5 HZ k5
        go_loopg [28] kd (fun gh i wr => ∃ (k : Nat), k ≤ kd ∧ kd - k ≤ gh ∧ i = .int .i64 k ∧ Hid (Own 5 wr (.slice (some ⟨gb, 0, none⟩) n5 c5) (over (sized dat n5) m (dd.take k))) ∧ Hid (KF w3 wr))
        case atStart => exact ⟨0, by omega, by omega, rfl, Lib.hid (by rw [List.take_zero, over_none]; exact HO5.out), K5⟩
        case round =>
          obtain ⟨k, hk, hgk, rfl, HO, KW⟩ := hrel
          have KK := Lib.hid (KF.trans K3.out KW.out)
          have HSW := Lib.hid (HS3.out.kept KW.out (fun h => h) (fun h => h) (fun h => h))
          obtain ⟨q0, q1, q2, q3, q4, q5⟩ := HSW.out.call.cells
          by_cases hlt : k < kd
          · have hld : k < dd.length := by rw [← HKD.out]; exact hlt
            obtain ⟨ad, rfl, _, hc⟩ := (HDR.out.keepF KK.out (Nat.le_refl _)).cells hld
            have HST := Lib.hid (over_step (sized dat n5) m dd k hld (by rw [sized_length, ← HKD.out]; omega))
            obtain ⟨xb, hxb⟩ : ∃ xb, dd[k]'hld = xb := ⟨_, rfl⟩
            rw [hxb] at hc HST
            obtain ⟨m2, hm2'⟩ : ∃ m2, m + k = m2 := ⟨_, rfl⟩
            rw [hm2'] at HST
            have hx : xb.toNat < 256 := UInt8.toNat_lt _
            have hfz := HO.out.frozenAt m2
            have wr4 : IntKind.i64.wrap ((m : Int) + (k : Int)) = ((m2 : Nat) : Int) := by rw [IntKind.wrap_i64]; omega
            have hm2n : m2 < n5 := by omega
            obtain ⟨zz, hcw⟩ : ∃ zz, wr.cell? ⟨gb, m2, none⟩ = some zz := ⟨_, HO.out.cellAt m2 (by rw [← HO.out.len]; exact hm2n)⟩
            have NX : Hid (Own 5 (wr.setCell ⟨gb, m2, none⟩ (.int .u8 xb.toNat)) (.slice (some ⟨gb, 0, none⟩) n5 c5) (over (sized dat n5) m (dd.take (k + 1)))) := Lib.hid (by rw [HST.out]; exact HO.out.store m2 xb)
            have KX : Hid (KF w3 (wr.setCell ⟨gb, m2, none⟩ (.int .u8 xb.toNat))) := Lib.hid (KW.out.setCell (.inl (HN5.out gb rfl)) _)
            clear hxb HST wr1 wr2 wr3
            go_upto_region 87 with fail
            go_region
            all_goals
              go_wp2_with fail
              go_roundg (kd - (k + 1))
              case measure => omega
              case rel => first
                | exact ⟨k + 1, by omega, by omega, by go_num, NX, KX⟩
                | exact ⟨k + 1, by omega, by omega, by go_num, Lib.hid NX.out.drew, Lib.hid KX.out.drew⟩
          · obtain rfl : k = kd := by omega
            have HRW := Lib.hid (R3.out.kept KW.out)
            have cw := (KF.cell KW.out (p := ⟨g, a * 5 + 3, none⟩) R3.out.lt).trans c3
            have gw := HRW.out.free (a * 5 + 3)
            have HWR : Hid (over (sized dat n5) m (dd.take k) = written dat m dd) := Lib.hid (by
              rw [written, if_neg (fun h => by have := HKD.out; rw [h] at this; simp at this; omega), ← HKD.out, hmk, HL1.out, HMX.out, HKD.out, List.take_length])
            have HLN : Hid (n5 = (written dat m dd).length) := Lib.hid (by have := HO.out.len; rw [HWR.out] at this; exact this)
            have HRO : Hid (Rd wr wr.heap.size (some ⟨gb, 0, none⟩) (written dat m dd)) := Lib.hid (by have := HO.out.rd; rw [HWR.out] at this; exact this)
            have HGB : Hid (∀ x : Addr, (some ⟨gb, 0, none⟩ : Option Addr) = some x → x.block ≠ g) := Lib.hid fun x hx => by
              injection hx with hx
              subst hx
              have h1 := HN5.out gb rfl
              have h2 := R3.out.lt
              show gb ≠ g
              omega
            clear wr1 wr2 wr3 hlt
            go_upto_region 102 with fail
            obtain ⟨w6, hw6⟩ : ∃ w6, (wr.setCell ⟨g, a * 5 + 3, none⟩ (.slice (some ⟨gb, 0, none⟩) n5 c5)) = w6 := ⟨_, rfl⟩
            have k56 := keep1 wr g (a * 5 + 3) (.slice (some ⟨gb, 0, none⟩) n5 c5)
            rw [hw6] at k56
            have k36 : Keep (fun i => i = g) w3 w6 := Keep.trans (Keep.mono KW.out (fun _ _ h => h.elim) : Keep (fun i => i = g) w3 wr) k56 (fun _ _ h => h)
            have HS6 := Lib.hid (HS3.out.kept k36 (by have := HLE.out; omega) (by have := HLE.out; omega) (by have := HLE.out; omega))
            have K6 := Lib.hid (Keep.trans (Keep.mono K3.out (fun _ _ h => h.elim) : Keep (fun i => i = g) w w3) k36 (fun _ _ h => h))
            have HR6 : Hid (RefAt Zp w6 g (t.bytes a (written dat m dd))) := Lib.hid (by
              rw [← hw6]
              exact HRW.out.setData ha64 HLN.out HRO.out HGB.out (fun x hx => .inr (by injection hx with hx; subst hx; exact R3.out.new gb (HN5.out gb rfl))))
            rw [hw6]
            clear hw6 k56 k36 q0 q1 q2 q3 q4 q5 c1 c3 cw gw
            have FIN := Lib.hid (HS6.out.res.put (.int .i64 0) (.int .i64 0) (.int .i64 0) (.int .i64 0) (.slice none 0 0) (.slice none 0 0))
            obtain ⟨q0, q1, q2, q3, q4, q5⟩ := HS6.out.call.cells
            obtain ⟨r0, r1, r2, r3, r4, r5⟩ := HS6.out.res.cells
            obtain ⟨n0, n1, n2, n3, n4, n5⟩ := HS6.out.non.cells
            have z0 := HS6.out.res.free 0
            have z1 := HS6.out.res.free 1
            have z2 := HS6.out.res.free 2
            have z3 := HS6.out.res.free 3
            have z4 := HS6.out.res.free 4
            have z5 := HS6.out.res.free 5
            go_wp2_with fail
            obtain ⟨e1, e2⟩ := FIN.out
            obtain ⟨d0, d1, d2, d3, d4, d5⟩ := e1.cells
            clear FIN q0 q1 q2 q3 q4 q5 r0 r1 r2 r3 r4 r5 n0 n1 n2 n3 n4 n5 z0 z1 z2 z3 z4 z5
            refine bodyPost_ret (v := .tuple #[.agg zAns, .int .i64 0]) (by simp [results, Tryz.results27, go_sem, d0, d1, d2, d3, d4, d5, zAns]) rfl ?_
            have hle := HLE.out
            rw [HD0.out]
            exact ⟨rfl, Keep.trans K6.out e2 (fun i hi (h : i = b + 1) => by omega), HR6.out.keepFar HS6.out.res (by simp) (by simp) e2 (by omega)⟩
end Go.Proofs.YtlkiaghpdjbfeaaGreatDoor
