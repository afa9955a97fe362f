/-
  EntryTurned, walked.
-/
import Derived.Test.YtklpebfkgdklmabDoorSpeak7
import Derived.Test.YtklpebfkgdklmabDoorEntRef
import Derived.Deep.RegionHeld3
import Derived.Laws.Bits128
namespace Go.Proofs.YtklpebfkgdklmabDoor
open Go.RowKit

theorem i64_and65535 (n : Int) : bits .and .i64 n 65535 = n % 65536 := by
  have h127 : (BitVec.ofInt 64 65535).toNat = 2 ^ 16 - 1 := by decide
  have key : (BitVec.ofInt 64 n &&& BitVec.ofInt 64 65535).toNat = (n % ((2 ^ 64 : Nat) : Int)).toNat % 2 ^ 16 := by
    rw [BitVec.toNat_and, BitVec.toNat_ofInt, h127, Nat.and_two_pow_sub_one_eq_mod]
  show IntKind.i64.wrap ((BitVec.ofInt 64 n &&& BitVec.ofInt 64 65535).toNat : Nat) = n % 65536
  rw [key, IntKind.wrap_i64]
  omega
theorem Own.head {E : TypeId} {w : World} {A : Option Addr} {n c : Nat} {l : List UInt8} (h : Own E w (.slice A n c) l) (hn : 0 < n) : ∃ g, A = some ⟨g, 0, none⟩ := by
  have e := h.len
  obtain ⟨g, cap, hv, _⟩ := World.ownsRow.form h (by omega)
  injection hv with hv
  exact ⟨g, hv⟩
theorem eencode_right (x : TLog) (A : Option Addr) (d c : Nat) (w : World) (hx : rightB x = true) (ht : Tab w) (hd : x.pay.length ≤ 1000000) (hdl : d = x.pay.length) (hr : Rd w w.heap.size A x.pay) :
    Calls Tryd.prog 7 #[.agg (ecells x A d c)] w fun e w' => ∃ A' c', e = .returned (.tuple #[.slice A' ((encE x).length + 4) c', .int .i64 0]) ∧ Own 5 w' (.slice A' ((encE x).length + 4) c') (wrapB (encE x)) ∧ NB w (.slice A' ((encE x).length + 4) c') ∧ KF w w' := by
  refine (eencode_any x A d c w ht hd hdl hr).mono ?_
  rintro e w' ⟨k, ⟨_, A', c', rfl, ho, hn⟩ | ⟨h, _⟩⟩
  · exact ⟨A', c', rfl, ho, hn, k⟩
  · rw [hx] at h; cases h
set_option maxRecDepth 100000 in
set_option maxHeartbeats 4000000 in
theorem turned_walk (x y : TLog) (A B : Option Addr) (da ca db cb : Nat) (z : Int) (t : UInt8) (w : World) (ht : Tab w) (hda : da = x.pay.length) (hdb : db = y.pay.length) (r1 : Rd w w.heap.size A x.pay) (r2 : Rd w w.heap.size B y.pay) :
    Calls Tryd.prog 3 #[.agg (ecells x A da ca), .agg (ecells y B db cb), .int .i64 z, .int .u8 t.toNat] w fun e w' => e = .returned (.bool true) ∧ KF w w' := by
  obtain ⟨w1, hw1⟩ : ∃ w1, w.alloc (.cells (ecells x A da ca) 26) = w1 := ⟨_, rfl⟩
  obtain ⟨w2, hw2⟩ : ∃ w2, w1.alloc (.cells (ecells y B db cb) 26) = w2 := ⟨_, rfl⟩
  obtain ⟨g0, hg0⟩ : ∃ g0, w.heap.size = g0 := ⟨_, rfl⟩
  obtain ⟨g1, hg1⟩ : ∃ g1, w1.heap.size = g1 := ⟨_, rfl⟩
  have k01 : KF w w1 := by rw [← hw1]; exact (KF.refl _).alloc _
  have k12 : KF w1 w2 := by rw [← hw2]; exact (KF.refl _).alloc _
  have P0 : Lg w1 g0 (.int .i64 x.kind) (.int .i64 x.client) (.int .i64 x.birth) (.int .i64 x.number) (.int .i64 x.stream) (.int .i64 x.back) (.slice A da ca) := ⟨by rw [← hw1, ← hg0]; exact heap_alloc_new w _⟩
  have P1 : Lg w2 g1 (.int .i64 y.kind) (.int .i64 y.client) (.int .i64 y.birth) (.int .i64 y.number) (.int .i64 y.stream) (.int .i64 y.back) (.slice B db cb) := ⟨by rw [← hw2, ← hg1]; exact heap_alloc_new w1 _⟩
  have P02 := P0.kept k12 (fun h => h)
  have k02 := KF.trans k01 k12
  have CELL := Lib.hid fun W (k : KF w2 W) => And.intro (P02.kept k (fun h => h)).cells (P1.kept k (fun h => h)).cells
  have HSP := Lib.hid (speaks7 w2 (ht.kept k02 (fun h => h)))
  have HT := Lib.hid fun W (k : KF w2 W) => ht.kept (KF.trans k02 k) (fun h => h)
  have HR1 := Lib.hid fun W (k : KF w2 W) => (r1.keepF (KF.trans k02 k) (Nat.le_refl _)).more (KF.trans k02 k).size
  have HR2 := Lib.hid fun W (k : KF w2 W) => (r2.keepF (KF.trans k02 k) (Nat.le_refl _)).more (KF.trans k02 k).size
  have HW1 := Lib.hid hw1
  have HW2 := Lib.hid hw2
  have HG0 := Lib.hid hg0
  have HDA := Lib.hid hda
  have HDB := Lib.hid hdb
  have hg1' : g1 = g0 + 1 := by rw [← hg1, ← hg0, ← hw1]; simp
  subst hg1'
  clear P0 P1 P02 k01 k12 hw1 hw2 hg0 hg1 hda hdb r1 r2
  have HTW := Lib.hid ht
  clear ht
  go_enter Tryd.func3, Tryd.ntmps3
  go_upto_region 1 with fail
  rw [HW1.out, HW2.out, HG0.out]
  clear HW1 HW2 HG0
  go_wp2_with fail
  refine HSP.out.mono ?_
  rintro e w3 ⟨rfl, k3⟩
  obtain ⟨⟨p0, p1, p2, p3, p4, p5, p6⟩, q0, q1, q2, q3, q4, q5, q6⟩ := CELL.out _ k3
  clear HSP
  by_cases hl1 : (3000 : Int) < (da : Int)
  · go_wp2_with fail
    go_ret
    exact ⟨rfl, KF.trans k02 k3⟩
  by_cases hl2 : (3000 : Int) < (db : Int)
  · go_wp2_with fail
    go_ret
    exact ⟨rfl, KF.trans k02 k3⟩
  have R1 := Lib.hid (rright_any x A da ca w3 (by have := HDA.out; omega) HDA.out (HR1.out w3 k3))
  have R2 := Lib.hid fun W (k : KF w3 W) => rright_any y B db cb W (by have := HDB.out; omega) HDB.out (HR2.out W (KF.trans k3 k))
  have HX : Hid (rightB x = rightB x) := Lib.hid rfl
  obtain ⟨rx, hrx⟩ : ∃ rx, rightB x = rx := ⟨_, rfl⟩
  obtain ⟨ry, hry⟩ : ∃ ry, rightB y = ry := ⟨_, rfl⟩
  rw [hrx] at R1
  rw [hry] at R2
  have HRX := Lib.hid hrx
  have HRY := Lib.hid hry
  clear hrx hry HX
  go_wp2_with fail
  refine R1.out.mono ?_
  rintro e w4 ⟨rfl, k34⟩
  have k4 := KF.trans k3 k34
  rcases rx with _ | _
  · clear p0 p1 p2 p3 p4 p5 p6 q0 q1 q2 q3 q4 q5 q6
    obtain ⟨⟨p0, p1, p2, p3, p4, p5, p6⟩, q0, q1, q2, q3, q4, q5, q6⟩ := CELL.out _ k4
    go_wp2_with fail
    go_ret
    exact ⟨rfl, KF.trans k02 k4⟩
  clear p0 p1 p2 p3 p4 p5 p6 q0 q1 q2 q3 q4 q5 q6 R1
  obtain ⟨⟨p0, p1, p2, p3, p4, p5, p6⟩, q0, q1, q2, q3, q4, q5, q6⟩ := CELL.out _ k4
  have R3 := Lib.hid (R2.out w4 k34)
  clear R2
  go_wp2_with fail
  refine R3.out.mono ?_
  rintro e w5 ⟨rfl, k45⟩
  have k5 := KF.trans k4 k45
  rcases ry with _ | _
  · go_wp2_with fail
    go_ret
    exact ⟨rfl, KF.trans k02 k5⟩
  clear p0 p1 p2 p3 p4 p5 p6 q0 q1 q2 q3 q4 q5 q6 R3
  obtain ⟨⟨p0, p1, p2, p3, p4, p5, p6⟩, q0, q1, q2, q3, q4, q5, q6⟩ := CELL.out _ k5
  have kw5 := KF.trans k02 k5
  have EA := Lib.hid (eencode_right x A da ca w5 HRX.out (HT.out w5 k5) (by have := HDA.out; omega) HDA.out (HR1.out w5 k5))
  have EB := Lib.hid fun W (k : KF w5 W) => eencode_right y B db cb W HRY.out (HT.out W (KF.trans k5 k)) (by have := HDB.out; omega) HDB.out (HR2.out W (KF.trans k5 k))
  have HSAME := Lib.hid (wrapE_same HRX.out HRY.out)
  have HLX := Lib.hid (wrapB_length (encE x))
  have HLY := Lib.hid (wrapB_length (encE y))
  have hlx : (encE x).length ≤ 7000 := by rw [encE_length]; have := HDA.out; omega
  have hly : (encE y).length ≤ 7000 := by rw [encE_length]; have := HDB.out; omega
  have HTU := Lib.hid (decE_turned x)
  have SE := Lib.hid fun W (k : KF w5 W) => esame_any x y A B da ca db cb W HDA.out HDB.out (by omega) (HR1.out W (KF.trans k5 k)) (HR2.out W (KF.trans k5 k))
  have CEL5 := Lib.hid fun W (k : KF w5 W) => CELL.out W (KF.trans k5 k)
  have HT5 := Lib.hid fun W (k : KF w5 W) => HT.out W (KF.trans k5 k)
  clear HT HR1 HR2 CELL k02 k3 k34 k4 k45 k5 HRX HRY
  generalize wrapB (encE x) = X at *
  generalize wrapB (encE y) = Y at *
  generalize (encE x).length = lx at *
  generalize (encE y).length = ly at *
  generalize sameE x y = sv at *
  go_wp2_with fail
  refine EA.out.mono ?_
  rintro e w6 ⟨A9, c9, rfl, oX, nX, k6⟩
  clear p0 p1 p2 p3 p4 p5 p6 q0 q1 q2 q3 q4 q5 q6 EA
  obtain ⟨⟨p0, p1, p2, p3, p4, p5, p6⟩, q0, q1, q2, q3, q4, q5, q6⟩ := CEL5.out _ k6
  have EB6 := Lib.hid (EB.out w6 k6)
  clear EB
  go_wp2_with fail
  refine EB6.out.mono ?_
  rintro e w7 ⟨A10, c10, rfl, oY, nY, k67⟩
  have k7 := KF.trans k6 k67
  have oX7 := oX.kept k67 (fun _ _ h => h)
  clear p0 p1 p2 p3 p4 p5 p6 q0 q1 q2 q3 q4 q5 q6 EB6 oX k67
  obtain ⟨N, hN⟩ : ∃ N, lx + 4 = N := ⟨_, rfl⟩
  rw [hN] at oX7 nX HLX ⊢
  have HN := Lib.hid hN
  have hN7 : N ≤ 7004 := by omega
  have hN2 : 0 < N := by omega
  clear hN
  have SM := Lib.hid fun W (k : KF w7 W) => same_any A9 A10 X Y N (ly + 4) c9 c10 W HLX.out.symm HLY.out.symm (by omega) w7.heap.size w7.heap.size (oX7.rd.keepF k (Nat.le_refl _)) (oY.rd.keepF k (Nat.le_refl _))
  rw [HSAME.out] at SM
  have SC := Lib.hid fun W (k : KF w7 W) => SE.out W (KF.trans k7 k)
  have CELC := Lib.hid fun W (k : KF w7 W) => CEL5.out W (KF.trans k7 k)
  have HTC := Lib.hid fun W (k : KF w7 W) => HT5.out W (KF.trans k7 k)
  have kwc := KF.trans kw5 k7
  have zl : ((N : Int) == 0) = false := beq_eq_false_iff_ne.2 (by omega)
  obtain ⟨g, rfl⟩ := oX7.head hN2
  have hgw : w5.heap.size ≤ g := nX g rfl
  clear CEL5 HT5 oY nX nY SE HSAME
  go_upto_region 7 with fail
  go_cut [61] (fun s wx => s = .bool false ∧ KF w7 wx)
  case first =>
    go_region_held3 (fun W => (W.cell? ⟨g0, 0, none⟩ = some (.int .i64 x.kind) ∧ W.cell? ⟨g0, 1, none⟩ = some (.int .i64 x.client) ∧ W.cell? ⟨g0, 2, none⟩ = some (.int .i64 x.birth) ∧ W.cell? ⟨g0, 3, none⟩ = some (.int .i64 x.number) ∧ W.cell? ⟨g0, 4, none⟩ = some (.int .i64 x.stream) ∧ W.cell? ⟨g0, 5, none⟩ = some (.int .i64 x.back) ∧ W.cell? ⟨g0, 6, none⟩ = some (.slice A da ca)) ∧ (W.cell? ⟨g0 + 1, 0, none⟩ = some (.int .i64 y.kind) ∧ W.cell? ⟨g0 + 1, 1, none⟩ = some (.int .i64 y.client) ∧ W.cell? ⟨g0 + 1, 2, none⟩ = some (.int .i64 y.birth) ∧ W.cell? ⟨g0 + 1, 3, none⟩ = some (.int .i64 y.number) ∧ W.cell? ⟨g0 + 1, 4, none⟩ = some (.int .i64 y.stream) ∧ W.cell? ⟨g0 + 1, 5, none⟩ = some (.int .i64 y.back) ∧ W.cell? ⟨g0 + 1, 6, none⟩ = some (.slice B db cb)))
      (first | exact CELC.out _ (KF.refl _) | exact CELC.out _ (KF.refl _).drew | exact CELC.out _ (by assumption))
      (first
        | (go_at_call 8; refine (SM.out _ ?_).mono ?_; (first | exact (KF.refl _).drew | assumption); rintro e wA ⟨rfl, nq, hA⟩; have kA5 : KF w7 wA := hA ▸ (Keep.drewN (by first | exact (KF.refl _).drew | assumption) nq))
        | (go_at_call 9; refine (SC.out _ ?_).mono ?_; (first | exact (KF.refl _).drew | assumption); rintro e wB ⟨rfl, kB⟩; have kB5 : KF w7 wB := KF.trans (by first | exact (KF.refl _).drew | assumption) kB))
    all_goals (go_wp2_with fail)
    all_goals go_meet
    all_goals (first | exact ⟨rfl, kB5⟩ | exact ⟨rfl, kA5⟩)
  case rest =>
    obtain ⟨rfl, kd⟩ := hcut
    have oX' := oX7.kept kd (fun _ _ h => h)
    obtain ⟨m, hm⟩ : ∃ m : Nat, z % 65536 = (m : Int) := ⟨(z % 65536).toNat, by omega⟩
    have hand := i64_and65535 z
    rw [hm] at hand
    have hi : m % N < N := Nat.mod_lt _ hN2
    have hiL : m % N < X.length := by rw [HLX.out]; exact hi
    have hcell := oX'.cellAt (m % N) hiL
    have hfr := oX'.frozenAt (m % N)
    have hxor := u8_xor_nat X[m % N].toNat t.toNat X[m % N].toNat_lt t.toNat_lt
    rw [← toNat_xor] at hxor
    have o5 := oX'.store (m % N) (X[m % N] ^^^ t)
    have HT := Lib.hid (HTU.out (m % N) t hiL)
    generalize X[m % N] = b0 at *
    generalize b0 ^^^ t = b1 at *
    have kwd := KF.trans kwc kd
    have hgw2 : w.heap.size ≤ g := Nat.le_trans kw5.size hgw
    have k5 : KF w (wc.setCell ⟨g, m % N, none⟩ (.int .u8 b1.toNat)) := kwd.setCell (p := ⟨g, m % N, none⟩) (.inl hgw2) (.int .u8 b1.toNat)
    have hlen : N = (X.set (m % N) b1).length := by rw [List.length_set]; exact HLX.out.symm
    generalize X.set (m % N) b1 = L5 at *
    have hsh := o5.shape
    have hTab := HTC.out wc kd
    have hT5 : Tab (wc.setCell ⟨g, m % N, none⟩ (.int .u8 b1.toNat)) := by
      have kk : Keep (fun q => q = g) wc (wc.setCell ⟨g, m % N, none⟩ (.int .u8 b1.toNat)) := (Keep.refl (fun q => q = g) wc).setCell (p := ⟨g, m % N, none⟩) (.inr rfl) _
      exact hTab.kept kk (fun h => by have := HTW.out.lt; have h2 : 0 = g := h; omega)
    have CD : Hid (Calls Tryd.prog 10 #[.slice (some ⟨g, 0, none⟩) N c9] (wc.setCell ⟨g, m % N, none⟩ (.int .u8 b1.toNat)) (DecsR L5 (wc.setCell ⟨g, m % N, none⟩ (.int .u8 b1.toNat)))) := by
      obtain ⟨A', c', e, h1, h2, h3, _⟩ := hsh
      injection e with e1 e2 e3
      subst e1 e3
      exact Lib.hid (edecode_any _ L5 N c9 _ hlen (by omega) h2 (by omega) hT5 h3)
    have HDEC := HT
    clear hm oX7 oX' hsh hT5 hTab HTC hlen o5 CELC SC SM HTU
    go_wp2_with fail
    refine CD.out.mono ?_
    rintro e w8 ⟨k8, ⟨x', A3, c3, hx', rfl, r3⟩ | ⟨hx', rfl⟩⟩
    · have ht0 : ((t.toNat : Int) == 0) = true := by
        by_cases h0 : t = 0
        · rw [h0]; rfl
        · rw [HDEC.out h0] at hx'
          cases hx'
      clear hx' r3 CD
      go_wp2_with fail
      go_ret
      exact ⟨rfl, Keep.alloc (KF.trans k5 k8) _⟩
    · clear hx' CD
      by_cases h0 : t = 0
      · have ht0 : ((t.toNat : Int) == 0) = true := by rw [h0]; rfl
        go_wp2_with fail
        go_ret
        exact ⟨rfl, Keep.alloc (KF.trans k5 k8) _⟩
      · have ht0 : ((t.toNat : Int) == 0) = false := by
          rw [beq_eq_false_iff_ne]
          intro h
          exact h0 (UInt8.toNat_inj.1 (by simpa using h))
        obtain ⟨w9, hw9⟩ : ∃ w9, w8.alloc (.cells zlog 26) = w9 := ⟨_, rfl⟩
        obtain ⟨g9, hg9⟩ : ∃ g9, w8.heap.size = g9 := ⟨_, rfl⟩
        have P9 : Lg w9 g9 (.int .i64 0) (.int .i64 0) (.int .i64 0) (.int .i64 0) (.int .i64 0) (.int .i64 0) (.slice none 0 0) := ⟨by rw [← hw9, ← hg9]; exact heap_alloc_new w8 _⟩
        have k89 : KF w8 w9 := by rw [← hw9]; exact (KF.refl _).alloc _
        obtain ⟨p0, p1, p2, p3, p4, p5, p6⟩ := P9.cells
        have SZ : Hid (Calls Tryd.prog 9 #[.agg zlog, .agg zlog] w9 fun e w' => e = .returned (.bool true) ∧ KF w9 w') := Lib.hid (esame_any eZero eZero none none 0 0 0 0 w9 rfl rfl (by omega) Rd.nil Rd.nil)
        have HW9 := Lib.hid hw9
        have HG9 := Lib.hid hg9
        clear hw9 hg9 h0 P9
        go_upto_region 11 with fail
        rw [HW9.out, HG9.out]
        go_wp2_with fail
        refine SZ.out.mono ?_
        rintro e w10 ⟨rfl, k10⟩
        go_wp2_with fail
        go_ret
        exact ⟨rfl, KF.trans (KF.trans (KF.trans k5 k8) k89) k10⟩
end Go.Proofs.YtklpebfkgdklmabDoor
