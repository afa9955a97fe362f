/-
  CallUnlike, walked.
-/
import Derived.Test.YtklpebfkgdklmaaDoorGreat5
import Derived.Deep.RegionHeld3
import Derived.Laws.Bits128
namespace Go.Proofs.YtklpebfkgdklmaaDoor
open Go.RowKit

theorem i64_and65535 (n : Int) : bits .and .i64 n 65535 = n % 65536 := by
  have h127 : (BitVec.ofInt 64 65535).toNat = 2 ^ 16 - 1 := by decide
  have key : (BitVec.ofInt 64 n &&& BitVec.ofInt 64 65535).toNat = (n % ((2 ^ 64 : Nat) : Int)).toNat % 2 ^ 16 := by
    rw [BitVec.toNat_and, BitVec.toNat_ofInt, h127, Nat.and_two_pow_sub_one_eq_mod]
  show IntKind.i64.wrap ((BitVec.ofInt 64 n &&& BitVec.ofInt 64 65535).toNat : Nat) = n % 65536
  rw [key, IntKind.wrap_i64]
  omega
theorem Own.head {E : TypeId} {w : World} {A : Option Addr} {n c : Nat} {l : List UInt8} (h : Own E w (.slice A n c) l) (hn : 0 < n) : ∃ g, A = some ⟨g, 0, none⟩ := by
  have e := h.len
  obtain ⟨g, cap, hv, _⟩ := World.ownsRow.form h (by omega)
  injection hv with hv
  exact ⟨g, hv⟩
/-- The ints of a call are Go's. -/
def IntsOk (x : TCall) : Prop := (-9223372036854775808 ≤ x.off ∧ x.off ≤ 9223372036854775807) ∧ (-9223372036854775808 ≤ x.n ∧ x.n ≤ 9223372036854775807)
set_option maxRecDepth 100000 in
set_option maxHeartbeats 4000000 in
theorem unlike_walk (x y : TCall) (A B : Option Addr) (da ca db cb : Nat) (z : Int) (t : UInt8) (w : World) (ht : Tab w) (he : Env w) (hx : IntsOk x) (hy : IntsOk y) (hda : da = x.data.length) (hdb : db = y.data.length) (r1 : Rd w w.heap.size A x.data) (r2 : Rd w w.heap.size B y.data) :
    Calls Tryd.prog 5 #[cval x A da ca, cval y B db cb, .int .i64 z, .int .u8 t.toNat] w fun e w' => e = .returned (.bool true) ∧ KF w w' := by
  obtain ⟨w1, hw1⟩ : ∃ w1, w.alloc (.cells #[.int .i64 x.kind, .string (ba x.path), .string (ba x.other), .int .i64 x.off, .int .i64 x.n, .slice A da ca] 24) = w1 := ⟨_, rfl⟩
  obtain ⟨w2, hw2⟩ : ∃ w2, w1.alloc (.cells #[.int .i64 y.kind, .string (ba y.path), .string (ba y.other), .int .i64 y.off, .int .i64 y.n, .slice B db cb] 24) = w2 := ⟨_, rfl⟩
  obtain ⟨g0, hg0⟩ : ∃ g0, w.heap.size = g0 := ⟨_, rfl⟩
  obtain ⟨g1, hg1⟩ : ∃ g1, w1.heap.size = g1 := ⟨_, rfl⟩
  have k01 : KF w w1 := by rw [← hw1]; exact (KF.refl _).alloc _
  have k12 : KF w1 w2 := by rw [← hw2]; exact (KF.refl _).alloc _
  have b1 : w1.heap[g0]? = some (.cells #[.int .i64 x.kind, .string (ba x.path), .string (ba x.other), .int .i64 x.off, .int .i64 x.n, .slice A da ca] 24) := by rw [← hw1, ← hg0]; exact heap_alloc_new w _
  have b2 : w2.heap[g1]? = some (.cells #[.int .i64 y.kind, .string (ba y.path), .string (ba y.other), .int .i64 y.off, .int .i64 y.n, .slice B db cb] 24) := by rw [← hw2, ← hg1]; exact heap_alloc_new w1 _
  have b12 := (k12.block g0 (lt_of_block b1) (fun h => h)).trans b1
  have k02 := KF.trans k01 k12
  have CELL := Lib.hid fun W (k : KF w2 W) => And.intro (six_cells ((k.block g0 (lt_of_block b12) (fun h => h)).trans b12)) (six_cells ((k.block g1 (lt_of_block b2) (fun h => h)).trans b2))
  have HSP := Lib.hid (speaks5 w2 (ht.kept k02 (fun h => h)) (he.kept k02))
  have HT := Lib.hid fun W (k : KF w2 W) => ht.kept (KF.trans k02 k) (fun h => h)
  have HR1 := Lib.hid fun W (k : KF w2 W) => (r1.keepF (KF.trans k02 k) (Nat.le_refl _)).more (KF.trans k02 k).size
  have HR2 := Lib.hid fun W (k : KF w2 W) => (r2.keepF (KF.trans k02 k) (Nat.le_refl _)).more (KF.trans k02 k).size
  have GA := Lib.hid fun W (k : KF w2 W) => great5 x A none none none da ca 0 0 0 0 0 0 0 0 0 0 [] W rfl Strs.nil
  have GB := Lib.hid fun W (k : KF w2 W) => great5 y B none none none db cb 0 0 0 0 0 0 0 0 0 0 [] W rfl Strs.nil
  have HW1 := Lib.hid hw1
  have HW2 := Lib.hid hw2
  have HG0 := Lib.hid hg0
  have HG1 := Lib.hid hg1
  have HDA := Lib.hid hda
  have HDB := Lib.hid hdb
  have hg1' : g1 = g0 + 1 := by rw [← hg1, ← hg0, ← hw1]; simp
  subst hg1'
  clear b1 b2 b12 k01 k12 hw1 hw2 hg0 hg1 hda hdb r1 r2
  have HTW := Lib.hid ht
  go_enter Tryd.func5, Tryd.ntmps5
  go_upto_region 1 with fail
  rw [HW1.out, HW2.out, HG0.out]
  clear HW1 HW2 HG0 HG1
  go_wp2_with fail
  refine HSP.out.mono ?_
  rintro e w3 ⟨rfl, k3⟩
  obtain ⟨⟨p0, p1, p2, p3, p4, p5⟩, q0, q1, q2, q3, q4, q5⟩ := CELL.out _ k3
  have G1 := Lib.hid (GA.out w3 k3)
  clear HSP GA
  go_wp2_with fail
  refine G1.out.mono ?_
  rintro e w4 ⟨v, rfl, k34, hv⟩
  have k4 := KF.trans k3 k34
  rcases v with _ | _
  rotate_left
  · go_wp2_with fail
    go_ret
    exact ⟨rfl, KF.trans k02 k4⟩
  have SA := hv rfl
  clear hv G1 p0 p1 p2 p3 p4 p5 q0 q1 q2 q3 q4 q5
  obtain ⟨⟨p0, p1, p2, p3, p4, p5⟩, q0, q1, q2, q3, q4, q5⟩ := CELL.out _ k4
  have G2 := Lib.hid (GB.out w4 k4)
  clear GB
  go_wp2_with fail
  refine G2.out.mono ?_
  rintro e w5 ⟨v, rfl, k45, hv⟩
  have k5 := KF.trans k4 k45
  rcases v with _ | _
  rotate_left
  · go_wp2_with fail
    go_ret
    exact ⟨rfl, KF.trans k02 k5⟩
  have SB := hv rfl
  clear hv G2 p0 p1 p2 p3 p4 p5 q0 q1 q2 q3 q4 q5
  obtain ⟨⟨p0, p1, p2, p3, p4, p5⟩, q0, q1, q2, q3, q4, q5⟩ := CELL.out _ k5
  by_cases hk1 : x.kind < 0
  · go_wp2_with fail
    go_ret
    exact ⟨rfl, KF.trans k02 k5⟩
  by_cases hk2 : 255 < x.kind
  · go_wp2_with fail
    go_ret
    exact ⟨rfl, KF.trans k02 k5⟩
  by_cases hk3 : y.kind < 0
  · go_wp2_with fail
    go_ret
    exact ⟨rfl, KF.trans k02 k5⟩
  by_cases hk4 : 255 < y.kind
  · go_wp2_with fail
    go_ret
    exact ⟨rfl, KF.trans k02 k5⟩
  have kw5 := KF.trans k02 k5
  have XO : CallOk x := ⟨⟨by omega, by omega⟩, hx.1, hx.2, by have := SA.out.path; omega, by have := SA.out.other; omega, by have := SA.out.data; have := HDA.out; omega⟩
  have YO : CallOk y := ⟨⟨by omega, by omega⟩, hy.1, hy.2, by have := SB.out.path; omega, by have := SB.out.other; omega, by have := SB.out.data; have := HDB.out; omega⟩
  have EA := Lib.hid fun W (k : KF w5 W) => encode_any x A da ca W (HT.out W (KF.trans k5 k)) (by have := SA.out.path; omega) (by have := SA.out.other; omega) (by have := SA.out.data; have := HDA.out; omega) HDA.out (HR1.out W (KF.trans k5 k))
  have EB := Lib.hid fun W (k : KF w5 W) => encode_any y B db cb W (HT.out W (KF.trans k5 k)) (by have := SB.out.path; omega) (by have := SB.out.other; omega) (by have := SB.out.data; have := HDB.out; omega) HDB.out (HR2.out W (KF.trans k5 k))
  have CEL5 := Lib.hid fun W (k : KF w5 W) => CELL.out W (KF.trans k5 k)
  have HSAME := Lib.hid (same_bytes XO YO)
  have HLX := Lib.hid (wrapB_length (encC x))
  have HLY := Lib.hid (wrapB_length (encC y))
  have hlx : (encC x).length ≤ 7000 := by rw [encC_length]; have := SA.out.path; have := SA.out.other; have := SA.out.data; have := HDA.out; omega
  have hly : (encC y).length ≤ 7000 := by rw [encC_length]; have := SB.out.path; have := SB.out.other; have := SB.out.data; have := HDB.out; omega
  have HTU := Lib.hid (wrapB_turned (encC x))
  have HT5 := Lib.hid fun W (k : KF w5 W) => HT.out W (KF.trans k5 k)
  have HR15 := Lib.hid fun W (k : KF w5 W) => HR1.out W (KF.trans k5 k)
  have HR25 := Lib.hid fun W (k : KF w5 W) => HR2.out W (KF.trans k5 k)
  have hda5 : da ≤ 5000 := SA.out.data
  have hdb5 : db ≤ 5000 := SB.out.data
  clear HT HR1 HR2 CELL SA SB k02 k3 k34 k4 k45 k5 XO YO he ht hx hy
  generalize wrapB (encC x) = X at *
  generalize wrapB (encC y) = Y at *
  generalize (encC x).length = lx at *
  generalize (encC y).length = ly at *
  go_upto_region 5 with fail
  go_cut [9, 10] (fun s t' wx => ∃ A9 c9 A10 c10, s = .slice A9 (lx + 4) c9 ∧ t' = .slice A10 (ly + 4) c10 ∧ Own 5 wx (.slice A9 (lx + 4) c9) X ∧ Own 5 wx (.slice A10 (ly + 4) c10) Y ∧ NB w5 (.slice A9 (lx + 4) c9) ∧ KF w5 wx)
  case first =>
    clear p0 p1 p2 p3 p4 p5 q0 q1 q2 q3 q4 q5
    go_region_held3 (fun W => (W.cell? ⟨g0, 0, none⟩ = some (.int .i64 x.kind) ∧ W.cell? ⟨g0, 1, none⟩ = some (.string (ba x.path)) ∧ W.cell? ⟨g0, 2, none⟩ = some (.string (ba x.other)) ∧ W.cell? ⟨g0, 3, none⟩ = some (.int .i64 x.off) ∧ W.cell? ⟨g0, 4, none⟩ = some (.int .i64 x.n) ∧ W.cell? ⟨g0, 5, none⟩ = some (.slice A da ca)) ∧
        W.cell? ⟨g0 + 1, 0, none⟩ = some (.int .i64 y.kind) ∧ W.cell? ⟨g0 + 1, 1, none⟩ = some (.string (ba y.path)) ∧ W.cell? ⟨g0 + 1, 2, none⟩ = some (.string (ba y.other)) ∧ W.cell? ⟨g0 + 1, 3, none⟩ = some (.int .i64 y.off) ∧ W.cell? ⟨g0 + 1, 4, none⟩ = some (.int .i64 y.n) ∧ W.cell? ⟨g0 + 1, 5, none⟩ = some (.slice B db cb))
      (first | exact CEL5.out _ (KF.refl _) | exact CEL5.out _ (KF.refl _).drew | exact CEL5.out _ (by assumption))
      (first
        | (go_at_call_of 9 (Value.agg #[.int .i64 x.kind, .string (ba x.path), .string (ba x.other), .int .i64 x.off, .int .i64 x.n, .slice A da ca]); refine (EA.out _ ?_).mono ?_; (first | exact (KF.refl _).drew | assumption); rintro e wA ⟨A9, c9, rfl, oA, nA, kA⟩; have kA5 : KF w5 wA := KF.trans (by first | exact (KF.refl _).drew | assumption) kA; have nA5 : NB w5 (.slice A9 (lx + 4) c9) := nA.older (Keep.size (by first | exact (KF.refl _).drew | assumption)))
        | (go_at_call_of 9 (Value.agg #[.int .i64 y.kind, .string (ba y.path), .string (ba y.other), .int .i64 y.off, .int .i64 y.n, .slice B db cb]); refine (EB.out _ ?_).mono ?_; (first | exact (KF.refl _).drew | assumption); rintro e wB ⟨A10, c10, rfl, oB, nB, kB⟩; have kB5 : KF w5 wB := KF.trans (by first | exact (KF.refl _).drew | assumption) kB))
    all_goals (go_wp2_with fail)
    all_goals go_meet
    all_goals (first | exact ⟨A9, c9, A10, c10, rfl, rfl, oA.kept kB (fun _ _ h => h), oB, nA5, kB5⟩ | exact ⟨A9, c9, A10, c10, rfl, rfl, oA, oB.kept kA (fun _ _ h => h), nA5, kA5⟩)
  case rest =>
    obtain ⟨A9, c9, A10, c10, rfl, rfl, oX, oY, nX, kc⟩ := hcut
    obtain ⟨N, hN⟩ : ∃ N, lx + 4 = N := ⟨_, rfl⟩
    rw [hN] at oX nX HLX ⊢
    have HN := Lib.hid hN
    have hN7 : N ≤ 7004 := by omega
    have hN2 : 0 < N := by omega
    clear hN
    have SM := Lib.hid fun W (k : KF wc W) => same_any A9 A10 X Y N (ly + 4) c9 c10 W HLX.out.symm HLY.out.symm (by omega) wc.heap.size wc.heap.size (oX.rd.keepF k (Nat.le_refl _)) (oY.rd.keepF k (Nat.le_refl _))
    rw [HSAME.out] at SM
    have SC := Lib.hid fun W (k : KF wc W) => sameCall_any x y A B ca cb W (by rw [← HDA.out]; omega) (by rw [← HDB.out]; omega) (HR15.out W (KF.trans kc k)) (HR25.out W (KF.trans kc k))
    rw [← HDA.out, ← HDB.out] at SC
    have CELC := Lib.hid fun W (k : KF wc W) => CEL5.out W (KF.trans kc k)
    have HTC := Lib.hid fun W (k : KF wc W) => HT5.out W (KF.trans kc k)
    have kwc := KF.trans kw5 kc
    have zl : ((N : Int) == 0) = false := beq_eq_false_iff_ne.2 (by omega)
    obtain ⟨g, rfl⟩ := oX.head hN2
    have hgw : w5.heap.size ≤ g := nX g rfl
    clear EA EB CEL5 HR15 HR25 HT5 p0 p1 p2 p3 p4 p5 q0 q1 q2 q3 q4 q5 oY nX
    generalize sameC x y = sv at *
    go_upto_region 6 with fail
    go_cut [58] (fun s wx => s = .bool false ∧ KF wc wx)
    case first =>
      go_region_held3 (fun W => (W.cell? ⟨g0, 0, none⟩ = some (.int .i64 x.kind) ∧ W.cell? ⟨g0, 1, none⟩ = some (.string (ba x.path)) ∧ W.cell? ⟨g0, 2, none⟩ = some (.string (ba x.other)) ∧ W.cell? ⟨g0, 3, none⟩ = some (.int .i64 x.off) ∧ W.cell? ⟨g0, 4, none⟩ = some (.int .i64 x.n) ∧ W.cell? ⟨g0, 5, none⟩ = some (.slice A da ca)) ∧
          W.cell? ⟨g0 + 1, 0, none⟩ = some (.int .i64 y.kind) ∧ W.cell? ⟨g0 + 1, 1, none⟩ = some (.string (ba y.path)) ∧ W.cell? ⟨g0 + 1, 2, none⟩ = some (.string (ba y.other)) ∧ W.cell? ⟨g0 + 1, 3, none⟩ = some (.int .i64 y.off) ∧ W.cell? ⟨g0 + 1, 4, none⟩ = some (.int .i64 y.n) ∧ W.cell? ⟨g0 + 1, 5, none⟩ = some (.slice B db cb))
        (first | exact CELC.out _ (KF.refl _) | exact CELC.out _ (KF.refl _).drew | exact CELC.out _ (by assumption))
        (first
          | (go_at_call 11; refine (SM.out _ ?_).mono ?_; (first | exact (KF.refl _).drew | assumption); rintro e wA ⟨rfl, nq, hA⟩; have kA5 : KF wc wA := hA ▸ (Keep.drewN (by first | exact (KF.refl _).drew | assumption) nq))
          | (go_at_call 17; refine (SC.out _ ?_).mono ?_; (first | exact (KF.refl _).drew | assumption); rintro e wB ⟨rfl, kB⟩; have kB5 : KF wc wB := KF.trans (by first | exact (KF.refl _).drew | assumption) kB))
      all_goals (go_wp2_with fail)
      all_goals go_meet
      all_goals (first | exact ⟨rfl, kB5⟩ | exact ⟨rfl, kA5⟩)
    case rest =>
      obtain ⟨rfl, kd⟩ := hcut
      have oX' := oX.kept kd (fun _ _ h => h)
      obtain ⟨m, hm⟩ : ∃ m : Nat, z % 65536 = (m : Int) := ⟨(z % 65536).toNat, by omega⟩
      have hand := i64_and65535 z
      rw [hm] at hand
      have hi : m % N < N := Nat.mod_lt _ hN2
      have hiL : m % N < X.length := by rw [HLX.out]; exact hi
      have hcell := oX'.cellAt (m % N) hiL
      have hfr := oX'.frozenAt (m % N)
      have hxor := u8_xor_nat X[m % N].toNat t.toNat X[m % N].toNat_lt t.toNat_lt
      rw [← toNat_xor] at hxor
      have o5 := oX'.store (m % N) (X[m % N] ^^^ t)
      have HT := Lib.hid (HTU.out (m % N) t hiL)
      generalize X[m % N] = b0 at *
      generalize b0 ^^^ t = b1 at *
      have kwd := KF.trans kwc kd
      have hgw2 : w.heap.size ≤ g := Nat.le_trans kw5.size hgw
      have k5 : KF w (wc.setCell ⟨g, m % N, none⟩ (.int .u8 b1.toNat)) := kwd.setCell (p := ⟨g, m % N, none⟩) (.inl hgw2) (.int .u8 b1.toNat)
      have hlen : N = (X.set (m % N) b1).length := by rw [List.length_set]; exact HLX.out.symm
      generalize X.set (m % N) b1 = L5 at *
      have hdec : t ≠ 0 → decC L5 = none := fun h0 => by
        unfold decC
        have e4 : L5.length - 4 = lx := by rw [← hlen, ← HN.out]; omega
        rw [e4, if_pos (.inr (fun h => h0 (HT.out.1 h)))]
      have hsh := o5.shape
      have hTab := HTC.out wc kd
      have hT0 : Hid (Tab wc) := Lib.hid hTab
      have hT5 : Tab (wc.setCell ⟨g, m % N, none⟩ (.int .u8 b1.toNat)) := by
        have kk : Keep (fun q => q = g) wc (wc.setCell ⟨g, m % N, none⟩ (.int .u8 b1.toNat)) := (Keep.refl (fun q => q = g) wc).setCell (p := ⟨g, m % N, none⟩) (.inr rfl) _
        exact hTab.kept kk (fun h => by have := HTW.out.lt; have h2 : 0 = g := h; omega)
      have CD : Hid (Calls Tryd.prog 16 #[.slice (some ⟨g, 0, none⟩) N c9] (wc.setCell ⟨g, m % N, none⟩ (.int .u8 b1.toNat)) (Decs L5 (wc.setCell ⟨g, m % N, none⟩ (.int .u8 b1.toNat)))) := by
        obtain ⟨A', c', e, h1, h2, h3, _⟩ := hsh
        injection e with e1 e2 e3
        subst e1 e3
        exact Lib.hid (decode_any _ L5 N c9 _ hlen (by omega) h2 (by omega) hT5 h3)
      have HDEC := Lib.hid hdec
      clear hm oX oX' hsh hT5 hTab hT0 HTC hdec hlen o5 CELC SC SM HT HTU
      go_wp2_with fail
      refine CD.out.mono ?_
      rintro e w6 ⟨k6, ⟨x', A3, c3, hx', rfl, r3⟩ | ⟨hx', rfl⟩⟩
      · have ht0 : ((t.toNat : Int) == 0) = true := by
          by_cases h0 : t = 0
          · rw [h0]; rfl
          · rw [HDEC.out h0] at hx'
            cases hx'
        clear hx' r3 CD
        go_wp2_with fail
        go_ret
        exact ⟨rfl, Keep.alloc (KF.trans k5 k6) _⟩
      · clear hx' CD
        by_cases h0 : t = 0
        · have ht0 : ((t.toNat : Int) == 0) = true := by rw [h0]; rfl
          go_wp2_with fail
          go_ret
          exact ⟨rfl, Keep.alloc (KF.trans k5 k6) _⟩
        · have ht0 : ((t.toNat : Int) == 0) = false := by
            rw [beq_eq_false_iff_ne]
            intro h
            exact h0 (UInt8.toNat_inj.1 (by simpa using h))
          go_wp2_with fail
          go_ret
          exact ⟨rfl, Keep.alloc (KF.trans k5 k6) _⟩
end Go.Proofs.YtklpebfkgdklmaaDoor
