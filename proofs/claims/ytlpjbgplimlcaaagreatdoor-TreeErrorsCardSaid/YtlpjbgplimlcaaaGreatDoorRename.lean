/-
  The program's rename.
-/
import Derived.Test.YtlpjbgplimlcaaaGreatDoorUnlink
namespace Go.Proofs.YtlpjbgplimlcaaaGreatDoor
open Go.RowKit Go.Maps

theorem doRename_err' {t : Tr} {s o : Txt} {k : Nat} (h : findUp t s = .error k) : doRename t s o = (errA k, t) := by unfold doRename; rw [h]
theorem doRename_ok {t : Tr} {s o : Txt} {a p : Nat} {x : Txt} (h : findUp t s = .ok (a, p, x)) : doRename t s o = if o = s then (okA, t) else if insideM o s = true then (errA 26, t) else match place t o with
    | .error e => (errA e, t) | .ok (d, y) => (okA, moved t a p x d y) := by
  unfold doRename
  rw [h]
  simp only
  split
  · rfl
  · split
    · rfl
    · rcases place t o with e | ⟨d, y⟩ <;> rfl

set_option maxRecDepth 100000 in
set_option maxHeartbeats 4000000 in
theorem rename_any (kind off n : Int) (s o : ByteArray) (dv : Value) (w : World) (L : Lay) (N : Nat) (t : Tr) (hT : TreeAt w L N t) (g : Good t) (hs : s.size ≤ 1000000) (ho : o.size ≤ 1000000) (he : Env w) (hN : N ≤ 1000000) :
    Calls Tryz.prog 42 #[.pointer (some ⟨L.tb, 0, none⟩), .agg (callC kind off n s o dv)] w (Changed L N t (doRename t s.data.toList o.data.toList) w) := by
  have kA : ∀ X, KF w (w.alloc X) := fun X => (KF.refl w).alloc X
  have HC := Lib.hid fun X => findEntry_any s (w.alloc X) L N t (hT.far (kA X)) g hs (he.kept (kA X))
  have HP := Lib.hid fun w1 (k1 : KF w w1) => findPlace_any o w1 L N t (hT.far k1) g ho (he.kept k1)
  have HI := Lib.hid fun w1 (k1 : KF w w1) => inside_any o s w1 ho hs (he.kept k1)
  have HT := Lib.hid hT
  have HG := Lib.hid g
  clear hT g
  go_enter Tryz.func42, Tryz.ntmps42
  go_wp2_with fail
  refine (HC.out _).mono ?_
  rintro e w1 ⟨k1, ⟨k, hk, hk0, rfl⟩ | ⟨a, d, x, hd, hd1, hx, hla, rfl⟩⟩
  · have HU := Lib.hid hk
    have h0 : ((k : Int) != 0) = true := bne_iff_ne.2 (by omega)
    clear hk
    go_wp2_with fail
    go_ret
    exact Changed.err HT.out ((fresh_far k1).alloc _) (doRename_err' HU.out)
  · have HU := Lib.hid hd
    have T1 := HT.out.far (fresh_far k1)
    have hl16 := hx.2.2.1
    have HL := Lib.hid hla
    have ha := (HG.out.name_le hla)
    have c1 := fresh_cell k1 1 rfl
    have c2 := fresh_cell k1 2 rfl
    have hlt := Nat.lt_of_lt_of_le (show w.heap.size < (w.alloc (.cells (callC kind off n s o dv) 31)).heap.size by simp) k1.size
    clear hd hx hla
    obtain ⟨w2, hw2⟩ : ∃ w2, w1.alloc (.cells #[.pointer (some ⟨L.nb d, 0, none⟩), .string (ba x)] 101) = w2 := ⟨_, rfl⟩
    have k2 : KF (w1.alloc (.cells #[.pointer (some ⟨L.nb d, 0, none⟩), .string (ba x)] 101)) w2 := hw2 ▸ KF.refl _
    have hlt2 := Nat.lt_of_lt_of_le (show w1.heap.size < (w1.alloc (.cells #[.pointer (some ⟨L.nb d, 0, none⟩), .string (ba x)] 101)).heap.size by simp) k2.size
    have d0 := fresh_cell k2 0 rfl
    have d1 := fresh_cell k2 1 rfl
    have q1 := ((fresh_far k2).cell (p := ⟨w.heap.size, 1, none⟩) hlt).trans c1
    have q2 := ((fresh_far k2).cell (p := ⟨w.heap.size, 2, none⟩) hlt).trans c2
    have T2 := T1.far (fresh_far k2)
    have HW := Lib.hid hw2
    have kw2 := KF.trans (fresh_far k1) (fresh_far k2)
    clear hw2 c1 c2
    by_cases hos : o = s
    · have HO := Lib.hid hos
      subst hos
      have hq : (o.toList == o.toList) = true := beq_self_eq_true _
      go_upto_region 4 with fail
      rw [HW.out]
      go_wp2_with fail
      go_ret
      refine Changed.quiet HT.out kw2 ?_
      rw [doRename_ok HU.out, if_pos rfl]
    · have HO : Hid (o.data.toList ≠ s.data.toList) := Lib.hid fun h => hos (ba_ext.1 h)
      have hq : (o.toList == s.toList) = false := by
        rw [Lib.toList_data, Lib.toList_data]
        exact beq_eq_false_iff_ne.2 HO.out
      clear hos
      by_cases hin : insideM o.data.toList s.data.toList = true
      · have HI2 := HI.out w2 kw2
        rw [hin] at HI2
        have HI3 := Lib.hid HI2
        have HN := Lib.hid hin
        clear HI2 hin HI
        go_upto_region 4 with fail
        rw [HW.out]
        go_wp2_with fail
        refine HI3.out.mono ?_
        rintro e w3 ⟨rfl, k3⟩
        go_wp2_with fail
        go_ret
        refine Changed.err HT.out (KF.trans kw2 k3) (c := 26) ?_
        rw [doRename_ok HU.out, if_neg HO.out, if_pos HN.out]
      · have hin' : insideM o.data.toList s.data.toList = false := by simpa using hin
        have HI2 := HI.out w2 kw2
        rw [hin'] at HI2
        have HI3 := Lib.hid HI2
        have HN := Lib.hid hin
        clear HI2 hin HI hin'
        go_upto_region 4 with fail
        rw [HW.out]
        go_wp2_with fail
        refine HI3.out.mono ?_
        rintro e w3 ⟨rfl, k3⟩
        have r2 := (k3.cell (p := ⟨w.heap.size, 2, none⟩) (Nat.lt_trans hlt hlt2)).trans q2
        have s0 := (k3.cell (p := ⟨w1.heap.size, 0, none⟩) hlt2).trans d0
        have s1 := (k3.cell (p := ⟨w1.heap.size, 1, none⟩) hlt2).trans d1
        have T3 := T2.far k3
        have kw3 := KF.trans kw2 k3
        have hlt3 := Nat.lt_of_lt_of_le hlt2 k3.size
        go_wp2_with fail
        refine (HP.out w3 kw3).mono ?_
        rintro e w4 ⟨k4, ⟨k, hk, hk0, rfl⟩ | ⟨d', y, hp, hd1', hy, rfl⟩⟩
        · have HQ := Lib.hid hk
          have h0 : ((k : Int) != 0) = true := bne_iff_ne.2 (by omega)
          clear hk
          go_wp2_with fail
          go_ret
          refine Changed.err HT.out ((KF.trans kw3 k4).alloc _) ?_
          rw [doRename_ok HU.out, if_neg HO.out, if_neg HN.out, HQ.out]
        · have HQ := Lib.hid hp
          have hy16 := hy.2.2.1
          clear hp hy
          have T4 := T3.far k4
          have kw4 := KF.trans kw3 k4
          have hlt4 := Nat.lt_of_lt_of_le hlt3 k4.size
          obtain ⟨w5, hw5⟩ : ∃ w5, w4.alloc (.cells #[.pointer (some ⟨L.nb d', 0, none⟩), .string (ba y)] 101) = w5 := ⟨_, rfl⟩
          have k5 : KF (w4.alloc (.cells #[.pointer (some ⟨L.nb d', 0, none⟩), .string (ba y)] 101)) w5 := hw5 ▸ KF.refl _
          have hlt5 := Nat.lt_of_lt_of_le (show w4.heap.size < (w4.alloc (.cells #[.pointer (some ⟨L.nb d', 0, none⟩), .string (ba y)] 101)).heap.size by simp) k5.size
          have e0 := fresh_cell k5 0 rfl
          have e1 := fresh_cell k5 1 rfl
          have t0 := (KF.cell (KF.trans k4 (fresh_far k5)) (p := ⟨w1.heap.size, 0, none⟩) hlt3).trans s0
          have t1 := (KF.cell (KF.trans k4 (fresh_far k5)) (p := ⟨w1.heap.size, 1, none⟩) hlt3).trans s1
          have T5 := T4.far (fresh_far k5)
          have cd := T5.cell_dir hd1
          have HV := Lib.hid hw5
          have kw5 := KF.trans kw4 (fresh_far k5)
          clear hw5 d0 d1 q1 q2 s0 s1 r2
          obtain ⟨w6, hdel, T6, k6⟩ := (T5.drew1).drop_name hd1 hl16 0
          have heb : ∀ d, (t d).kind = 1 → L.eb d < w.heap.size := fun d hd => HT.out.lt (foot_eb hd)
          have hne : ¬ w4.heap.size = L.eb d := fun e => by have := heb d hd1; have := Nat.lt_trans hlt hlt4; omega
          have u0 := (Keep.cell k6 (p := ⟨w4.heap.size, 0, none⟩) (by simpa using hlt5) hne).trans e0
          have u1 := (Keep.cell k6 (p := ⟨w4.heap.size, 1, none⟩) (by simpa using hlt5) hne).trans e1
          have hd6 : ((t.rows d (drop (t d).entries x)) d').kind = 1 := by rw [Tr.rows_kind]; exact hd1'
          have cd6 := T6.cell_dir hd6
          obtain ⟨w7, hput, T7, k7⟩ := (T6.drew1).put_name hd6 hy16 hN a
          have HT7 := Lib.hid T7
          clear T6 T7 heb hd6
          go_upto_region 11 with fail
          rw [HV.out]
          go_region
          go_upto_region 12 with fail
          go_region
          go_wp2_with fail
          go_ret
          have hr : doRename t s.data.toList o.data.toList = (okA, moved t a d x d' y) := by
            rw [doRename_ok HU.out, if_neg HO.out, if_neg HN.out, HQ.out]
          rw [hr]
          refine ⟨rfl, L, rfl, HT7.out, ?_, fun k hk => .inl (foot_rows.1 (foot_rows.1 hk))⟩
          exact (((kw5.keep (S := Foot L t)).drew.trans k6 fun i _ hi => hi ▸ foot_eb hd1).drew).trans k7 fun i _ hi => hi ▸ foot_eb hd1'
end Go.Proofs.YtlpjbgplimlcaaaGreatDoor
