/-
  WALKS of the document's own answer: a call's stream.
-/
import Derived.Test.YtklpebfkgdklmaaDoorRSplit
import Derived.Test.YtklpebfkgdklmaaDoorStream
import Derived.Test.YtklpebfkgdklmaaDoorRefSum
import Derived.BigQuiet
namespace Go.Proofs.YtklpebfkgdklmaaDoor
open Go.RowKit

theorem refTail (p : Txt) (hp : p.length ≤ 1000000) (w : World) : Hid (Calls Tryd.prog 41 #[.slice (some ⟨w.heap.size, 0, none⟩) p.length (grownCap w p.length 0 5)] (Lib.bytesWorld w 5 (ba p)) fun e w' => e = .returned (.int .u32 (crc p : Nat)) ∧ Lib.bytesWorld w 5 (ba p) = w') := by
  have hr := rd_bytes w 5 (ba p)
  have e : (ba p).data.toList = p := by simp [ba]
  rw [e] at hr
  exact refSum_is rfl (by omega) hr rfl
set_option maxRecDepth 100000 in
set_option maxHeartbeats 2000000 in
theorem refStream_any (x : TCall) (A : Option Addr) (d c : Nat) (w : World) (hp : x.path.length ≤ 1000) (ho : x.other.length ≤ 1000) :
    Calls Tryd.prog 15 #[.agg #[.int .i64 x.kind, .string (ba x.path), .string (ba x.other), .int .i64 x.off, .int .i64 x.n, .slice A d c]] w fun e w' => e = .returned (.int .i64 (streamM x : Nat)) ∧ KF w w' := by
  obtain ⟨w1, hw1⟩ : ∃ w1, w.alloc (.cells #[.int .i64 x.kind, .string (ba x.path), .string (ba x.other), .int .i64 x.off, .int .i64 x.n, .slice A d c] 24) = w1 := ⟨_, rfl⟩
  obtain ⟨g0, hg0⟩ : ∃ g0, w.heap.size = g0 := ⟨_, rfl⟩
  have b1 : w1.heap[g0]? = some (.cells #[.int .i64 x.kind, .string (ba x.path), .string (ba x.other), .int .i64 x.off, .int .i64 x.n, .slice A d c] 24) := by rw [← hw1, ← hg0]; exact heap_alloc_new w _
  have k01 : KF w w1 := by rw [← hw1]; exact (KF.refl _).alloc _
  have hlt := lt_of_block b1
  have CELL := Lib.hid fun wx (k : KF w1 wx) => six_cells ((k.block g0 hlt (fun h => h)).trans b1)
  have CF : Hid (Calls Tryd.prog 40 #[.string (ba x.path)] w1 (RSplits x.path w1)) := Lib.hid (by have h := rsplit_any (ba x.path) w1 (by rw [ba_size]; exact hp); simpa using h)
  have CO : Hid (∀ wx, Calls Tryd.prog 40 #[.string (ba x.other)] wx (RSplits x.other wx)) := Lib.hid fun wx => by have h := rsplit_any (ba x.other) wx (by rw [ba_size]; exact ho); simpa using h
  have HW1 := Lib.hid hw1
  have HG0 := Lib.hid hg0
  have HS : Hid (streamM x = if x.kind = 12 ∨ firstN x.path = [] then 0 else if isTwo x.kind = true ∧ firstN x.other ≠ firstN x.path then 0 else 1 + crc (firstN x.path) % 7) := Lib.hid rfl
  generalize streamM x = sx at *
  have cv := conv_text
  clear b1 hw1 hg0 hlt
  go_enter Tryd.func15, Tryd.ntmps15
  go_upto_region 1 with fail
  rw [HW1.out, HG0.out]
  clear HW1 HG0
  obtain ⟨c0, c1, c2, c3, c4, c5⟩ := CELL.out _ (KF.refl w1)
  go_wp2_with fail
  refine CF.out.mono ?_
  rintro e w2 ⟨k2, ⟨hm, An, nn, cn, rfl⟩ | ⟨ps, Ap, cp, hm, rfl, hpc, hpc9, hst⟩⟩
  · clear c0 c1 c2 c3 c4 c5 CF
    obtain ⟨c0, c1, c2, c3, c4, c5⟩ := CELL.out _ k2
    have HS0 : Hid (sx = 0) := Lib.hid (by rw [HS.out, if_pos (.inr (first_none hm))])
    clear HS hm
    by_cases h12 : x.kind = 12
    · have z12 : (x.kind == 12) = true := beq_iff_eq.2 h12
      clear h12
      go_wp2_with fail
      go_ret
      exact ⟨by rw [HS0.out]; rfl, KF.trans k01 k2⟩
    · have z12 : (x.kind == 12) = false := beq_eq_false_iff_ne.2 h12
      clear h12
      go_wp2_with fail
      go_ret
      exact ⟨by rw [HS0.out]; rfl, KF.trans k01 k2⟩
  · clear c0 c1 c2 c3 c4 c5 CF
    obtain ⟨c0, c1, c2, c3, c4, c5⟩ := CELL.out _ k2
    by_cases h12 : x.kind = 12
    · have z12 : (x.kind == 12) = true := beq_iff_eq.2 h12
      have HS0 : Hid (sx = 0) := Lib.hid (by rw [HS.out, if_pos (.inl h12)])
      clear h12 HS
      go_wp2_with fail
      go_ret
      exact ⟨by rw [HS0.out]; rfl, KF.trans k01 k2⟩
    have z12 : (x.kind == 12) = false := beq_eq_false_iff_ne.2 h12
    rcases ps with _ | ⟨p, ps⟩
    · have HS0 : Hid (sx = 0) := Lib.hid (by rw [HS.out, if_pos (.inr (first_nil hm))])
      clear h12 HS hm
      go_wp2_with fail
      go_ret
      exact ⟨by rw [HS0.out]; rfl, KF.trans k01 k2⟩
    have hfp := first_cons hm
    have hpn := (pathM_some hm).2.2 p (by simp)
    have hpl : 1 ≤ p.length ∧ p.length ≤ 16 := ⟨hpn.2.1, hpn.2.2.1⟩
    have hp0 : p ≠ [] := by intro h; rw [h] at hpl; simp at hpl
    have HS1 : Hid (sx = if isTwo x.kind = true ∧ firstN x.other ≠ p then 0 else 1 + crc p % 7) := Lib.hid (by rw [HS.out, hfp, if_neg (by rintro (h | h); exact h12 h; exact hp0 h)])
    obtain ⟨b, o, rfl, hbb, hcell⟩ := hst 0 (ba p) (by simp)
    have hl : (p :: ps).length = ps.length + 1 := rfl
    have z1 : (((ps.length + 1 : Nat) : Int) == 0) = false := beq_eq_false_iff_ne.2 (by omega)
    have HCELL := Lib.hid fun W (k : KF w2 W) => show W.cell? ⟨b, o, none⟩ = some (.string (ba p)) from (k.cell (p := ⟨b, o + 0, none⟩) hbb).trans hcell
    have T8 := Lib.hid fun W => refTail p (by omega) W
    have hcl := crc_lt p
    have hw7 : (1 : Int) + ((crc p : Nat) : Int) % 7 ≤ 7 := by omega
    rw [hl]
    clear hl HS hm hst hcell hfp hpn h12
    generalize ps.length = q at *
    have hpos : (0 : Int) < ((q + 1 : Nat) : Int) := by omega
    have hsz := ba_size p
    have HTWO : Hid (isTwo x.kind = (x.kind == 5 || x.kind == 6)) := Lib.hid rfl
    generalize isTwo x.kind = tw at *
    go_upto_region 4 with fail
    go_cut [32] (fun s wx => s = .bool tw ∧ wx = w2)
    case first =>
      by_cases h5 : x.kind = 5
      · have z5 : (x.kind == 5) = true := beq_iff_eq.2 h5
        have HT2 : Hid (tw = true) := Lib.hid (by rw [HTWO.out, h5]; rfl)
        clear h5
        go_wp2_with fail
        go_meet
        exact ⟨by rw [HT2.out], rfl⟩
      · have z5 : (x.kind == 5) = false := beq_eq_false_iff_ne.2 h5
        have HT2 : Hid (tw = (x.kind == 6)) := Lib.hid (by rw [HTWO.out, z5]; rfl)
        clear h5
        go_wp2_with fail
        go_meet
        exact ⟨by rw [HT2.out], rfl⟩
    case rest =>
      obtain ⟨rfl, rfl⟩ := hcut
      clear HTWO
      rcases tw with _ | _
      · have HS2 : Hid (sx = 1 + crc p % 7) := Lib.hid (by rw [HS1.out]; simp)
        have TT := Lib.hid (T8.out wc)
        have hcl0 := HCELL.out wc (KF.refl _)
        clear HS1 T8 HCELL CO
        generalize crc p = y at *
        go_wp2_with fail
        refine TT.out.out.mono ?_
        rintro e w4 ⟨rfl, rfl⟩
        go_wp2_with fail
        go_ret
        exact ⟨ret_int (by rw [HS2.out]; omega), KF.trans (KF.trans k01 k2) (kf_bytes _ _ _)⟩
      · go_wp2_with fail
        refine (CO.out _).mono ?_
        rintro e w5 ⟨k5, ⟨hm, An, nn, cn, rfl⟩ | ⟨qs, Aq, cq, hm, rfl, hqc, hqc9, hsq⟩⟩
        · have HS2 : Hid (sx = 0) := Lib.hid (by rw [HS1.out, first_none hm]; simp [hp0.symm])
          clear HS1 hm hp0
          go_upto_region 6 with fail
          go_quiet (fail)
          go_wp2_with fail
          go_ret
          exact ⟨by rw [HS2.out]; rfl, Keep.drewN (KF.trans (KF.trans k01 k2) k5) _⟩
        · rcases qs with _ | ⟨r, qs⟩
          · have HS2 : Hid (sx = 0) := Lib.hid (by rw [HS1.out, first_nil hm]; simp [hp0.symm])
            clear HS1 hm hp0
            go_upto_region 6 with fail
            go_quiet (fail)
            go_wp2_with fail
            go_ret
            exact ⟨by rw [HS2.out]; rfl, Keep.drewN (KF.trans (KF.trans k01 k2) k5) _⟩
          · have hfo := first_cons hm
            obtain ⟨b', o', rfl, hbb', hcell'⟩ := hsq 0 (ba r) (by simp)
            simp only [Nat.add_zero] at hcell'
            have hl : (r :: qs).length = qs.length + 1 := rfl
            have z2 : (((qs.length + 1 : Nat) : Int) == 0) = false := beq_eq_false_iff_ne.2 (by omega)
            have hcl0 := HCELL.out w5 k5
            have HDR := Lib.hid fun n => show KF w (w5.drewN n) from Keep.drewN (KF.trans (KF.trans k01 k2) k5) n
            rw [hl]
            clear hl
            by_cases hrp : r = p
            · subst hrp
              have HS2 : Hid (sx = 1 + crc r % 7) := Lib.hid (by rw [HS1.out, hfo]; simp)
              have TT := Lib.hid fun n => T8.out (w5.drewN n)
              have HC2 := Lib.hid fun n => show (w5.drewN n).cell? ⟨b, o, none⟩ = some (.string (ba r)) from hcl0
              clear HS1 hm hp0 hfo hsq T8 HCELL CO
              generalize qs.length = q2 at *
              have hpos2 : (0 : Int) < ((q2 + 1 : Nat) : Int) := by omega
              generalize crc r = y at *
              go_upto_region 6 with fail
              go_quiet (fail)
              have hc0 := HC2.out nq
              have tt := TT.out nq
              have hd := Lib.hid (HDR.out nq)
              clear HC2 TT HDR
              generalize w5.drewN nq = W at *
              go_wp2_with fail
              refine tt.out.mono ?_
              rintro e w6 ⟨rfl, rfl⟩
              go_wp2_with fail
              go_ret
              exact ⟨ret_int (by rw [HS2.out]; omega), KF.trans hd.out (kf_bytes _ _ _)⟩
            · have HS2 : Hid (sx = 0) := Lib.hid (by rw [HS1.out, hfo, if_pos ⟨trivial, hrp⟩])
              have hz2 : (r != p) = true := bne_iff_ne.2 hrp
              have hz3 : (r == p) = false := beq_eq_false_iff_ne.2 hrp
              clear HS1 hm hp0 hfo hsq T8 HCELL CO
              generalize qs.length = q2 at *
              have hpos2 : (0 : Int) < ((q2 + 1 : Nat) : Int) := by omega
              go_upto_region 6 with fail
              go_quiet (fail)
              go_wp2_with fail
              go_ret
              exact ⟨by rw [HS2.out]; rfl, HDR.out _⟩
end Go.Proofs.YtklpebfkgdklmaaDoor
