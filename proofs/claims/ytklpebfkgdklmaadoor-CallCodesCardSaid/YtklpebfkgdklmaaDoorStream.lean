/-
  WALKS: call.Stream.
-/
import Derived.Test.YtklpebfkgdklmaaDoorSplit
import Derived.Test.YtklpebfkgdklmaaDoorEnc
namespace Go.Proofs.YtklpebfkgdklmaaDoor
open Go.RowKit

/-- A path's first name; an empty text, if there is none. -/
def firstN (l : Txt) : Txt := match pathM l with
  | some (p :: _) => p
  | _ => []
theorem first_none {l : Txt} (h : pathM l = none) : firstN l = [] := by unfold firstN; rw [h]
theorem first_nil {l : Txt} (h : pathM l = some []) : firstN l = [] := by unfold firstN; rw [h]
theorem first_cons {l p : Txt} {ps : List Txt} (h : pathM l = some (p :: ps)) : firstN l = p := by unfold firstN; rw [h]
set_option maxHeartbeats 1000000 in
theorem first_any (l : Txt) (w : World) (hs : l.length ≤ 1000000) (he : Env w) : Calls Tryd.prog 37 #[.string (ba l)] w fun e w' => e = .returned (.string (ba (firstN l))) ∧ KF w w' := by
  have CS := Lib.hid (split_any (ba l) w (by rw [ba_size]; exact hs) he)
  go_enter Tryd.func37, Tryd.ntmps37
  go_wp2_with fail
  refine CS.out.mono ?_
  rintro e w1 ⟨k1, ⟨hm, rfl⟩ | ⟨ps, A, c, hm, rfl, hc, hc9, hst⟩⟩
  · have HF := Lib.hid (first_none hm)
    clear hm
    go_wp2_with fail
    go_ret
    exact ⟨by rw [HF.out]; rfl, k1⟩
  · rcases ps with _ | ⟨p, ps⟩
    · have HF := Lib.hid (first_nil hm)
      clear hm
      go_wp2_with fail
      go_ret
      exact ⟨by rw [HF.out]; rfl, k1⟩
    · have HF := Lib.hid (first_cons hm)
      obtain ⟨b, o, rfl, hb, hcell⟩ := World.cellAt hst (n := 0) (by simp)
      simp only [List.map_cons, List.getElem_cons_zero, Nat.add_zero] at hcell
      have hl : (p :: ps).length = ps.length + 1 := rfl
      have z1 : (((ps.length + 1 : Nat) : Int) == 0) = false := beq_eq_false_iff_ne.2 (by omega)
      clear hst hm hc
      rw [hl]
      clear hl
      generalize ps.length = q at *
      have hpos : (0 : Int) < ((q + 1 : Nat) : Int) := by omega
      go_wp2_with fail
      go_ret
      exact ⟨by rw [HF.out]; rfl, k1⟩
/-- Is a call of that kind about Other, too? -/
def isTwo (k : Int) : Bool := k == 5 || k == 6
theorem hasOther_any (k : Int) (w : World) : Calls Tryd.prog 38 #[.int .i64 k] w fun e w' => e = .returned (.bool (isTwo k)) ∧ w' = w := by
  by_cases h5 : k = 5
  · subst h5
    go_enter Tryd.func38, Tryd.ntmps38
    go_wp2_with fail
    go_ret
    exact ⟨rfl, rfl⟩
  · have z5 : (k == 5) = false := beq_eq_false_iff_ne.2 h5
    have hz : Hid (isTwo k = (k == 6)) := Lib.hid (by unfold isTwo; rw [z5]; rfl)
    go_enter Tryd.func38, Tryd.ntmps38
    go_wp2_with fail
    go_ret
    exact ⟨by rw [hz.out]; rfl, rfl⟩
/-- A call's stream. -/
def streamM (c : TCall) : Nat := if c.kind = 12 ∨ firstN c.path = [] then 0 else if isTwo c.kind = true ∧ firstN c.other ≠ firstN c.path then 0 else 1 + crc (firstN c.path) % 7
theorem first_len (l : Txt) : (firstN l).length ≤ 16 := by
  unfold firstN
  split
  · next p ps h => exact ((pathM_some h).2.2 p (by simp)).2.2.1
  · simp
set_option maxRecDepth 100000 in
set_option maxHeartbeats 1000000 in
theorem stream_any (x : TCall) (A : Option Addr) (d c : Nat) (w : World) (ht : Tab w) (he : Env w) (hp : x.path.length ≤ 1000000) (ho : x.other.length ≤ 1000000) :
    Calls Tryd.prog 14 #[.agg #[.int .i64 x.kind, .string (ba x.path), .string (ba x.other), .int .i64 x.off, .int .i64 x.n, .slice A d c]] w fun e w' => e = .returned (.int .i64 (streamM x : Nat)) ∧ KF w w' := by
  obtain ⟨w1, hw1⟩ : ∃ w1, w.alloc (.cells #[.int .i64 x.kind, .string (ba x.path), .string (ba x.other), .int .i64 x.off, .int .i64 x.n, .slice A d c] 24) = w1 := ⟨_, rfl⟩
  obtain ⟨g0, hg0⟩ : ∃ g0, w.heap.size = g0 := ⟨_, rfl⟩
  have b1 : w1.heap[g0]? = some (.cells #[.int .i64 x.kind, .string (ba x.path), .string (ba x.other), .int .i64 x.off, .int .i64 x.n, .slice A d c] 24) := by rw [← hw1, ← hg0]; exact heap_alloc_new w _
  have k01 : KF w w1 := by rw [← hw1]; exact (KF.refl _).alloc _
  have hlt := lt_of_block b1
  have CELL := Lib.hid fun wx (k : KF w1 wx) => six_cells ((k.block g0 hlt (fun h => h)).trans b1)
  have CF := Lib.hid (first_any x.path w1 hp (he.kept k01))
  have CO := Lib.hid fun wx (k : KF w1 wx) => first_any x.other wx ho (he.kept (KF.trans k01 k))
  have HT := Lib.hid fun wx (k : KF w1 wx) => ht.kept (KF.trans k01 k) (fun h => h)
  have HW1 := Lib.hid hw1
  have HG0 := Lib.hid hg0
  have HS : Hid (streamM x = if x.kind = 12 ∨ firstN x.path = [] then 0 else if isTwo x.kind = true ∧ firstN x.other ≠ firstN x.path then 0 else 1 + crc (firstN x.path) % 7) := Lib.hid rfl
  have hfl : (firstN x.path).length ≤ 1000000 := Nat.le_trans (first_len _) (by omega)
  generalize streamM x = sx at *
  generalize firstN x.path = fp at *
  generalize firstN x.other = fo at *
  have cv := conv_text
  clear b1 hw1 hg0 hlt ht he
  go_enter Tryd.func14, Tryd.ntmps14
  go_upto_region 1 with fail
  rw [HW1.out, HG0.out]
  clear HW1 HG0
  obtain ⟨c0, c1, c2, c3, c4, c5⟩ := CELL.out _ (KF.refl w1)
  go_wp2_with fail
  refine CF.out.mono ?_
  rintro e w2 ⟨rfl, k2⟩
  clear c0 c1 c2 c3 c4 c5 CF
  obtain ⟨c0, c1, c2, c3, c4, c5⟩ := CELL.out _ k2
  by_cases h12 : x.kind = 12
  · have z12 : (x.kind == 12) = true := beq_iff_eq.2 h12
    have HS0 : Hid (sx = 0) := Lib.hid (by rw [HS.out, if_pos (.inl h12)])
    clear HS h12
    go_wp2_with fail
    go_ret
    exact ⟨by rw [HS0.out]; rfl, KF.trans k01 k2⟩
  · have z12 : (x.kind == 12) = false := beq_eq_false_iff_ne.2 h12
    by_cases hf : fp = []
    · have HS0 : Hid (sx = 0) := Lib.hid (by rw [HS.out, if_pos (.inr hf)])
      subst hf
      clear HS h12
      go_wp2_with fail
      go_ret
      exact ⟨by rw [HS0.out]; rfl, KF.trans k01 k2⟩
    · have HS1 : Hid (sx = if isTwo x.kind = true ∧ fo ≠ fp then 0 else 1 + crc fp % 7) := Lib.hid (by rw [HS.out, if_neg (by rintro (h | h); exact h12 h; exact hf h)])
      have zf : List.isEmpty fp = false := by
        cases fp
        · exact absurd rfl hf
        · rfl
      clear HS h12 hf
      go_wp2_with fail
      refine (hasOther_any _ _).mono ?_
      rintro e w3 ⟨rfl, rfl⟩
      have TAIL : ∀ w4, KF w1 w4 → Hid (Calls Tryd.prog 39 #[.slice (some ⟨w4.heap.size, 0, none⟩) fp.length (grownCap w4 fp.length 0 5)] (Lib.bytesWorld w4 5 (ba fp)) fun e w' => e = .returned (.int .u32 (crc fp : Nat)) ∧ Lib.bytesWorld w4 5 (ba fp) = w') := fun w4 k4 => by
        have hr := rd_bytes w4 5 (ba fp)
        have e : (ba fp).data.toList = fp := by simp [ba]
        rw [e] at hr
        exact Lib.hid (sum_any _ fp fp.length _ _ rfl (by omega) (HT.out _ (KF.trans k4 (kf_bytes w4 _ _))) _ hr)
      have hcl := crc_lt fp
      have hw1 : (1 : Int) + ((crc fp : Nat) : Int) % 7 ≤ 7 := by omega
      by_cases h2 : isTwo x.kind = true
      · have COO := Lib.hid (CO.out _ k2)
        have CSIX := Lib.hid fun wx (k : KF w3 wx) => TAIL wx (KF.trans k2 k)
        by_cases hoo : fo = fp
        · have HS2 : Hid (sx = 1 + crc fp % 7) := Lib.hid (by rw [HS1.out, if_neg (fun h => h.2 hoo)])
          rw [hoo] at COO
          rw [h2]
          clear h2 hoo HS1 TAIL CO
          generalize crc fp = y at *
          go_wp2_with fail
          refine COO.out.mono ?_
          rintro e w5 ⟨rfl, k5⟩
          have TT := Lib.hid (CSIX.out w5 k5)
          go_wp2_with fail
          refine TT.out.out.mono ?_
          rintro e w4 ⟨rfl, rfl⟩
          go_wp2_with fail
          go_ret
          exact ⟨ret_int (by rw [HS2.out]; omega), KF.trans (KF.trans k01 (KF.trans k2 k5)) (kf_bytes _ _ _)⟩
        · have HS2 : Hid (sx = 0) := Lib.hid (by rw [HS1.out, if_pos ⟨h2, hoo⟩])
          have zo : (fo == fp) = false := beq_eq_false_iff_ne.2 hoo
          rw [h2]
          clear h2 hoo HS1 TAIL CO CSIX
          go_wp2_with fail
          refine COO.out.mono ?_
          rintro e w5 ⟨rfl, k5⟩
          go_wp2_with fail
          go_ret
          exact ⟨by rw [HS2.out]; rfl, KF.trans k01 (KF.trans k2 k5)⟩
      · have h2' : isTwo x.kind = false := by simpa using h2
        have HS2 : Hid (sx = 1 + crc fp % 7) := Lib.hid (by rw [HS1.out, if_neg (fun h => h2 h.1)])
        rw [h2']
        have TT := Lib.hid (TAIL w3 k2)
        clear h2 h2' HS1 TAIL
        generalize crc fp = y at *
        go_wp2_with fail
        refine TT.out.out.mono ?_
        rintro e w4 ⟨rfl, rfl⟩
        go_wp2_with fail
        go_ret
        exact ⟨ret_int (by rw [HS2.out]; omega), KF.trans (KF.trans k01 k2) (kf_bytes _ _ _)⟩
end Go.Proofs.YtklpebfkgdklmaaDoor
