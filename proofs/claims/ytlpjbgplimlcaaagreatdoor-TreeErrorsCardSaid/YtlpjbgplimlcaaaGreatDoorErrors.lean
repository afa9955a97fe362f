/-
  TreeErrors, walked, where the reference's Right answers true of the nodes of every tree.
-/
import Derived.Test.YtlpjbgplimlcaaaGreatDoorRenames
namespace Go.Proofs.YtlpjbgplimlcaaaGreatDoor
open Go.RowKit Go.Maps

/-- An error is answered alone. -/
theorem doT_errA {t : Tr} {c : TCall} : (doT t c).1.err ≠ 0 → (doT t c).1 = errA (doT t c).1.err := by
  refine doT_cases t c (fun r => r.1.err ≠ 0 → r.1 = errA r.1.err) ?_ ?_ ?_ ?_ ?_ ?_ ?_ ?_ ?_ ?_ ?_ ?_ ?_
  all_goals intro _
  all_goals (try unfold doMake)
  all_goals (try unfold doRmdir)
  all_goals (try unfold doUnlink)
  all_goals (try unfold doLink)
  all_goals (try unfold doRename)
  all_goals (try unfold doWrite)
  all_goals (try unfold doRead)
  all_goals (try unfold doCut)
  all_goals (try unfold doStat)
  all_goals (try unfold doList)
  all_goals (repeat' split)
  all_goals (first | exact fun _ => rfl | exact fun h => absurd rfl h)

set_option maxRecDepth 100000 in
theorem changes_any (k : Int) (w : World) : Calls Tryz.prog 18 #[.int .i64 k] w fun e w' => e = .returned (.bool (changes k)) ∧ w' = w := by
  by_cases h : k = 1 ∨ k = 2 ∨ k = 3 ∨ k = 4 ∨ k = 5 ∨ k = 6 ∨ k = 7 ∨ k = 9
  · rcases h with rfl | rfl | rfl | rfl | rfl | rfl | rfl | rfl
    all_goals
      go_enter Tryz.func18, Tryz.ntmps18
      go_wp2_with fail
      go_ret
      exact ⟨rfl, rfl⟩
  · have z1 : (k == 1) = false := beq_eq_false_iff_ne.2 (by omega)
    have z2 : (k == 2) = false := beq_eq_false_iff_ne.2 (by omega)
    have z3 : (k == 3) = false := beq_eq_false_iff_ne.2 (by omega)
    have z4 : (k == 4) = false := beq_eq_false_iff_ne.2 (by omega)
    have z5 : (k == 5) = false := beq_eq_false_iff_ne.2 (by omega)
    have z6 : (k == 6) = false := beq_eq_false_iff_ne.2 (by omega)
    have z7 : (k == 7) = false := beq_eq_false_iff_ne.2 (by omega)
    have z9 : (k == 9) = false := beq_eq_false_iff_ne.2 (by omega)
    have hc : changes k = false := decide_eq_false (by omega)
    rw [hc]
    clear h hc
    go_enter Tryz.func18, Tryz.ntmps18
    go_wp2_with fail
    go_ret
    exact ⟨rfl, rfl⟩

/-- The reference's Right answers true of the nodes of every tree. -/
def Rights : Prop := ∀ (u : Tr) (A : Option Addr) (c : Nat) (wx : World), Good u → (∀ x ∈ nodesOf u, x.data.length ≤ 1000000 ∧ x.entries.length ≤ 1000000) → NodesAt wx wx.heap.size A (nodesOf u) →
  Calls Tryz.prog 19 #[.slice A (nodesOf u).length c] wx fun e w' => e = .returned (.bool true) ∧ KF wx w'
theorem St8.right_ {w wr w2 : World} {L : Lay} {N : Nat} {t : Tr} (h : St8 w wr L N t) (hR : Rights) (hN : N ≤ 1000000) {A : Option Addr} {c : Nat} (h1 : NodesAt w2 w2.heap.size A (nodesOf t)) :
    Calls Tryz.prog 19 #[.slice A (nodesOf t).length c] w2 fun e w' => e = .returned (.bool true) ∧ KF w2 w' :=
  hR t A c w2 h.good (nodes_small h.tree h.good hN) h1

set_option maxRecDepth 100000 in
set_option maxHeartbeats 16000000 in
theorem errors_walk (hR : Rights) (A : Option Addr) (cs : List TCall) (n c : Nat) (w : World) (he : Env w) (hn : n = cs.length) (hr : CallsAt w w.heap.size A cs) :
    Calls Tryz.prog 4 #[.slice A n c] w fun e w' => e = .returned (.bool true) ∧ KF w w' := by
  have HS := Lib.hid (speaks_any w he)
  have HG := Lib.hid fun wr (k : KF w wr) => great_any A cs n c wr hn ((hr.keep k (Nat.le_refl _)).more k.size)
  have HN := Lib.hid hn
  have HR := Lib.hid hr
  have HRT := Lib.hid hR
  clear hn hr hR
  go_enter Tryz.func4, Tryz.ntmps4
  go_wp2_with fail
  refine HS.out.mono ?_
  rintro e w1 ⟨rfl, k1⟩
  go_wp2_with fail
  refine (HG.out w1 k1).mono ?_
  rintro e w2 ⟨b, rfl, k2, hb⟩
  have k12 := KF.trans k1 k2
  rcases b with _ | _
  · have HSM := Lib.hid (hb rfl)
    have HNEW := Lib.hid (St8.new k12 he)
    have hn120 : n ≤ 120 := by rw [HN.out]; exact HSM.out.1
    clear hb
    go_wp2_with fail
    refine HNEW.out.mono ?_
    rintro e w3 ⟨L, rfl, S3, k3, _⟩
    have hLtb : L.tb = L.tb := rfl
    generalize hq : L.tb = tb at *
    have HQ := Lib.hid hq
    clear hq hLtb
    go_wp2_with fail
    go_loopg [15] n (fun g i wr => ∃ (k : Nat) (L : Lay), k ≤ n ∧ n - k ≤ g ∧ i = .int .i64 k ∧ L.tb = tb ∧ Hid (St8 w wr L (k + 1) (doAll newT (cs.take k))))
    case atStart => exact ⟨0, L, by omega, by omega, rfl, HQ.out, S3⟩
    case round =>
      obtain ⟨k, L1, hk, hg, rfl, hL1, S⟩ := hrel
      rcases Nat.lt_or_ge k n with hlt | hge
      · have hlt' : (k : Int) < (n : Int) := by omega
        have q1 : k < cs.length := by rw [← HN.out]; exact hlt
        have hat : cs[k]? = some cs[k] := List.getElem?_eq_getElem q1
        have hsm := HSM.out.2 _ (List.getElem_mem q1)
        obtain ⟨b, o, A1, c1, rfl, hb, hc, hrd⟩ := (HR.out.keep S.out.kf (Nat.le_refl _)) k _ hat
        have HTK := Lib.hid (show doAll newT (cs.take (k + 1)) = (doT (doAll newT (cs.take k)) cs[k]).2 by
          unfold doAll
          rw [List.take_succ_eq_append_getElem q1, List.foldl_append]
          rfl)
        generalize cs[k] = x at *
        generalize doAll newT (cs.take k) = t at *
        have c0 : wr.cell? ⟨b, o + k * 6, none⟩ = some (.int .i64 x.kind) := hc 0 _ rfl
        have c1' : wr.cell? ⟨b, o + k * 6 + 1, none⟩ = some (.string (ba x.path)) := hc 1 _ rfl
        have c2 : wr.cell? ⟨b, o + k * 6 + 2, none⟩ = some (.string (ba x.other)) := hc 2 _ rfl
        have c3 : wr.cell? ⟨b, o + k * 6 + 3, none⟩ = some (.int .i64 x.off) := hc 3 _ rfl
        have c4 : wr.cell? ⟨b, o + k * 6 + 4, none⟩ = some (.int .i64 x.n) := hc 4 _ rfl
        have c5 : wr.cell? ⟨b, o + k * 6 + 5, none⟩ = some (.slice A1 x.data.length c1) := hc 5 _ rfl
        have HND := Lib.hid fun X => (S.out.later ((KF.refl wr).alloc X)).nodes (by omega)
        rw [hL1] at HND
        have hkw := S.out.kf
        clear hc hat HG HS HSM HNEW HQ HR S3
        go_wp2_with fail
        refine (HND.out _).mono ?_
        rintro e w4 ⟨A5, c50, rfl, hnf, k5⟩
        have HNF := Lib.hid hnf
        have d0 := fresh_cell k5 0 rfl
        have d1 := fresh_cell k5 1 rfl
        have d2 := fresh_cell k5 2 rfl
        have d3 := fresh_cell k5 3 rfl
        have d4 := fresh_cell k5 4 rfl
        have d5 := fresh_cell k5 5 rfl
        have HDO := Lib.hid ((S.out.later (fresh_far k5)).do_ (by omega) x A1 x.data.length c1 ⟨rfl, ⟨by omega, by omega, by omega⟩, hrd.keepF (fresh_far k5) hkw.size⟩ (fun a ha h0 => by
          obtain ⟨a', h1, h2⟩ := hrd.some_of h0
          rw [h1] at ha
          injection ha with ha
          rw [← ha]
          exact h2))
        rw [hL1] at HDO
        clear HND hnf c0 c1' c2 c3 c4 c5 hrd
        go_wp2_with fail
        refine HDO.out.mono ?_
        rintro e w5 ⟨A6, c6, A6', c6', L2, rfl, _, _, S5⟩
        have htb2 : L2.tb = tb := S5.out.tb.trans hL1
        have l4 : wr.heap.size < w4.heap.size := World.block_lt_of_cell? _ _ d0
        obtain ⟨_, l5, old⟩ := S5.out.old l4 (S.out.free (Nat.le_refl _))
        have e0 : w5.cell? ⟨wr.heap.size, 0, none⟩ = some (.int .i64 x.kind) := (old 0).trans d0
        have HNF5 := Lib.hid (HNF.out.in_.keep (Nat.le_refl _) S5.out.keep (fun i hi => .inl (Nat.lt_of_lt_of_le (S.out.tree.lt hi) (by simp))))
        have h45 : w4.heap.size ≤ w5.heap.size := S5.out.keep.size
        have T5 := Lib.hid S5.out.st
        have HQ1 := Lib.hid (doT_err (t := t) (c := x))
        have HQ2 := Lib.hid (doT_quiet (t := t) (c := x))
        have HQ3 := Lib.hid (doT_errA (t := t) (c := x))
        have HCH := Lib.hid fun wx => changes_any x.kind wx
        clear S S5 HDO HNF d0 d1 d2 d3 d4 d5 old
        generalize doT t x = r at *
        obtain ⟨ra, rt⟩ := r
        have hqq : (ra, rt).1 = ra := rfl
        have hqt : (ra, rt).2 = rt := rfl
        rw [hqt] at T5 HTK HQ1 HQ2
        rw [hqq] at HQ1 HQ3 ⊢
        clear hqq hqt
        by_cases h0 : ra.err = 0
        · have z1 : ((ra.err : Int) != 0) = false := by rw [h0]; rfl
          generalize hch : changes x.kind = ch at *
          rcases ch with _ | _
          · obtain rfl := HQ2.out rfl
            clear HQ1 HQ2 HQ3 hch h0
            have HND1 := Lib.hid fun X => (T5.out.later ((KF.refl w5).alloc X)).nodes (by omega)
            rw [htb2] at HND1
            go_wp2_with fail
            refine (HCH.out _).mono ?_
            rintro e w6 ⟨rfl, rfl⟩
            go_wp2_with fail
            refine (HND1.out _).mono ?_
            rintro e w7 ⟨A7, c7, rfl, hnf7, k7⟩
            have HSN := Lib.hid (T5.out.same_ (c := c7) (c' := c50) (by omega) hnf7.at_ ((HNF5.out.keep h45 (fresh_far k7) (fun _ h => h.elim)).at_ (Nat.le_trans h45 (fresh_far k7).size)))
            have lg : w5.heap.size < w7.heap.size := Nat.lt_of_lt_of_le (by simp) k7.size
            have HND2 := Lib.hid fun wx (kx : KF w7 wx) => (T5.out.later (KF.trans (fresh_far k7) kx)).nodes (by omega)
            rw [htb2] at HND2
            clear hnf7
            go_wp2_with fail
            refine HSN.out.mono ?_
            rintro e w8 ⟨rfl, k8⟩
            go_wp2_with fail
            refine (HND2.out _ k8).mono ?_
            rintro e w9 ⟨A9, c9, rfl, hnf9, k9⟩
            have HRG := Lib.hid (T5.out.right_ HRT.out (c := c9) (by omega) hnf9.at_)
            clear hnf9
            go_wp2_with fail
            refine HRG.out.mono ?_
            rintro e w10 ⟨rfl, k10⟩
            have k710 := KF.trans k8 (KF.trans k9 k10)
            have g0 := (k710.cell (p := ⟨w5.heap.size, 0, none⟩) lg).trans (fresh_cell k7 0 rfl)
            have HREL : Hid (∃ (k' : Nat) (L : Lay), k' ≤ n ∧ n - k' ≤ n - (k + 1) ∧ Value.int .i64 (k + 1) = .int .i64 k' ∧ L.tb = tb ∧ Hid (St8 w w10 L (k' + 1) (doAll newT (cs.take k')))) := Lib.hid ⟨k + 1, L2, hlt, Nat.le_refl _, by go_num, htb2, Lib.hid (by rw [HTK.out]; exact T5.out.later (KF.trans (fresh_far k7) k710))⟩
            clear HSN HND1 HND2 HRG HCH T5 HTK HRT HNF5
            go_wp2_with fail
            go_roundg (n - (k + 1))
            case measure => omega
            case rel => exact HREL.out
          · clear HQ1 HQ2 HQ3 hch h0
            have HND1 := Lib.hid fun X => (T5.out.later ((KF.refl w5).alloc X)).nodes (by omega)
            rw [htb2] at HND1
            go_wp2_with fail
            refine (HCH.out _).mono ?_
            rintro e w6 ⟨rfl, rfl⟩
            go_wp2_with fail
            refine (HND1.out _).mono ?_
            rintro e w9 ⟨A9, c9, rfl, hnf9, k9⟩
            have HRG := Lib.hid (T5.out.right_ HRT.out (c := c9) (by omega) hnf9.at_)
            clear hnf9
            go_wp2_with fail
            refine HRG.out.mono ?_
            rintro e w10 ⟨rfl, k10⟩
            have k910 := KF.trans k9 k10
            have g0 := fresh_cell k910 0 rfl
            have HREL : Hid (∃ (k' : Nat) (L : Lay), k' ≤ n ∧ n - k' ≤ n - (k + 1) ∧ Value.int .i64 (k + 1) = .int .i64 k' ∧ L.tb = tb ∧ Hid (St8 w w10 L (k' + 1) (doAll newT (cs.take k')))) := Lib.hid ⟨k + 1, L2, hlt, Nat.le_refl _, by go_num, htb2, Lib.hid (by rw [HTK.out]; exact T5.out.later (fresh_far k910))⟩
            clear HND1 HRG HCH T5 HTK HRT HNF5
            go_wp2_with fail
            go_roundg (n - (k + 1))
            case measure => omega
            case rel => exact HREL.out
        · obtain ⟨q, rfl, hq⟩ : ∃ q : Nat, ra = errA q ∧ q ≠ 0 := ⟨ra.err, HQ3.out h0, h0⟩
          · obtain rfl := HQ1.out h0
            clear HQ1 HQ2 HQ3 HCH h0
            have hans : ansC (errA q) A6 c6 A6' c6' = #[.int .i64 q, .int .i64 0, .int .i64 0, .int .i64 0, .slice A6 0 c6, .slice A6' 0 c6'] := rfl
            rw [hans]
            clear hans
            have z1 : ((q : Int) != 0) = true := bne_iff_ne.2 (by omega)
            have HSA : Hid (∀ wx, Calls Tryz.prog 12 #[.agg #[.int .i64 q, .int .i64 0, .int .i64 0, .int .i64 0, .slice A6 0 c6, .slice A6' 0 c6'], .agg #[.int .i64 q, .int .i64 0, .int .i64 0, .int .i64 0, .slice none 0 0, .slice none 0 0]] wx fun e w' => e = .returned (.bool true) ∧ KF wx w') :=
              Lib.hid fun wx => sameAnswer_one (errA q) A6 none A6' none c6 0 c6' 0 wx (Nat.zero_le _) (Nat.zero_le _) Rd.nil Strs.nil Rd.nil Strs.nil
            have HND1 := Lib.hid fun X => (T5.out.later ((KF.refl w5).alloc X)).nodes (by omega)
            rw [htb2] at HND1
            go_wp2_with fail
            refine (HND1.out _).mono ?_
            rintro e w7 ⟨A7, c7, rfl, hnf7, k7⟩
            have HSN := Lib.hid (T5.out.same_ (c := c7) (c' := c50) (by omega) hnf7.at_ ((HNF5.out.keep h45 (fresh_far k7) (fun _ h => h.elim)).at_ (Nat.le_trans h45 (fresh_far k7).size)))
            have lg : w5.heap.size < w7.heap.size := Nat.lt_of_lt_of_le (by simp) k7.size
            have HND2 := Lib.hid fun wx (kx : KF w7 wx) => (T5.out.later (KF.trans (fresh_far k7) kx)).nodes (by omega)
            rw [htb2] at HND2
            clear hnf7
            go_wp2_with fail
            refine HSN.out.mono ?_
            rintro e w8 ⟨rfl, k8⟩
            go_wp2_with fail
            refine (HND2.out _ k8).mono ?_
            rintro e w9 ⟨A9, c9, rfl, hnf9, k9⟩
            have HRG := Lib.hid (T5.out.right_ HRT.out (c := c9) (by omega) hnf9.at_)
            clear hnf9
            go_wp2_with fail
            refine HRG.out.mono ?_
            rintro e w10 ⟨rfl, k10⟩
            have k710 := KF.trans k8 (KF.trans k9 k10)
            have g0 := (k710.cell (p := ⟨w5.heap.size, 0, none⟩) lg).trans (fresh_cell k7 0 rfl)
            have g1 := (k710.cell (p := ⟨w5.heap.size, 1, none⟩) lg).trans (fresh_cell k7 1 rfl)
            have g2 := (k710.cell (p := ⟨w5.heap.size, 2, none⟩) lg).trans (fresh_cell k7 2 rfl)
            have g3 := (k710.cell (p := ⟨w5.heap.size, 3, none⟩) lg).trans (fresh_cell k7 3 rfl)
            have g4 := (k710.cell (p := ⟨w5.heap.size, 4, none⟩) lg).trans (fresh_cell k7 4 rfl)
            have g5 := (k710.cell (p := ⟨w5.heap.size, 5, none⟩) lg).trans (fresh_cell k7 5 rfl)
            have T10 := Lib.hid (T5.out.later (KF.trans (fresh_far k7) k710))
            clear HSN HND1 HND2 HRG T5 HRT HNF5
            go_wp2_with fail
            refine (HSA.out _).mono ?_
            rintro e w11 ⟨rfl, k11⟩
            have HREL : Hid (∃ (k' : Nat) (L : Lay), k' ≤ n ∧ n - k' ≤ n - (k + 1) ∧ Value.int .i64 (k + 1) = .int .i64 k' ∧ L.tb = tb ∧ Hid (St8 w w11 L (k' + 1) (doAll newT (cs.take k')))) := Lib.hid ⟨k + 1, L2, hlt, Nat.le_refl _, by go_num, htb2, Lib.hid (by rw [HTK.out]; exact T10.out.later k11)⟩
            clear HSA T10 HTK g0 g1 g2 g3 g4 g5
            go_wp2_with fail
            go_roundg (n - (k + 1))
            case measure => omega
            case rel => exact HREL.out
      · obtain rfl : k = n := by omega
        have hlt' : ¬ (k : Int) < (k : Int) := by omega
        have kS := S.out.kf
        clear S S3 HG HS HNEW HQ HR HSM HRT
        go_wp2_with fail
        go_ret
        exact ⟨rfl, kS⟩
  · go_wp2_with fail
    go_ret
    exact ⟨rfl, k12⟩
end Go.Proofs.YtlpjbgplimlcaaaGreatDoor
