/-
  TreeCounts, walked.
-/
import Derived.Test.YtlpjbgplimlcaaaGreatDoorSpeaks
import Derived.Test.YtlpjbgplimlcaaaGreatDoorCountsMath
import Derived.Deep.CutRange
import Derived.Deep.DeepCutAuto
namespace Go.Proofs.YtlpjbgplimlcaaaGreatDoor
open Go.RowKit Go.Maps

/-- The beginning of every law of the tree. -/
def callOf (kind : Int) (p : Txt) : TCall := ⟨kind, p, [], 0, 0, []⟩

theorem st_cell {w wr w2 : World} {L L2 : Lay} {N : Nat} {t : Tr} {r : TAns × Tr} {cs : Array Value} {ty : TypeId} (h : St8 w wr L N t) (S : Left w (wr.alloc (.cells cs ty)) L N t r w2 L2) (j : Nat) {v : Value} (hv : cs[j]? = some v) : w2.cell? ⟨wr.heap.size, j, none⟩ = some v := by
  have := (S.old (b := wr.heap.size) (by simp) (h.free (Nat.le_refl _))).2.2 j
  rw [this, World.cell?_alloc_mark]
  exact hv

/-- What a question about a path is answered. -/
theorem St8.ask {w wr : World} {L : Lay} {N : Nat} {t : Tr} (h : St8 w wr L N t) (hN : N ≤ 1000000) (kind : Int) (hk : reads kind = true) (p : Txt) (hp : p.length ≤ 300) (P : ByteArray) (hP : ba p = P) (b : Nat) (hc : wr.cell? ⟨b, 1, none⟩ = some (.string P)) (wx : World) (kx : KF wr wx) :
    Calls Tryz.prog 13 #[.pointer (some ⟨L.tb, 0, none⟩), .agg #[.int .i64 kind, .string P, .string ⟨#[]⟩, .int .i64 0, .int .i64 0, .slice none 0 0]] wx fun e w' =>
      ∃ A c A' c', e = .returned (.agg (ansC (doT t (callOf kind p)).1 A c A' c')) ∧ KF wr w' ∧ KF wx w' ∧ w'.cell? ⟨b, 1, none⟩ = some (.string P) := by
  subst hP
  refine ((h.later kx).doReads hN (callOf kind p) none 0 0 0 (CallIn.nil rfl (by show p.length ≤ _; omega) (by show (0:Nat) ≤ _; omega)) hk).mono ?_
  rintro e w' ⟨A, c, A', c', rfl, _, _, _, _, k⟩
  have kk := KF.trans kx k
  exact ⟨A, c, A', c', rfl, kk, k, (kk.cell (World.block_lt_of_cell? _ _ hc)).trans hc⟩

set_option maxRecDepth 100000 in
set_option maxHeartbeats 16000000 in
theorem counts_walk (A : Option Addr) (cs : List TCall) (n c : Nat) (w : World) (he : Env w) (hn : n = cs.length) (hr : CallsAt w w.heap.size A cs) :
    Calls Tryz.prog 7 #[.slice A n c] w fun e w' => e = .returned (.bool true) ∧ KF w w' := by
  have HS := Lib.hid (speaks_any w he)
  have HG := Lib.hid fun wr (k : KF w wr) => great_any A cs n c wr hn ((hr.keep k (Nat.le_refl _)).more k.size)
  have HN := Lib.hid hn
  have HR := Lib.hid hr
  clear hn hr
  go_enter Tryz.func7, Tryz.ntmps7
  go_wp2_with fail
  refine HS.out.mono ?_
  rintro e w1 ⟨rfl, k1⟩
  go_wp2_with fail
  refine (HG.out w1 k1).mono ?_
  rintro e w2 ⟨b, rfl, k2, hb⟩
  rcases b with _ | _
  · have HSM := Lib.hid (hb rfl)
    have k12 := KF.trans k1 k2
    have HNEW := Lib.hid (St8.new k12 he)
    have hn120 : n ≤ 120 := by rw [HN.out]; exact HSM.out.1
    clear hb
    go_wp2_with fail
    refine HNEW.out.mono ?_
    rintro e w3 ⟨L, rfl, S3, k3, _⟩
    have hLtb : L.tb = L.tb := rfl
    generalize hq : L.tb = tb at *
    have HQ := Lib.hid hq
    clear hq hLtb
    go_wp2_with fail
    go_loopg [20] n (fun g i wr => ∃ (k : Nat) (L : Lay), k ≤ n ∧ n - k ≤ g ∧ i = .int .i64 k ∧ L.tb = tb ∧ Hid (St8 w wr L (k + 1) (doAll newT (cs.take k))))
    case atStart => exact ⟨0, L, by omega, by omega, rfl, HQ.out, S3⟩
    case round =>
      obtain ⟨k, L1, hk, hg, rfl, hL1, S⟩ := hrel
      rcases Nat.lt_or_ge k n with hlt | hge
      · have hlt' : (k : Int) < (n : Int) := by omega
        have q1 : k < cs.length := by rw [← HN.out]; exact hlt
        have hat : cs[k]? = some cs[k] := List.getElem?_eq_getElem q1
        have hsm := HSM.out.2 _ (List.getElem_mem q1)
        obtain ⟨b, o, A1, c1, rfl, hb, hc, hrd⟩ := (HR.out.keep S.out.kf (Nat.le_refl _)) k _ hat
        have HTK := Lib.hid (show doAll newT (cs.take (k + 1)) = (doT (doAll newT (cs.take k)) cs[k]).2 by
          unfold doAll
          rw [List.take_succ_eq_append_getElem q1, List.foldl_append]
          rfl)
        generalize cs[k] = x at *
        generalize doAll newT (cs.take k) = t at *
        have c0 : wr.cell? ⟨b, o + k * 6, none⟩ = some (.int .i64 x.kind) := hc 0 _ rfl
        have c1' : wr.cell? ⟨b, o + k * 6 + 1, none⟩ = some (.string (ba x.path)) := hc 1 _ rfl
        have c2 : wr.cell? ⟨b, o + k * 6 + 2, none⟩ = some (.string (ba x.other)) := hc 2 _ rfl
        have c3 : wr.cell? ⟨b, o + k * 6 + 3, none⟩ = some (.int .i64 x.off) := hc 3 _ rfl
        have c4 : wr.cell? ⟨b, o + k * 6 + 4, none⟩ = some (.int .i64 x.n) := hc 4 _ rfl
        have c5 : wr.cell? ⟨b, o + k * 6 + 5, none⟩ = some (.slice A1 x.data.length c1) := hc 5 _ rfl
        have HDO : Hid (∀ X, Calls Tryz.prog 13 #[.pointer (some ⟨L1.tb, 0, none⟩), callV x A1 x.data.length c1] (wr.alloc X) _) := Lib.hid fun X =>
          (S.out.later ((KF.refl wr).alloc X)).do_ (by omega) x A1 x.data.length c1 ⟨rfl, ⟨by omega, by omega, by omega⟩, hrd.alloc S.out.kf.size X⟩ (fun a ha h0 => by
            obtain ⟨a', h1, h2⟩ := hrd.some_of h0
            rw [h1] at ha
            injection ha with ha
            rw [← ha]
            exact h2)
        rw [hL1] at HDO
        clear hc hrd hat
        go_wp2_with fail
        refine (HDO.out _).mono ?_
        rintro e w4 ⟨A2, c6, A2', c6', L2, rfl, _, _, S4⟩
        have kx := st_cell S.out S4.out 1 rfl
        have HST := Lib.hid (S4.out.st.ask (by omega) 10 rfl x.path hsm.1 (ba x.path) rfl wr.heap.size kx)
        have HLS := Lib.hid (S4.out.st.ask (by omega) 11 rfl x.path hsm.1 (ba x.path) rfl wr.heap.size kx)
        have htb : L2.tb = tb := S4.out.tb.trans hL1
        rw [htb] at HST HLS
        have e10 : (doT (doT t x).2 (callOf 10 x.path)).1 = (doStat (doT t x).2 x.path).1 := rfl
        have e11 : (doT (doT t x).2 (callOf 11 x.path)).1 = (doList (doT t x).2 x.path).1 := rfl
        rw [e10] at HST
        rw [e11] at HLS
        generalize hra : (doStat (doT t x).2 x.path).1 = ra at *
        generalize hrb : (doList (doT t x).2 x.path).1 = rb at *
        have HRA := Lib.hid hra
        have HRB := Lib.hid hrb
        generalize ba x.path = P at *
        clear hra hrb e10 e11
        have m4 : w4.heap.size ≠ wr.heap.size := World.new_ne w4 _ kx
        have m4b : w4.heap.size + 1 ≠ wr.heap.size := fun h => by have := World.block_lt_of_cell? _ _ kx; simp at this; omega
        go_upto_region 10 with fail
        go_cut [6, 7] (fun s6 s7 wx => ∃ (g1 g2 : Nat) (B4 : Option Addr) (d4 : Nat), s6 = .pointer (some ⟨g1, 0, none⟩) ∧ s7 = .pointer (some ⟨g2, 0, none⟩) ∧
          wx.cell? ⟨g1, 0, none⟩ = some (.int .i64 (ra.err : Int)) ∧ wx.cell? ⟨g1, 1, none⟩ = some (.int .i64 (ra.kind : Int)) ∧ wx.cell? ⟨g1, 2, none⟩ = some (.int .i64 (ra.size : Int)) ∧
          wx.cell? ⟨g2, 0, none⟩ = some (.int .i64 (rb.err : Int)) ∧ wx.cell? ⟨g2, 5, none⟩ = some (.slice B4 rb.names.length d4) ∧ KF w4 wx)
        case first =>
          go_region_held3 (fun w' => w'.cell? ⟨wr.heap.size, 1, none⟩ = some (.string P)) (go_keep)
            (first
              | (go_at_call_of 13 (Value.agg #[.int .i64 10, .string P, .string ⟨#[]⟩, .int .i64 0, .int .i64 0, .slice none 0 0]); refine (HST.out _ ?_).mono ?_; (first | exact (KF.refl _).drew | assumption | exact Keep.alloc (by assumption) _ | exact Keep.alloc (Keep.alloc (by assumption) _) _ | exact Keep.alloc (KF.refl _).drew _ | exact Keep.alloc (Keep.alloc (KF.refl _).drew _) _); rintro e w5 ⟨B1, d1, B2, d2, rfl, kA, kB, kC⟩; have m5 : w5.heap.size ≠ wr.heap.size := World.new_ne w5 _ kC; have m5b : w5.heap.size + 1 ≠ wr.heap.size := (fun h => by have := World.block_lt_of_cell? _ _ kC; (try simp at this); omega); have j5 := fun (p : Addr) hp => KF.cell kB (p := p) hp; have i5 := fun (p : Addr) hp => Keep.frozen kB (p := p) hp (fun h => h); (try have t5 : w4.heap.size < w5.heap.size := by (have := kB.size; (try simp at this); omega)); (try have t5b : w4.heap.size + 1 < w5.heap.size := by (have := kB.size; (try simp at this); omega)))
              | (go_at_call_of 13 (Value.agg #[.int .i64 11, .string P, .string ⟨#[]⟩, .int .i64 0, .int .i64 0, .slice none 0 0]); refine (HLS.out _ ?_).mono ?_; (first | exact (KF.refl _).drew | assumption | exact Keep.alloc (by assumption) _ | exact Keep.alloc (Keep.alloc (by assumption) _) _ | exact Keep.alloc (KF.refl _).drew _ | exact Keep.alloc (Keep.alloc (KF.refl _).drew _) _); rintro e w6 ⟨B3, d3, B4, d4, rfl, kD, kE, kF⟩; have m6 : w6.heap.size ≠ wr.heap.size := World.new_ne w6 _ kF; have m6b : w6.heap.size + 1 ≠ wr.heap.size := (fun h => by have := World.block_lt_of_cell? _ _ kF; (try simp at this); omega); have j6 := fun (p : Addr) hp => KF.cell kE (p := p) hp; have i6 := fun (p : Addr) hp => Keep.frozen kE (p := p) hp (fun h => h); (try have t6 : w4.heap.size < w6.heap.size := by (have := kE.size; (try simp at this); omega)); (try have t6b : w4.heap.size + 1 < w6.heap.size := by (have := kE.size; (try simp at this); omega)); (try have t6c : w5.heap.size < w6.heap.size := by (have := kE.size; (try simp at this); omega)); (try have t6d : w5.heap.size + 1 < w6.heap.size := by (have := kE.size; (try simp at this); omega))))
          all_goals (go_wp2_with fail)
          all_goals go_meet
          all_goals go_light
          all_goals clear HST HLS HDO HG HS HTK HRA HRB HN HSM HNEW HQ HR S S3 S4 c0 c1' c2 c3 c4 c5
          all_goals
            have s5 := kB.size
            have s6 := kE.size
            try simp at s5
            try simp at s6
            first | have a45 : w4.heap.size < w5.heap.size := by omega | have a45 : True := trivial
            first | have d45 : w4.heap.size ≤ w5.heap.size := by omega | have d45 : True := trivial
            first | have b45 : ¬ w4.heap.size = w5.heap.size := by omega | have b45 : True := trivial
            first | have c45 : ¬ w5.heap.size = w4.heap.size := by omega | have c45 : True := trivial
            first | have a45p : w4.heap.size + 1 < w5.heap.size := by omega | have a45p : True := trivial
            first | have d45p : w4.heap.size + 1 ≤ w5.heap.size := by omega | have d45p : True := trivial
            first | have b45p : ¬ w4.heap.size + 1 = w5.heap.size := by omega | have b45p : True := trivial
            first | have c45p : ¬ w5.heap.size = w4.heap.size + 1 := by omega | have c45p : True := trivial
            first | have a46 : w4.heap.size < w6.heap.size := by omega | have a46 : True := trivial
            first | have d46 : w4.heap.size ≤ w6.heap.size := by omega | have d46 : True := trivial
            first | have b46 : ¬ w4.heap.size = w6.heap.size := by omega | have b46 : True := trivial
            first | have c46 : ¬ w6.heap.size = w4.heap.size := by omega | have c46 : True := trivial
            first | have a46p : w4.heap.size + 1 < w6.heap.size := by omega | have a46p : True := trivial
            first | have d46p : w4.heap.size + 1 ≤ w6.heap.size := by omega | have d46p : True := trivial
            first | have b46p : ¬ w4.heap.size + 1 = w6.heap.size := by omega | have b46p : True := trivial
            first | have c46p : ¬ w6.heap.size = w4.heap.size + 1 := by omega | have c46p : True := trivial
            first | have a56 : w5.heap.size < w6.heap.size := by omega | have a56 : True := trivial
            first | have d56 : w5.heap.size ≤ w6.heap.size := by omega | have d56 : True := trivial
            first | have b56 : ¬ w5.heap.size = w6.heap.size := by omega | have b56 : True := trivial
            first | have c56 : ¬ w6.heap.size = w5.heap.size := by omega | have c56 : True := trivial
            first | have a56p : w5.heap.size + 1 < w6.heap.size := by omega | have a56p : True := trivial
            first | have d56p : w5.heap.size + 1 ≤ w6.heap.size := by omega | have d56p : True := trivial
            first | have b56p : ¬ w5.heap.size + 1 = w6.heap.size := by omega | have b56p : True := trivial
            first | have c56p : ¬ w6.heap.size = w5.heap.size + 1 := by omega | have c56p : True := trivial
            first | have a65 : w6.heap.size < w5.heap.size := by omega | have a65 : True := trivial
            first | have d65 : w6.heap.size ≤ w5.heap.size := by omega | have d65 : True := trivial
            first | have b65 : ¬ w6.heap.size = w5.heap.size := by omega | have b65 : True := trivial
            first | have c65 : ¬ w5.heap.size = w6.heap.size := by omega | have c65 : True := trivial
            first | have a65p : w6.heap.size + 1 < w5.heap.size := by omega | have a65p : True := trivial
            first | have d65p : w6.heap.size + 1 ≤ w5.heap.size := by omega | have d65p : True := trivial
            first | have b65p : ¬ w6.heap.size + 1 = w5.heap.size := by omega | have b65p : True := trivial
            first | have c65p : ¬ w5.heap.size = w6.heap.size + 1 := by omega | have c65p : True := trivial
            refine ⟨_, _, B4, d4, rfl, rfl, ?_, ?_, ?_, ?_, ?_, ?kf⟩
            case kf => repeat (first | with_reducible exact kD | with_reducible exact kA | with_reducible exact (KF.refl _).drew | with_reducible (refine Keep.setCell ?_ (.inl (by first | exact Nat.le_refl _ | exact Nat.le_succ _ | exact kA.size | exact kD.size | (simp; done) | (have h1 := kA.size; have h2 := kD.size; simp; omega))) _) | with_reducible (refine Keep.alloc ?_ _))
            all_goals simp (maxDischargeDepth := 8) [j5, j6, World.cell?_setCell_other, World.cell?_setCell_same', World.cell?_alloc_old, World.cell?_alloc_at, Nat.lt_succ_of_lt, a45, d45, b45, c45, a45p, d45p, b45p, c45p, a46, d46, b46, c46, a46p, d46p, b46p, c46p, a56, d56, b56, c56, a56p, d56p, b56p, c56p, a65, d65, b65, c65, a65p, d65p, b65p, c65p]
        case rest =>
          obtain ⟨g1, g2, B4, d4, rfl, rfl, a0, a1, a2, b0, b5, kc⟩ := hcut
          have T4 := S4.out.st.later kc
          have HREL : Hid (∃ (k' : Nat) (L : Lay), k' ≤ n ∧ n - k' ≤ n - (k + 1) ∧ Value.int .i64 (k + 1) = .int .i64 k' ∧ L.tb = tb ∧ Hid (St8 w wc L (k' + 1) (doAll newT (cs.take k')))) := Lib.hid ⟨k + 1, L2, hlt, Nat.le_refl _, by go_num, htb, Lib.hid (by rw [HTK.out]; exact T4)⟩
          have HQ2 := ask_two S4.out.st.good x.path
          rw [HRA.out, HRB.out] at HQ2
          clear HST HLS HDO HG HS HTK HRA HRB HSM HNEW HQ HR S S3 S4 T4 c0 c1' c2 c3 c4 c5 kc m4 m4b kx
          rcases HQ2 with ⟨q, hq, rfl, rfl⟩ | ⟨h1, h2, h3, h4⟩ | ⟨h1, h2, h3⟩
          · have a0' : wc.cell? ⟨g1, 0, none⟩ = some (.int .i64 (q : Int)) := a0
            have b0' : wc.cell? ⟨g2, 0, none⟩ = some (.int .i64 (q : Int)) := b0
            have z1 : ((q : Int) == 0) = false := by simp; omega
            have z2 : ((q : Int) != 0) = true := by simp; omega
            clear a0 b0 a1 a2 b5 hq
            go_wp2_with fail
            go_roundg (n - (k + 1))
            case measure => omega
            case rel => exact HREL.out
          · rw [h1] at a0
            rw [h2] at a1
            rw [h3] at b0
            rw [h4] at b5
            have a0' : wc.cell? ⟨g1, 0, none⟩ = some (.int .i64 0) := a0
            have a1' : wc.cell? ⟨g1, 1, none⟩ = some (.int .i64 1) := a1
            have b0' : wc.cell? ⟨g2, 0, none⟩ = some (.int .i64 0) := b0
            clear a0 b0 a1 h1 h2 h3 h4
            go_wp2_with fail
            go_roundg (n - (k + 1))
            case measure => omega
            case rel => exact HREL.out
          · rw [h1] at a0
            rw [h2] at a1
            rw [h3] at b0
            have a0' : wc.cell? ⟨g1, 0, none⟩ = some (.int .i64 0) := a0
            have a1' : wc.cell? ⟨g1, 1, none⟩ = some (.int .i64 2) := a1
            have b0' : wc.cell? ⟨g2, 0, none⟩ = some (.int .i64 23) := b0
            clear a0 b0 a1 h1 h2 h3
            go_wp2_with fail
            go_roundg (n - (k + 1))
            case measure => omega
            case rel => exact HREL.out
      · obtain rfl : k = n := by omega
        have hlt' : ¬ (k : Int) < (k : Int) := by omega
        have HND := Lib.hid (S.out.nodes (by omega))
        rw [hL1] at HND
        have hN1 : k + 1 ≤ 1000000 := by omega
        have HM : Hid (∀ x ∈ nodesOf (doAll newT (cs.take k)), x.links ≤ 64000000 ∧ x.entries.length ≤ 64000000 ∧ x.data.length ≤ 512) := Lib.hid fun x hx => ⟨nodes_links S.out.tree S.out.good hN1 hx, nodes_ents S.out.tree S.out.good hN1 hx, nodes_data S.out.good hx⟩
        have HCN := Lib.hid (nodes_counted S.out.good)
        have HL64 : Hid ((nodesOf (doAll newT (cs.take k))).length ≤ 64) := Lib.hid (by unfold nodesOf; rw [List.length_map]; exact having_le _)
        have kS := S.out.kf
        clear S S3 HG HS HNEW HQ HR HSM
        generalize hns : nodesOf (doAll newT (cs.take k)) = ns at *
        unfold Nodes at HND
        rw [hns] at HND
        clear hns
        generalize hql : ns.length = q at *
        have HQL := Lib.hid hql
        clear hql
        go_wp2_with fail
        refine HND.out.mono ?_
        rintro e w5 ⟨A5, c5, rfl, hnf, k5⟩
        have HNF := Lib.hid hnf
        have kk := KF.trans kS k5
        clear hnf HND
        go_wp2_with fail
        go_loopg [8, 9, 90] q (fun g s8 s9 i wr => ∃ j : Nat, j ≤ q ∧ q - j ≤ g ∧ s8 = .int .i64 (sumK (·.links) ns j : Nat) ∧ s9 = .int .i64 (sumK (·.entries.length) ns j : Nat) ∧ i = .int .i64 j ∧ KF w5 wr)
        case atStart => exact ⟨0, by omega, by omega, by rw [sumK_zero]; rfl, by rw [sumK_zero]; rfl, rfl, KF.refl _⟩
        case round =>
          obtain ⟨j, hj, hg, rfl, rfl, rfl, kr⟩ := hrel
          have h64 := HL64.out
          have s1 := sumK_le (·.links) ns 64000000 (fun x hx => (HM.out x hx).1) j (by rw [HQL.out]; exact hj)
          have s2 := sumK_le (·.entries.length) ns 64000000 (fun x hx => (HM.out x hx).2.1) j (by rw [HQL.out]; exact hj)
          rcases Nat.lt_or_ge j q with hjq | hjq
          · have hjq' : (j : Int) < (q : Int) := by omega
            have q1 : j < ns.length := by rw [HQL.out]; exact hjq
            obtain ⟨b, o, A1, c1, A2, c2, rfl, _, _, hc, _⟩ := (HNF.out.keep kr (fun _ h => h.elim)) j _ (List.getElem?_eq_getElem q1)
            have E1 := Lib.hid (sumK_succ (·.links) q1)
            have E2 := Lib.hid (sumK_succ (·.entries.length) q1)
            obtain ⟨m1, m2, m3⟩ := HM.out _ (List.getElem_mem q1)
            generalize ns[j] = x at *
            have d0 : wr.cell? ⟨b, o + j * 5, none⟩ = some (.int .i64 x.number) := hc 0 _ rfl
            have d1 : wr.cell? ⟨b, o + j * 5 + 1, none⟩ = some (.int .i64 x.kind) := hc 1 _ rfl
            have d2 : wr.cell? ⟨b, o + j * 5 + 2, none⟩ = some (.int .i64 x.links) := hc 2 _ rfl
            have d3 : wr.cell? ⟨b, o + j * 5 + 3, none⟩ = some (.slice A1 x.data.length c1) := hc 3 _ rfl
            have d4 : wr.cell? ⟨b, o + j * 5 + 4, none⟩ = some (.slice A2 x.entries.length c2) := hc 4 _ rfl
            clear hc
            generalize sumK (·.links) ns j = a at *
            generalize sumK (·.entries.length) ns j = b' at *
            generalize x.links = lk at *
            generalize x.entries.length = le at *
            generalize x.data.length = ld at *
            have m3' : ¬ (512 : Int) < (ld : Int) := by omega
            have wa : IntKind.i64.wrap ((a : Int) + (lk : Int)) = (a : Int) + (lk : Int) := IntWalk.i64_in _ ⟨by omega, by omega⟩
            have wb : IntKind.i64.wrap ((b' : Int) + (le : Int)) = (b' : Int) + (le : Int) := IntWalk.i64_in _ ⟨by omega, by omega⟩
            go_wp2_with fail
            go_roundg (q - (j + 1))
            case measure => omega
            case rel =>
              refine ⟨j + 1, by omega, by omega, ?_, ?_, by go_num, kr.alloc _⟩
              · rw [E1.out]; simp
              · rw [E2.out]; simp
          · obtain rfl : j = q := by omega
            have hjq' : ¬ (j : Int) < (j : Int) := by omega
            have e1 := sumK_all (·.links) HQL.out.symm
            have e2 := sumK_all (·.entries.length) HQL.out.symm
            have e3 : sumK (·.links) ns j = sumK (·.entries.length) ns j + 1 := by rw [e1, e2]; exact HCN.out
            rw [e3]
            clear e1 e2 e3 s1
            generalize sumK (·.entries.length) ns j = b' at *
            have wb : IntKind.i64.wrap ((b' : Int) + 1) = (b' : Int) + 1 := IntWalk.i64_in _ ⟨by omega, by omega⟩
            have hle : (j : Int) ≤ 64 := by omega
            have hcast : ((b' + 1 : Nat) : Int) = (b' : Int) + 1 := by omega
            rw [hcast]
            clear hcast
            go_wp2_with fail
            go_ret
            exact ⟨rfl, KF.trans kk kr⟩
  · go_wp2_with fail
    go_ret
    exact ⟨rfl, KF.trans k1 k2⟩
end Go.Proofs.YtlpjbgplimlcaaaGreatDoor
