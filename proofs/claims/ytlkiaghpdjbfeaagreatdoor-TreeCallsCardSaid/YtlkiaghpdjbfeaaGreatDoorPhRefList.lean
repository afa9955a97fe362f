/-
  The reference's do: list.
-/
import Derived.Test.YtlkiaghpdjbfeaaGreatDoorPhRefRead
import Derived.Test.YtlkiaghpdjbfeaaGreatDoorPk1
namespace Go.Proofs.YtlkiaghpdjbfeaaGreatDoor
open Go.RowKit
variable {Zp : Nat → Prop}

theorem rlist_err {t : Tr} {s : Txt} {k : Nat} (h : find t s = .error k) : doList t s = (errA k, t) := by unfold doList; rw [h]
theorem rlist_file {t : Tr} {s : Txt} {a : Nat} (h : find t s = .ok a) (hk : (t a).kind ≠ 1) : doList t s = (errA 23, t) := by unfold doList; rw [h]; simp only [if_pos hk]
theorem rlist_dir {t : Tr} {s : Txt} {a : Nat} (h : find t s = .ok a) (hk : (t a).kind = 1) : doList t s = (⟨0, 0, 0, 0, [], (t a).entries.map (·.1)⟩, t) := by unfold doList; rw [h]; simp only [if_neg (show ¬ (t a).kind ≠ 1 from fun h => h hk)]
theorem rstT : St Tryz.prog 34 9 := ⟨Tryz.underlying34, (Tryz.prog.info? 9).get (by kernel_rfl), by kernel_rfl, by kernel_rfl, by kernel_rfl, by kernel_rfl⟩
theorem take_one {es : Row} {k : Nat} (h : k < es.length) : (es.take (k + 1)).map (fun e => ba e.1) = (es.take k).map (fun e => ba e.1) ++ [ba es[k].1] := by
  rw [List.take_succ_eq_append_getElem h, List.map_append]
  rfl
/-- What a list has come to: the names in block b + 2. -/
structure LN (b : Nat) (es : Row) (w3 wr : World) (k : Nat) (v : Value) : Prop where
  non : Six6 wr (b + 1 + 1) 36 (.int .i64 0) (.int .i64 0) (.int .i64 0) (.int .i64 0) (.slice none 0 0) v
  own : ∃ A n c, v = .slice A n c ∧ OwnT 9 wr v ((es.take k).map fun e => ba e.1) ∧ NB w3 v
  keep : Keep (fun i => i = b + 1 + 1) w3 wr
theorem OwnT.nil_ (E : TypeId) (w : World) : OwnT E w (.slice none 0 0) [] := by simpa [OwnT] using World.ownsRow_nil w 0 E 1
set_option maxRecDepth 100000 in
set_option maxHeartbeats 4000000 in
theorem rdo_list (w : World) (g : Nat) (t : Tr) (off n : Int) (s : ByteArray) (o d : Value) (h : RefAt Zp w g t) (G : Good t) (hb : Small t) (hs : s.size ≤ 1000) :
    Calls Tryz.prog 27 #[.pointer (some ⟨g, 0, none⟩), .agg #[.int .i64 11, .string s, o, .int .i64 off, .int .i64 n, d]] w (RAns Zp g (doList t s.data.toList) w) := by
  have HT := Lib.hid h
  have HG := Lib.hid G
  have HSM := Lib.hid hb
  have HLT := Lib.hid h.lt
  have HU := Lib.hid fun W => rups_any s W hs
  have HF := Lib.hid fun W (s' : ByteArray) (k : KF w W) (hs' : s'.size ≤ 1000) => rfind_any s' W g t (h.kept k) G hb hs'
  have HSS := Lib.hid hs
  clear h G hb hs
  obtain ⟨b, hb⟩ : ∃ b, w.heap.size = b := ⟨_, rfl⟩
  obtain ⟨W, hW⟩ : ∃ W, (((w.alloc (.cells #[.int .i64 11, .string s, o, .int .i64 off, .int .i64 n, d] 31)).alloc (.cells #[.int .i64 0, .int .i64 0, .int .i64 0, .int .i64 0, .slice none 0 0, .slice none 0 0] 36)).alloc (.cells #[.int .i64 0, .int .i64 0, .int .i64 0, .int .i64 0, .slice none 0 0, .slice none 0 0] 36)) = W := ⟨_, rfl⟩
  have S := DoS.new w 11 off n (.string s) o d
  rw [hb, hW] at S
  have kW : KF w W := by rw [← hW]; exact (((KF.refl w).alloc _).alloc _).alloc _
  have HW := Lib.hid hW
  have HBB := Lib.hid hb
  have HS := Lib.hid S
  have HK := Lib.hid kW
  clear hb hW S kW
  go_enter Tryz.func27, Tryz.ntmps27
  go_upto_region 2 with fail
  rw [HW.out, HBB.out]
  have HLE : Hid (w.heap.size ≤ b ∧ g < b) := Lib.hid ⟨Nat.le_of_eq HBB.out, by have := HBB.out; have := HLT.out; omega⟩
  clear HW HBB
  obtain ⟨q0, q1, q2, q3, q4, q5⟩ := HS.out.call.cells
  go_wp2_with fail
  refine (HU.out W).mono ?_
  rintro e w1 ⟨A, X, k, rfl, hA, k1, _⟩
  have HS1 := Lib.hid (HS.out.kept k1 (fun h => h) (fun h => h) (fun h => h))
  have K1 := Lib.hid (KF.trans HK.out k1)
  have HA := Lib.hid hA
  clear q0 q1 q2 q3 q4 q5 k1 hA HU HS HK
  obtain ⟨q0, q1, q2, q3, q4, q5⟩ := HS1.out.call.cells
  obtain ⟨bb, hbb⟩ : ∃ bb, ((k : Int) != 0) = bb := ⟨_, rfl⟩
  cases bb
  all_goals
    go_wp2_with fail
    refine (HF.out w1 s K1.out HSS.out).mono ?_
    rintro e w2 ⟨k2, ⟨kk, hk, hk0, rfl⟩ | ⟨a, ha, hka, rfl⟩⟩
    · have HS2 := Lib.hid (HS1.out.kept k2 (fun h => h) (fun h => h) (fun h => h))
      have K2 := Lib.hid (KF.trans K1.out k2)
      have HD : Hid (doList t s.data.toList = (errA kk, t)) := Lib.hid (rlist_err hk)
      have hk0' : ((kk : Int) != 0) = true := by simp; omega
      clear q0 q1 q2 q3 q4 q5 k2 hk hk0 HS1 K1
      have FIN := Lib.hid (HS2.out.res.put (.int .i64 0) (.int .i64 0) (.int .i64 0) (.int .i64 0) (.slice none 0 0) (.slice none 0 0))
      obtain ⟨q0, q1, q2, q3, q4, q5⟩ := HS2.out.call.cells
      obtain ⟨r0, r1, r2, r3, r4, r5⟩ := HS2.out.res.cells
      obtain ⟨n0, n1, n2, n3, n4, n5⟩ := HS2.out.non.cells
      have z0 := HS2.out.res.free 0
      have z1 := HS2.out.res.free 1
      have z2 := HS2.out.res.free 2
      have z3 := HS2.out.res.free 3
      have z4 := HS2.out.res.free 4
      have z5 := HS2.out.res.free 5
      go_wp2_with fail
      obtain ⟨e1, e2⟩ := FIN.out
      obtain ⟨d0, d1, d2, d3, d4, d5⟩ := e1.cells
      clear FIN q0 q1 q2 q3 q4 q5 r0 r1 r2 r3 r4 r5 n0 n1 n2 n3 n4 n5 z0 z1 z2 z3 z4 z5
      refine bodyPost_ret (v := .tuple #[.agg zAns, .int .i64 (kk : Int)]) (by simp [results, Tryz.results27, go_sem, d0, d1, d2, d3, d4, d5, zAns]) rfl ?_
      have hle := HLE.out
      rw [HD.out]
      have kE := Keep.trans K2.out e2 (fun i hi (h : i = b + 1) => by omega)
      exact RDid.ans ⟨rfl, Keep.mono kE (fun _ _ h => h.elim), HT.out.kept kE⟩ ⟨rfl, rfl, rfl, rfl, rfl⟩
    · have HS2 := Lib.hid (HS1.out.kept k2 (fun h => h) (fun h => h) (fun h => h))
      have K2 := Lib.hid (KF.trans K1.out k2)
      have HE := Lib.hid ha
      have ha64 := HG.out.lt hka
      have ha64' : (a : Int) < 64 := by omega
      have HKA := Lib.hid hka
      clear q0 q1 q2 q3 q4 q5 k2 ha hka HS1 K1
      go_wp2_with fail
      refine (HF.out w2 A K2.out HA.out).mono ?_
      have HQ : ∀ e w3, Finds t A.data.toList w2 e w3 → ∃ z0 z1 : Int, e = .returned (.tuple #[.int .i64 z0, .int .i64 z1]) ∧ KF w2 w3 := by
        rintro e w3 ⟨k3, ⟨kk, _, _, rfl⟩ | ⟨a', _, _, rfl⟩⟩
        · exact ⟨_, _, rfl, k3⟩
        · exact ⟨_, _, rfl, k3⟩
      intro e w3 he
      obtain ⟨z0', z1', rfl, k3⟩ := HQ e w3 he
      have HS3 := Lib.hid (HS2.out.kept k3 (fun h => h) (fun h => h) (fun h => h))
      have K3 := Lib.hid (KF.trans K2.out k3)
      have r := (HT.out.kept K3.out).node a ha64
      have c1 := r.kind
      clear he HQ k3 HS2 K2 HF
      rcases HG.out.two HKA.out with h1 | h2
      · have HD : Hid (doList t s.data.toList = (⟨0, 0, 0, 0, [], (t a).entries.map (·.1)⟩, t)) := Lib.hid (rlist_dir HE.out h1)
        rw [h1] at c1
        clear h1 r
        obtain ⟨A4, x4, c4w, _, _, hents, hne⟩ := (HT.out.node a ha64).ents
        have c4 := (KF.cell K3.out (p := ⟨g, a * 5 + 4, none⟩) HLT.out).trans c4w
        have hb6 := HSM.out a
        have HEN := Lib.hid hents
        have HNE := Lib.hid hne
        clear hents hne
        obtain ⟨es, hes⟩ : ∃ es, (t a).entries = es := ⟨_, rfl⟩
        rw [hes] at HD HEN c4 hb6 c4w
        obtain ⟨len, hlen⟩ : ∃ len, es.length = len := ⟨_, rfl⟩
        rw [hlen] at c4 hb6 c4w
        have HL := Lib.hid hlen
        have HNON : Hid (LN b es w3 w3 0 (.slice none 0 0)) := Lib.hid ⟨HS3.out.non, ⟨none, 0, 0, rfl, OwnT.nil_ _ _, NB.nil _⟩, Keep.refl _ _⟩
        have HC4 := Lib.hid c4w
        clear hlen hes HE HKA c4w
        obtain ⟨q0, q1, q2, q3, q4, q5⟩ := HS3.out.call.cells
        go_upto_region 69 with fail
        go_wp2_with fail
        go_loopg [26] len (fun gh i wr => ∃ (k : Nat) (v : Value), k ≤ len ∧ len - k ≤ gh ∧ i = .int .i64 k ∧ Hid (LN b es w3 wr k v))
        case atStart => exact ⟨0, _, by omega, by omega, rfl, HNON⟩
        case round =>
          obtain ⟨k, v, hk, hgk, rfl, HN⟩ := hrel
          obtain ⟨Av, nv, cv, rfl, hown, hnb⟩ := HN.out.own
          have HNB := Lib.hid hnb
          have HSZ : Hid (b + 1 + 1 < w3.heap.size) := Lib.hid HS3.out.non.lt
          have k25 := HN.out.non.cells.2.2.2.2.2
          have KWR : Hid (KF w wr) := Lib.hid (Keep.trans K3.out HN.out.keep (fun i hi (h : i = b + 1 + 1) => by have := HLE.out; omega))
          have c4r : wr.cell? ⟨g, a * 5 + 4, none⟩ = some (.slice A4 len x4) := (KF.cell KWR.out (p := ⟨g, a * 5 + 4, none⟩) HLT.out).trans HC4.out
          clear hnb
          rcases Nat.lt_or_ge k len with hlt | hge
          · have hlt' : (k : Int) < (len : Int) := by omega
            have hk2 : k < es.length := by rw [HL.out]; exact hlt
            obtain ⟨eb, eo, rfl, heb, n0, n1⟩ := (HEN.out.keep (Nat.le_refl _) KWR.out (fun _ _ h => h)).at_ hk2
            have HTM := Lib.hid (take_one hk2)
            obtain ⟨sx, hsx⟩ : ∃ sx, ba es[k].1 = sx := ⟨_, rfl⟩
            rw [hsx] at n0 HTM
            obtain ⟨pre, hpre⟩ : ∃ pre, (es.take k).map (fun e => ba e.1) = pre := ⟨_, rfl⟩
            have hpl : pre.length ≤ k := by rw [← hpre, List.length_map]; exact List.length_take_le _ _
            rw [hpre] at HTM hown
            have HO := Lib.hid hown
            have hwv : ∀ kk, (Value.slice Av nv cv).ownBlock = some kk → b + 1 + 1 < kk := fun kk e => Nat.lt_of_lt_of_le HSZ.out (HNB.out kk e)
            have HG : Hid (∀ X W9, ((wr.alloc X).drew).grownBy W9 (Value.slice Av nv cv).ownBlock → Six6 W9 (b + 1 + 1) 36 (.int .i64 0) (.int .i64 0) (.int .i64 0) (.int .i64 0) (.slice none 0 0) (.slice Av nv cv) ∧ W9.cell? ⟨b + 1 + 1, 5, none⟩ = some (.slice Av nv cv) ∧ W9.frozen? ⟨b + 1 + 1, 5, none⟩ = false) := Lib.hid fun X W9 hg => by
              have S9 := HN.out.non.kept ((((Keep.refl (fun i => (Value.slice Av nv cv).ownBlock = some i) wr).alloc X).drew).grown hg (fun i e _ => e)) (fun e => by have := hwv _ e; omega)
              exact ⟨S9, S9.cells.2.2.2.2.2, S9.free 5⟩
            have FIN : Hid (∀ X W9 A9 n9 c9, ((wr.alloc X).drew).grownBy W9 (Value.slice Av nv cv).ownBlock → OwnT 9 W9 (.slice A9 n9 c9) (pre ++ [sx]) → ((Value.slice A9 n9 c9).ownBlock = (Value.slice Av nv cv).ownBlock ∨ (Value.slice A9 n9 c9).ownBlock = some (wr.alloc X).heap.size) → LN b es w3 (W9.setCell ⟨b + 1 + 1, 5, none⟩ (.slice A9 n9 c9)) (k + 1) (.slice A9 n9 c9)) := Lib.hid fun X W9 A9 n9 c9 hg o9 f9 => by
              have nb9 : NB w3 (.slice A9 n9 c9) := HNB.out.next (Nat.le_trans (Keep.size HN.out.keep) (by simp)) f9
              refine ⟨Go.heap_setCell_same _ _ _ _ _ _ (HG.out X W9 hg).1, ⟨A9, n9, c9, rfl, ?_, nb9⟩, ?_⟩
              · rw [HTM.out]
                exact o9.kept ((Keep.refl (fun i => i = b + 1 + 1) W9).setCell (.inr rfl) _) (fun kk e h => by have := nb9 kk e; have := HSZ.out; omega)
              · exact (((HN.out.keep.alloc X).drew).own hg HNB.out).setCell (.inr rfl) _
            have k25a : (wr.alloc (.cells #[.string sx] 9)).cell? ⟨b + 1 + 1, 5, none⟩ = some (.slice Av nv cv) := (World.cell?_alloc_lt wr _ ⟨b + 1 + 1, 5, none⟩ HN.out.non.lt).trans k25
            clear n1 hpre hsx hwv hown hk2 heb
            go_upto_region 71 with fail
            go_region_law (first
              | (refine step_append_str _ rfl _ _ _ rfl rstT (.slice Av nv cv) pre rfl ((HO.out.alloc _).drew) (wr.heap.size + 1) (some ⟨wr.heap.size, 0, none⟩) 1 1 [sx] rfl rfl (strs_one wr sx 9) (by simp; omega) ?_; intro A9 n9 c9 w9 o9 e9 h9 m9 g9 f9; obtain ⟨_, s9, t9⟩ := HG.out _ _ g9)
              | (go_simp; go_wp2_with fail))
            all_goals
              go_wp2_with fail
              go_roundg (len - (k + 1))
              case measure => omega
              case rel => exact ⟨k + 1, .slice A9 n9 c9, by omega, by omega, by go_num, Lib.hid (FIN.out _ _ _ _ _ g9 o9 f9)⟩
          · obtain rfl : k = len := by omega
            have hlt' : ¬ (k : Int) < (k : Int) := by omega
            have HRS := HS3.out.res.kept HN.out.keep (show ¬ b + 1 = b + 1 + 1 by omega)
            have HO := Lib.hid hown
            have FIN := Lib.hid (HRS.put (.int .i64 0) (.int .i64 0) (.int .i64 0) (.int .i64 0) (.slice none 0 0) (.slice Av nv cv))
            obtain ⟨r0, r1, r2, r3, r4, r5⟩ := HRS.cells
            obtain ⟨n0, n1, n2, n3, n4, n5⟩ := HN.out.non.cells
            have z0 := HRS.free 0
            have z1 := HRS.free 1
            have z2 := HRS.free 2
            have z3 := HRS.free 3
            have z4 := HRS.free 4
            have z5 := HRS.free 5
            clear HRS hown k25
            go_wp2_with fail
            obtain ⟨e1, e2⟩ := FIN.out
            obtain ⟨d0, d1, d2, d3, d4, d5⟩ := e1.cells
            refine bodyPost_ret (v := .tuple #[.agg #[.int .i64 0, .int .i64 0, .int .i64 0, .int .i64 0, .slice none 0 0, .slice Av nv cv], .int .i64 0]) (by simp [results, Tryz.results27, go_sem, d0, d1, d2, d3, d4, d5]) rfl ?_
            have hle := HLE.out
            rw [HD.out]
            have kE := Keep.trans KWR.out e2 (fun i hi (h : i = b + 1) => by omega)
            have o9 := HO.out.kept e2 (fun kk e (h : kk = b + 1) => by have := HNB.out kk e; have := HSZ.out; omega)
            rw [← HL.out, List.take_length] at o9
            obtain ⟨A', c', ee, _, _, hst, _⟩ := o9.shape
            injection ee with ea eb ec
            subst ea
            exact ⟨none, 0, 0, _, nv, cv, rfl, ⟨rfl, by rw [eb]; simp, Rd.nil, by rw [List.map_map]; exact hst⟩, Keep.mono kE (fun _ _ h => h.elim), HT.out.kept kE, (fun _ h => nomatch h), fun ad had => (HT.out.kept K3.out).new _ (HNB.out ad.block (by rw [had]; rfl))⟩
      · have HD : Hid (doList t s.data.toList = (errA 23, t)) := Lib.hid (rlist_file HE.out (by rw [h2]; decide))
        rw [h2] at c1
        clear h2 r
        have FIN := Lib.hid (HS3.out.res.put (.int .i64 0) (.int .i64 0) (.int .i64 0) (.int .i64 0) (.slice none 0 0) (.slice none 0 0))
        obtain ⟨q0, q1, q2, q3, q4, q5⟩ := HS3.out.call.cells
        obtain ⟨r0, r1, r2, r3, r4, r5⟩ := HS3.out.res.cells
        obtain ⟨n0, n1, n2, n3, n4, n5⟩ := HS3.out.non.cells
        have z0 := HS3.out.res.free 0
        have z1 := HS3.out.res.free 1
        have z2 := HS3.out.res.free 2
        have z3 := HS3.out.res.free 3
        have z4 := HS3.out.res.free 4
        have z5 := HS3.out.res.free 5
        go_wp2_with fail
        obtain ⟨e1, e2⟩ := FIN.out
        obtain ⟨d0, d1, d2, d3, d4, d5⟩ := e1.cells
        clear FIN q0 q1 q2 q3 q4 q5 r0 r1 r2 r3 r4 r5 n0 n1 n2 n3 n4 n5 z0 z1 z2 z3 z4 z5
        refine bodyPost_ret (v := .tuple #[.agg zAns, .int .i64 23]) (by simp [results, Tryz.results27, go_sem, d0, d1, d2, d3, d4, d5, zAns]) rfl ?_
        have hle := HLE.out
        rw [HD.out]
        have kE := Keep.trans K3.out e2 (fun i hi (h : i = b + 1) => by omega)
        exact RDid.ans ⟨rfl, Keep.mono kE (fun _ _ h => h.elim), HT.out.kept kE⟩ ⟨rfl, rfl, rfl, rfl, rfl⟩
end Go.Proofs.YtlkiaghpdjbfeaaGreatDoor
