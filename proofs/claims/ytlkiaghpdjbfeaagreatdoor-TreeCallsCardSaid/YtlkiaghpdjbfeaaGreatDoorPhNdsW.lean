/-
  The program's Nodes, walked.
-/
import Derived.Test.YtlkiaghpdjbfeaaGreatDoorPk5
namespace Go.Proofs.YtlkiaghpdjbfeaaGreatDoor
open Go.RowKit Go.Maps Go.Sort

/-- What the program's Nodes answers. -/
def Nodes (t : Tr) (w : World) (e : Ending) (w' : World) : Prop := ∃ A c, e = .returned (.slice A (nodesOf t).length c) ∧ NodesFrom w' w.heap.size A (nodesOf t) ∧ KF w w'

theorem bytes_other {w w' : World} {cs : List Value} {v v1 : Value} {l : Txt} {n : Nat} (ho : Own 5 w v1 l) (hv : OwnNd w v n cs) (hk : Keep (fun b => v.ownBlock = some b) w w') : Own 5 w' v1 l := ho.kept hk fun b hb hb' => by
  obtain ⟨cur, hh⟩ := own_heap ho hb
  obtain ⟨cur', hh'⟩ := hv.heap hb'
  rw [hh] at hh'
  injection hh' with hh'
  injection hh' with _ hh'
  exact absurd hh' (by decide)
theorem ents_other {w w' : World} {cs : List Value} {v v1 : Value} {es : Row} {n : Nat} (he : OwnE 64 w v1 es) (hv : OwnNd w v n cs) (hk : Keep (fun b => v.ownBlock = some b) w w') : OwnE 64 w' v1 es := he.kept hk fun b hb hb' => by
  obtain ⟨cur, hh⟩ := he.heap hb
  obtain ⟨cur', hh'⟩ := hv.heap hb'
  rw [hh] at hh'
  injection hh' with hh'
  injection hh' with _ hh'
  exact absurd hh' (by decide)
theorem HasNode.kept {w0 w w' : World} {cs ds : List Value} {k : Nat} {x : NodeV} {v : Value} {n : Nat} (h : HasNode w0 w cs k x) (hv : OwnNd w v n cs) (hk : Keep (fun b => v.ownBlock = some b) w w') : HasNode w0 w' (cs ++ ds) k x := by
  obtain ⟨A1, c1, A2, c2, hc, ho, he, h1, h2⟩ := h
  refine ⟨A1, c1, A2, c2, fun j u hj => ?_, bytes_other ho hv hk, ents_other he hv hk, h1, h2⟩
  have := hc j u hj
  rw [List.getElem?_append_left]
  · exact this
  · rcases Nat.lt_or_ge (k * 5 + j) cs.length with h | h
    · exact h
    · rw [List.getElem?_eq_none h] at this; cases this
theorem HasNode.new {w0 wr w5 w6 w4 : World} {X : Obj} {cs : List Value} {v : Value} {k n ld es : Nat} {t : Tr} {A1 A2 : Option Addr} {c1 c2 : Nat} (hv : OwnNd wr v k cs) (k6 : KF wr w6) (k56 : KF w5 w6) (h0 : w0.heap.size ≤ wr.heap.size) (g4 : (w6.alloc X).grownBy w4 v.ownBlock)
    (hld : (t n).data.length = ld) (hes : (t n).entries.length = es) (h1 : Own 5 w5 (.slice A1 ld c1) (t n).data ∧ NB wr (.slice A1 ld c1)) (h2 : OwnE 64 w6 (.slice A2 es c2) (t n).entries ∧ NB wr (.slice A2 es c2)) :
    HasNode w0 w4 (cs ++ [.int .i64 (n : Int), .int .i64 ((t n).kind : Int), .int .i64 ((t n).links : Int), .slice A1 ld c1, .slice A2 es c2]) k (nodeV t n) := by
  subst hld hes
  have hv6 : OwnNd w6 v k cs := hv.kept k6 fun _ _ h => h
  have hk : Keep (fun b => v.ownBlock = some b) w6 w4 := Keep.grown ((Keep.refl _ w6).alloc X) g4 fun _ h _ => h
  refine ⟨A1, c1, A2, c2, fun j u hj => ?_, bytes_other (h1.1.kept k56 fun _ _ h => h) hv6 hk, ents_other h2.1 hv6 hk, h1.2.older h0, h2.2.older h0⟩
  rw [List.getElem?_append_right (by rw [hv.1]; omega), hv.1, Nat.add_sub_cancel_left]
  exact hj
theorem Keep.row {wr w6 w4 : World} {X : Obj} {v : Value} (k6 : KF wr w6) (g4 : (w6.alloc X).grownBy w4 v.ownBlock) : Keep (fun b => v.ownBlock = some b) wr w4 :=
  Keep.grown ((k6.keep (S := fun b => v.ownBlock = some b)).alloc X) g4 fun _ h _ => h

set_option maxRecDepth 100000 in
set_option maxHeartbeats 8000000 in
theorem nodes_any (w : World) (L : Lay) (N : Nat) (t : Tr) (hT : TreeAt w L N t) (g : Good t) (hN : N ≤ 1000000) :
    Calls Tryz.prog 14 #[.pointer (some ⟨L.tb, 0, none⟩)] w (Nodes t w) := by
  have HT := Lib.hid hT
  have HG := Lib.hid g
  have ct := hT.cell_tree
  have HK := Lib.hid (intKeys_any (some L.mb) w)
  have HS := Lib.hid (hT.sorted_nodes g)
  have hq64 := having_le t
  clear hT g
  go_enter Tryz.func14, Tryz.ntmps14
  go_wp2_with fail
  refine HK.out.mono ?_
  rintro e w2 ⟨rfl, rfl⟩
  go_wp2_with fail
  refine HS.out.mono ?_
  rintro e w3 ⟨A, c, rfl, hst, k3⟩
  have HST := Lib.hid hst
  clear hst
  generalize hq : (having t).length = q at *
  have HQ := Lib.hid hq
  clear hq
  go_wp2_with fail
  go_loopg [3, 14] q (fun g s3 i wr => ∃ (k n' c' : Nat) (A' : Option Addr) (cs : List Value), k ≤ q ∧ q - k ≤ g ∧ s3 = .slice A' n' c' ∧ i = .int .i64 k ∧ OwnNd wr (.slice A' n' c') k cs ∧ NB w3 (.slice A' n' c') ∧ KF w3 wr ∧
    Hid (∀ j n, j < k → (having t)[j]? = some n → HasNode w wr cs j (nodeV t n)))
  case atStart => exact ⟨0, 0, 0, none, [], by omega, by omega, rfl, rfl, ⟨rfl, .inl ⟨rfl, rfl⟩⟩, NB.nil _, KF.refl _, Lib.hid fun j n hj => absurd hj (Nat.not_lt_zero _)⟩
  case round =>
    obtain ⟨k, n', c', A', cs, hk, hg, rfl, rfl, ho, hnb, kr, HH⟩ := hrel
    rcases Nat.lt_or_ge k q with hlt | hge
    · have hlt' : (k : Int) < (q : Int) := by omega
      have q1 : k < (having t).length := by rw [HQ.out]; exact hlt
      have hat : (having t)[k]? = some (having t)[k] := List.getElem?_eq_getElem q1
      have hmem := having_mem.1 (List.getElem_mem q1)
      generalize (having t)[k] = n at *
      obtain ⟨b, rfl, hbb, hcell0⟩ := HST.out k n hat
      have hcell := (kr.cell (p := ⟨b, k, none⟩) hbb).trans hcell0
      have T := HT.out.far (KF.trans k3 kr)
      have ctr := T.cell_tree
      have ln := T.look_yes (n := n) (by omega) hmem.2
      have ck := T.cell_kind hmem.2
      have cl := T.cell_links hmem.2
      have cd := T.cell_data hmem.2
      obtain ⟨A0, cc, hv, hlc, hcm, hrd, hob⟩ := (T.data n hmem.2).shape
      have hd512 : (t n).data.length ≤ 512 := by
        rcases HG.out.two hmem.2 with h | h
        · rw [(HG.out.dir n h).2]; simp
        · exact (HG.out.file n h).2
      rw [hv] at cd
      have HAT := Lib.hid hat
      have HMM := Lib.hid hmem
      have HTT := Lib.hid T
      have HCL : Hid (∀ wx, KF wr wx → Calls Tryz.prog 30 #[.slice A0 (t n).data.length cc] wx fun e w' => ∃ A1 c1, e = .returned (.slice A1 (t n).data.length c1) ∧
          w'.cell? ⟨L.nb n, 0, none⟩ = some (.int .i64 ((t n).kind : Int)) ∧ w'.cell? ⟨L.nb n, 1, none⟩ = some (.int .i64 ((t n).links : Int)) ∧ w'.cell? ⟨L.nb n, 3, none⟩ = some (.slice A0 (t n).data.length cc) ∧
          KF wr w' ∧ KF wx w' ∧ Hid (Own 5 w' (.slice A1 (t n).data.length c1) (t n).data ∧ NB wr (.slice A1 (t n).data.length c1))) := Lib.hid fun wx kx => by
        refine (clone_any A0 (t n).data _ cc wx rfl (by omega) wr.heap.size (hrd.keepF kx (Nat.le_refl _)) kx.size).mono ?_
        rintro e w' ⟨A1, c1, rfl, h1, h2, h3⟩
        have kk := KF.trans kx h3
        have Tw := HTT.out.far kk
        refine ⟨A1, c1, rfl, Tw.cell_kind HMM.out.2, Tw.cell_links HMM.out.2, ?_, kk, h3, Lib.hid ⟨h1, fun b hb => Nat.le_trans kx.size (h2 b hb)⟩⟩
        rw [Tw.cell_data HMM.out.2, hv]
      have HNL : Hid (∀ wx, KF wr wx → Calls Tryz.prog 31 #[.pointer (some ⟨L.nb n, 0, none⟩)] wx fun e w' => ∃ A2 c2, e = .returned (.slice A2 (t n).entries.length c2) ∧
          w'.cell? ⟨L.nb n, 0, none⟩ = some (.int .i64 ((t n).kind : Int)) ∧ w'.cell? ⟨L.nb n, 1, none⟩ = some (.int .i64 ((t n).links : Int)) ∧ w'.cell? ⟨L.nb n, 3, none⟩ = some (.slice A0 (t n).data.length cc) ∧
          KF wr w' ∧ KF wx w' ∧ Hid (OwnE 64 w' (.slice A2 (t n).entries.length c2) (t n).entries ∧ NB wr (.slice A2 (t n).entries.length c2))) := Lib.hid fun wx kx => by
        refine (nlist_any wx L N t n (HTT.out.far kx) HG.out HMM.out.2 hN).mono ?_
        rintro e w' ⟨A2, c2, rfl, h1, h2, h3⟩
        have kk := KF.trans kx h3
        have Tw := HTT.out.far kk
        refine ⟨A2, c2, rfl, Tw.cell_kind HMM.out.2, Tw.cell_links HMM.out.2, ?_, kk, h3, Lib.hid ⟨h1, h2.older kx.size⟩⟩
        rw [Tw.cell_data HMM.out.2, hv]
      have HCELL : Hid (∀ w6 X w4, KF wr w6 → (w6.alloc X).grownBy w4 (Value.slice A' n' c').ownBlock → KF w3 w4 ∧ w4.cell? ⟨L.nb n, 0, none⟩ = some (.int .i64 ((t n).kind : Int)) ∧ w4.cell? ⟨L.nb n, 1, none⟩ = some (.int .i64 ((t n).links : Int)) ∧ w4.cell? ⟨L.nb n, 3, none⟩ = some (.slice A0 (t n).data.length cc)) := Lib.hid fun w6 X w4 k6 g4 => by
        have kk : KF w3 w4 := Keep.own (Keep.alloc (KF.trans kr k6) X) g4 hnb
        have Tw := HT.out.far (KF.trans k3 kk)
        refine ⟨kk, Tw.cell_kind HMM.out.2, Tw.cell_links HMM.out.2, ?_⟩
        rw [Tw.cell_data HMM.out.2, hv]
      clear T hat hmem hob hrd hv HK HS
      generalize hld : (t n).data.length = ld at *
      generalize hes : (t n).entries.length = es at *
      have HLD := Lib.hid hld
      have HES := Lib.hid hes
      clear hld hes
      go_upto_region 6 with fail
      go_region_held3 (fun w' => w'.cell? ⟨L.nb n, 0, none⟩ = some (.int .i64 ((t n).kind : Int)) ∧ w'.cell? ⟨L.nb n, 1, none⟩ = some (.int .i64 ((t n).links : Int)) ∧ w'.cell? ⟨L.nb n, 3, none⟩ = some (.slice A0 ld cc)) (go_keep)
        (first
          | (go_at_call 30; refine (HCL.out _ ?_).mono ?_; (first | exact (KF.refl _).drew | assumption); rintro e w5 ⟨A1, c1, rfl, q0, q1, q3, kA, kB, HO1⟩)
          | (go_at_call 31; refine (HNL.out _ ?_).mono ?_; (first | exact (KF.refl _).drew | assumption); rintro e w6 ⟨A2, c2, rfl, r0, r1, r3, kC, kD, HO2⟩)
          | (refine step_append_node rfl _ _ rfl (.slice A' n' c') k cs rfl wr ho ?_ (by omega) _ 1 _ _ _ _ _ rfl (five_new _ _ _ _ _ _ _) ⟨rfl, rfl, rfl, rfl, rfl⟩ ?_; (first | exact Keep.alloc kC _ | exact Keep.alloc kA _); intro A4 n4 c4 w4 o4 g4 f4; (first | obtain ⟨k4, s0, s1, s3⟩ := HCELL.out _ _ _ kC g4 | obtain ⟨k4, s0, s1, s3⟩ := HCELL.out _ _ _ kA g4)))
      go_wp2_with fail
      go_roundg (q - (k + 1))
      case measure => omega
      case rel =>
        refine ⟨k + 1, n4, c4, A4, _, by omega, by omega, rfl, by go_num, o4, hnb.next (Nat.le_trans (Nat.le_trans kr.size kC.size) (by simp)) f4, k4, Lib.hid fun j m hj hm => ?_⟩
        rcases Nat.lt_or_ge j k with h | h
        · exact (HH.out j m h hm).kept ho (Keep.row kC g4)
        · obtain rfl : j = k := by omega
          have hmn : m = n := by
            have := HAT.out
            rw [hm] at this
            injection this
          subst hmn
          exact HasNode.new ho kC kD (KF.trans k3 kr).size g4 HLD.out HES.out HO1.out HO2.out
    · obtain rfl : k = q := by omega
      have hlt' : ¬ (k : Int) < (k : Int) := by omega
      go_wp2_with fail
      go_ret
      have hlen : (nodesOf t).length = k := by rw [← HQ.out]; unfold nodesOf; rw [List.length_map]
      have hsh : ∃ c1, (Value.slice A' n' c') = .slice A' k c1 ∧ ∀ g, (Value.slice A' n' c').ownBlock = some g → A' = some ⟨g, 0, none⟩ := by
        rcases ho.2 with ⟨e, h0⟩ | ⟨g, cap, cur, e, _⟩
        · injection e with e1 e2 e3
          exact ⟨c', by rw [e2, h0], fun g hg => by rw [e1] at hg; simp [Value.ownBlock] at hg⟩
        · injection e with e1 e2 e3
          exact ⟨c', by rw [e2], fun g' hg => by rw [e1] at hg ⊢; simp [Value.ownBlock] at hg; rw [hg]⟩
      obtain ⟨c1, e1, hA⟩ := hsh
      refine ⟨A', c1, by rw [e1, hlen]; rfl, fun j x hj => ?_, KF.trans k3 kr⟩
      have hj' : ∃ n, (having t)[j]? = some n ∧ nodeV t n = x := by
        unfold nodesOf at hj
        rw [List.getElem?_map, Option.map_eq_some_iff] at hj
        exact hj
      obtain ⟨n, hn, rfl⟩ := hj'
      have hjk : j < k := by
        rcases Nat.lt_or_ge j k with h | h
        · exact h
        · rw [List.getElem?_eq_none (by rw [HQ.out]; exact h)] at hn; cases hn
      obtain ⟨A1, c2, A2, c3, hc, h1, h2, h3, h4⟩ := HH.out j n hjk hn
      rcases ho.2 with ⟨e, h0⟩ | ⟨g, cap, cur, e, _, hh, _⟩
      · omega
      · have hb : (Value.slice A' n' c').ownBlock = some g := by rw [e]; rfl
        obtain rfl := hA g hb
        have hlo := hnb g hb
        refine ⟨g, 0, A1, c2, A2, c3, rfl, Nat.le_trans k3.size hlo, (Array.getElem?_eq_some_iff.1 hh).1, fun i u hi => ?_, h1.rd, ?_, fun a ha => h3 _ (by rw [ha]; rfl), fun a ha => h4 _ (by rw [ha]; rfl)⟩
        · have := World.ownsRow.cells (g := g) ho hb _ u (hc i u hi)
          rw [add_flat] at this
          rw [Nat.zero_add] at this ⊢
          exact this
        · obtain ⟨A3, c4, e3, _, _, hr3, _⟩ := h2.shape
          injection e3 with e3
          subst e3
          exact hr3
end Go.Proofs.YtlkiaghpdjbfeaaGreatDoor
