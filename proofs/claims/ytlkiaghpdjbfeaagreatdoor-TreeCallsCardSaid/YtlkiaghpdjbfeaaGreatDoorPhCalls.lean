/-
  TreeCalls, walked.
-/
import Derived.Test.YtlkiaghpdjbfeaaGreatDoorPk6
import Derived.Test.YtlkiaghpdjbfeaaGreatDoorPk5
import Derived.Test.YtlkiaghpdjbfeaaGreatDoorPk1
import Derived.Test.YtlkiaghpdjbfeaaGreatDoorPk3
import Derived.Deep.CutRange
import Derived.Deep.DeepCutAuto
import Derived.Deep.RegionHeld3
namespace Go.Proofs.YtlkiaghpdjbfeaaGreatDoor
open Go.RowKit Go.Maps

/-- The two trees between two calls. -/
structure Two (w X : World) (L : Lay) (N g : Nat) (t : Tr) : Prop where
  st : St8 w X L N t
  rf : RefAt (fun b => ¬ Foot L t b) X g t
  gl : w.heap.size ≤ g
theorem Two.call {w X X' : World} {L : Lay} {N g : Nat} {t : Tr} (h : Two w X L N g t) {x : TCall} {A1 : Option Addr} {c1 : Nat} (hX : X' = X.alloc (.cells #[.int .i64 x.kind, .string (ba x.path), .string (ba x.other), .int .i64 x.off, .int .i64 x.n, .slice A1 x.data.length c1] 31)) (hr : Rd X w.heap.size A1 x.data) (hs : x.path.length ≤ 300 ∧ x.other.length ≤ 300 ∧ x.data.length ≤ 600) :
    TwoC w X' L N g t t X.heap.size x A1 c1 := by
  have k : KF X X' := by rw [hX]; exact (KF.refl X).alloc _
  exact ⟨h.st.later k, h.rf.kept k, h.gl, h.st.good, by rw [hX]; exact heap_alloc_new X _, h.st.free (Nat.le_refl _), hr.keepF k h.st.kf.size, hs⟩
theorem TwoC.two {w X : World} {L : Lay} {N g : Nat} {t : Tr} {cb : Nat} {x : TCall} {A1 : Option Addr} {c1 : Nat} (h : TwoC w X L N g t t cb x A1 c1) : Two w X L N g t := ⟨h.st, h.rf, h.gl⟩
theorem Two.far {w X X' : World} {L : Lay} {N g : Nat} {t : Tr} (h : Two w X L N g t) (k : KF X X') : Two w X' L N g t := ⟨h.st.later k, h.rf.kept k, h.gl⟩
theorem Two.small {w X : World} {L : Lay} {N g : Nat} {t : Tr} (h : Two w X L N g t) (hN : N ≤ 1000000) : Small t := fun n => Nat.le_trans (h.st.tree.ents_le h.st.good n) hN
theorem Two.all {w X : World} {L : Lay} {N g : Nat} {t : Tr} (h : Two w X L N g t) : Calls Tryz.prog 15 #[.pointer (some ⟨g, 0, none⟩)] X (RAlls t X) := rall_any X g t h.rf
theorem Two.nodes {w X : World} {L : Lay} {N g : Nat} {t : Tr} (h : Two w X L N g t) (hN : N ≤ 1000000) : Calls Tryz.prog 14 #[.pointer (some ⟨L.tb, 0, none⟩)] X (RAlls t X) :=
  (h.st.nodes hN).mono fun _e _w' ⟨A, c, he, hf, k⟩ => ⟨A, _, c, he, rfl, hf.at_, k⟩
theorem Two.same {w X : World} {L : Lay} {N g : Nat} {t : Tr} (h : Two w X L N g t) (hN : N ≤ 1000000) {A A' : Option Addr} {n n' c c' : Nat} {Y : World} (hn : n = (nodesOf t).length) (hn' : n' = (nodesOf t).length) (h1 : NodesAt Y Y.heap.size A (nodesOf t)) (h2 : NodesAt Y Y.heap.size A' (nodesOf t)) :
    Calls Tryz.prog 13 #[.slice A n c, .slice A' n' c'] Y fun e w' => e = .returned (.bool true) ∧ KF Y w' := by
  subst hn'
  rw [hn]
  exact sameNodes_one A A' (nodesOf t) _ c c' Y rfl (by have := nodes_64 t; omega) (nodes_small h.st.tree h.st.good hN) h1 h2
theorem NodesAt.far {Y Y' : World} {A : Option Addr} {ns : List NodeV} (h : NodesAt Y Y.heap.size A ns) (k : KF Y Y') : NodesAt Y' Y'.heap.size A ns := fun j x hj => by
  obtain ⟨b, o, B1, d1, B2, d2, rfl, hb, h0, h1, h2, h3, h4, hr, he⟩ := h j x hj
  have c : ∀ i, Y'.cell? ⟨b, i, none⟩ = Y.cell? ⟨b, i, none⟩ := fun i => KF.cell k (p := ⟨b, i, none⟩) hb
  exact ⟨b, o, B1, d1, B2, d2, rfl, Nat.lt_of_lt_of_le hb k.size, (c _).trans h0, (c _).trans h1, (c _).trans h2, (c _).trans h3, (c _).trans h4, (hr.keepF k (Nat.le_refl _)).more k.size, (he.keep (Nat.le_refl _) k (fun _ _ h => h)).more k.size⟩
theorem same_ans {Y : World} {r : TAns} {A A1 B B1 : Option Addr} {c c1 d d1 : Nat} (hd : r.data.length ≤ 1000000) (hn : r.names.length ≤ 1000000) (h1 : Rd Y Y.heap.size A r.data) (h2 : Strs Y Y.heap.size B (r.names.map ba)) (h3 : Rd Y Y.heap.size A1 r.data) (h4 : Strs Y Y.heap.size B1 (r.names.map ba)) :
    Calls Tryz.prog 10 #[.agg #[.int .i64 (r.err : Int), .int .i64 (r.kind : Int), .int .i64 (r.size : Int), .int .i64 (r.links : Int), .slice A r.data.length c, .slice B r.names.length d], .agg #[.int .i64 (r.err : Int), .int .i64 (r.kind : Int), .int .i64 (r.size : Int), .int .i64 (r.links : Int), .slice A1 r.data.length c1, .slice B1 r.names.length d1]] Y fun e w' => e = .returned (.bool true) ∧ KF Y w' :=
  sameAnswer_one r A A1 B B1 c c1 d d1 Y hd hn h1 h2 h3 h4
/-- How much an answer holds. -/
theorem doT_small {w X : World} {L : Lay} {N g : Nat} {t : Tr} (h : Two w X L N g t) (hN : N ≤ 1000000) (x : TCall) : (doT t x).1.data.length ≤ 1000000 ∧ (doT t x).1.names.length ≤ 1000000 := by
  have hs := h.small hN
  have hd : ∀ a, (t a).data.length ≤ 1000000 := fun a => by
    by_cases hk : (t a).kind = 0
    · rw [h.st.good.void a hk]; decide
    · rcases h.st.good.two hk with h1 | h2
      · rw [(h.st.good.dir a h1).2]; decide
      · have := (h.st.good.file a h2).2; omega
  have bare : ∀ r : TAns, BareA r → r.data.length ≤ 1000000 ∧ r.names.length ≤ 1000000 := fun r hr => by rw [hr.2.2.2.1, hr.2.2.2.2]; decide
  refine doT_cases t x (fun r => r.1.data.length ≤ 1000000 ∧ r.1.names.length ≤ 1000000) (fun _ => bare _ (bare_make _ _ _)) (fun _ => bare _ (bare_rmdir _ _)) (fun _ => bare _ (bare_make _ _ _)) (fun _ => bare _ (bare_unlink _ _)) (fun _ => bare _ (bare_link _ _ _)) (fun _ => bare _ (bare_rename _ _ _)) (fun _ => bare _ (bare_write _ _ _ _)) (fun _ => ?_) (fun _ => bare _ (bare_cut _ _ _)) (fun _ => ?_) (fun _ => ?_) (fun _ => bare _ BareA.ok) (fun _ => bare _ (BareA.err 1))
  · unfold doRead
    split
    · exact bare _ (BareA.err _)
    · next a _ =>
      split
      · exact bare _ (BareA.err _)
      · refine ⟨?_, by show ([] : List Txt).length ≤ _; decide⟩
        show (((t a).data.drop x.off.toNat).take x.n.toNat).length ≤ _
        rw [List.length_take, List.length_drop]
        have := hd a
        omega
  · unfold doStat
    split
    · exact bare _ (BareA.err _)
    · exact ⟨by show ([] : Txt).length ≤ _; decide, by show ([] : List Txt).length ≤ _; decide⟩
  · unfold doList
    split
    · exact bare _ (BareA.err _)
    · next a _ =>
      split
      · exact bare _ (BareA.err _)
      · refine ⟨by show ([] : Txt).length ≤ _; decide, ?_⟩
        show ((t a).entries.map (·.1)).length ≤ _
        rw [List.length_map]
        exact hs a
/-- An answer's value. -/
abbrev ansE (r : TAns) (A : Option Addr) (c : Nat) (B : Option Addr) (d : Nat) : Value := .agg #[.int .i64 (r.err : Int), .int .i64 (r.kind : Int), .int .i64 (r.size : Int), .int .i64 (r.links : Int), .slice A r.data.length c, .slice B r.names.length d]
structure PD (w X w4 : World) (tb : Nat) (L : Lay) (N g : Nat) (t u : Tr) (cb : Nat) (x : TCall) (A1 : Option Addr) (c1 : Nat) (r : TAns × Tr) (A : Option Addr) (c : Nat) (B : Option Addr) (d : Nat) (L4 : Lay) : Prop where
  tb : L4.tb = tb
  two : TwoC w w4 L4 (N + 1) g r.2 u cb x A1 c1
  ans : AnsOut (fun i => i = g) w4 r.1 A c B d
  keep : Keep (Foot L t) X w4
structure RD (w X w4 : World) (L : Lay) (N g : Nat) (t : Tr) (cb : Nat) (x : TCall) (A1 : Option Addr) (c1 : Nat) (r : TAns × Tr) (A : Option Addr) (c : Nat) (B : Option Addr) (d : Nat) : Prop where
  two : TwoC w w4 L N g t r.2 cb x A1 c1
  ans : AnsOut (Foot L t) w4 r.1 A c B d
  keep : Keep (fun i => i = g) X w4
theorem TwoC.p1 {w X : World} {L : Lay} {N g : Nat} {t u : Tr} {cb : Nat} {x : TCall} {A1 : Option Addr} {c1 : Nat} {tb : Nat} {r : TAns × Tr} (h : TwoC w X L N g t u cb x A1 c1) (hN : N ≤ 1000000) (hL : L.tb = tb) (hr : doT t x = r) (Y : World) (ky : KF X Y) :
    Calls Tryz.prog 11 #[.pointer (some ⟨tb, 0, none⟩), .agg #[.int .i64 x.kind, .string (ba x.path), .string (ba x.other), .int .i64 x.off, .int .i64 x.n, .slice A1 x.data.length c1]] Y fun e w' =>
      ∃ A c B d L4, e = .returned (ansE r.1 A c B d) ∧ Hid (PD w X w' tb L N g t u cb x A1 c1 r A c B d L4) := by
  subst hL hr
  refine ((h.far ky).pdo hN).mono ?_
  rintro e w' ⟨A, c, B, d, L4, he, hh⟩
  exact ⟨A, c, B, d, L4, he, Lib.hid ⟨hh.out.1, hh.out.2.1, hh.out.2.2.1, Keep.trans (ky.mono (S' := Foot L t) (fun _ _ h => h.elim)) hh.out.2.2.2 (fun _ _ h => h)⟩⟩
theorem TwoC.r1 {w X : World} {L : Lay} {N g : Nat} {t u : Tr} {cb : Nat} {x : TCall} {A1 : Option Addr} {c1 : Nat} {r : TAns × Tr} (h : TwoC w X L N g t u cb x A1 c1) (hsm : Small u) (hr : doT u x = r) (Y : World) (ky : KF X Y) :
    Calls Tryz.prog 12 #[.pointer (some ⟨g, 0, none⟩), .agg #[.int .i64 x.kind, .string (ba x.path), .string (ba x.other), .int .i64 x.off, .int .i64 x.n, .slice A1 x.data.length c1]] Y fun e w' =>
      ∃ A c B d, e = .returned (ansE r.1 A c B d) ∧ Hid (RD w X w' L N g t cb x A1 c1 r A c B d) := by
  subst hr
  refine ((h.far ky).rdo hsm).mono ?_
  rintro e w' ⟨A, c, B, d, he, hh⟩
  exact ⟨A, c, B, d, he, Lib.hid ⟨hh.out.1, hh.out.2.1, Keep.trans (ky.mono (S' := fun i => i = g) (fun _ _ h => h.elim)) hh.out.2.2 (fun _ _ h => h)⟩⟩
/-- Both have done the call. -/
structure Fin2 (w w5 : World) (tb N g : Nat) (r : TAns × Tr) (A4 : Option Addr) (c4 : Nat) (B4 : Option Addr) (d4 : Nat) (A5 : Option Addr) (c5 : Nat) (B5 : Option Addr) (d5 : Nat) (L4 : Lay) : Prop where
  tb : L4.tb = tb
  two : Two w w5 L4 (N + 1) g r.2
  same : ∀ Y, KF w5 Y → Calls Tryz.prog 10 #[ansE r.1 A4 c4 B4 d4, ansE r.1 A5 c5 B5 d5] Y fun e w' => e = .returned (.bool true) ∧ KF Y w'
theorem fin_same {w5 : World} {S S' : Nat → Prop} {r : TAns} {A4 : Option Addr} {c4 : Nat} {B4 : Option Addr} {d4 : Nat} {A5 : Option Addr} {c5 : Nat} {B5 : Option Addr} {d5 : Nat} (hs : r.data.length ≤ 1000000 ∧ r.names.length ≤ 1000000) (h4 : AnsOut S w5 r A4 c4 B4 d4) (h5 : AnsOut S' w5 r A5 c5 B5 d5) (Y : World) (ky : KF w5 Y) :
    Calls Tryz.prog 10 #[ansE r A4 c4 B4 d4, ansE r A5 c5 B5 d5] Y fun e w' => e = .returned (.bool true) ∧ KF Y w' :=
  same_ans hs.1 hs.2 (h4.far ky).rd (h4.far ky).st (h5.far ky).rd (h5.far ky).st
theorem PD.then {w X w4 w5 : World} {tb : Nat} {L : Lay} {N g : Nat} {t : Tr} {cb : Nat} {x : TCall} {A1 : Option Addr} {c1 : Nat} {r : TAns × Tr} {A4 : Option Addr} {c4 : Nat} {B4 : Option Addr} {d4 : Nat} {L4 : Lay} {A5 : Option Addr} {c5 : Nat} {B5 : Option Addr} {d5 : Nat} (hs : r.1.data.length ≤ 1000000 ∧ r.1.names.length ≤ 1000000)
    (p : PD w X w4 tb L N g t t cb x A1 c1 r A4 c4 B4 d4 L4) (q : RD w w4 w5 L4 (N + 1) g r.2 cb x A1 c1 r A5 c5 B5 d5) : Fin2 w w5 tb N g r A4 c4 B4 d4 A5 c5 B5 d5 L4 :=
  ⟨p.tb, q.two.two, fun Y ky => fin_same hs (p.ans.kept q.keep) q.ans Y ky⟩
theorem RD.then {w X w4 w5 : World} {tb : Nat} {L : Lay} {N g : Nat} {t : Tr} {cb : Nat} {x : TCall} {A1 : Option Addr} {c1 : Nat} {r : TAns × Tr} {A4 : Option Addr} {c4 : Nat} {B4 : Option Addr} {d4 : Nat} {L4 : Lay} {A5 : Option Addr} {c5 : Nat} {B5 : Option Addr} {d5 : Nat} (hs : r.1.data.length ≤ 1000000 ∧ r.1.names.length ≤ 1000000)
    (q : RD w X w4 L N g t cb x A1 c1 r A5 c5 B5 d5) (p : PD w w4 w5 tb L N g t r.2 cb x A1 c1 r A4 c4 B4 d4 L4) : Fin2 w w5 tb N g r A4 c4 B4 d4 A5 c5 B5 d5 L4 :=
  ⟨p.tb, p.two.two, fun Y ky => fin_same hs p.ans (q.ans.kept p.keep) Y ky⟩
section
variable {w w5 : World} {tb N g : Nat} {r : TAns × Tr} {A4 : Option Addr} {c4 : Nat} {B4 : Option Addr} {d4 : Nat} {A5 : Option Addr} {c5 : Nat} {B5 : Option Addr} {d5 : Nat} {L4 : Lay}
theorem Fin2.nodes (h : Fin2 w w5 tb N g r A4 c4 B4 d4 A5 c5 B5 d5 L4) (hN : N + 1 ≤ 1000000) (Y : World) (ky : KF w5 Y) : Calls Tryz.prog 14 #[.pointer (some ⟨tb, 0, none⟩)] Y (RAlls r.2 Y) := by
  have := (h.two.far ky).nodes hN
  rwa [h.tb] at this
theorem Fin2.all (h : Fin2 w w5 tb N g r A4 c4 B4 d4 A5 c5 B5 d5 L4) (Y : World) (ky : KF w5 Y) : Calls Tryz.prog 15 #[.pointer (some ⟨g, 0, none⟩)] Y (RAlls r.2 Y) := (h.two.far ky).all
theorem Fin2.nsame (h : Fin2 w w5 tb N g r A4 c4 B4 d4 A5 c5 B5 d5 L4) (hN : N + 1 ≤ 1000000) {A A' : Option Addr} {n n' c c' : Nat} {Y : World} (hn : n = (nodesOf r.2).length) (hn' : n' = (nodesOf r.2).length) (h1 : NodesAt Y Y.heap.size A (nodesOf r.2)) (h2 : NodesAt Y Y.heap.size A' (nodesOf r.2)) :
    Calls Tryz.prog 13 #[.slice A n c, .slice A' n' c'] Y fun e w' => e = .returned (.bool true) ∧ KF Y w' := h.two.same hN hn hn' h1 h2
end
set_option maxRecDepth 100000 in
set_option maxHeartbeats 16000000 in
theorem calls_walk (A : Option Addr) (cs : List TCall) (n c : Nat) (w : World) (he : Env w) (hn : n = cs.length) (hr : CallsAt w w.heap.size A cs) :
    Calls Tryz.prog 3 #[.slice A n c] w fun e w' => e = .returned (.bool true) ∧ KF w w' := by
  have HS := Lib.hid (speaks_any w he)
  have HG := Lib.hid fun wr (k : KF w wr) => great_any A cs n c wr hn ((hr.keep k (Nat.le_refl _)).more k.size)
  have HN := Lib.hid hn
  have HR := Lib.hid hr
  clear hn hr
  go_enter Tryz.func3, Tryz.ntmps3
  go_wp2_with fail
  refine HS.out.mono ?_
  rintro e w1 ⟨rfl, k1⟩
  go_wp2_with fail
  refine (HG.out w1 k1).mono ?_
  rintro e w2 ⟨b, rfl, k2, hb⟩
  have k12 := KF.trans k1 k2
  rcases b with _ | _
  · have HSM := Lib.hid (hb rfl)
    have HNEW := Lib.hid (St8.new k12 he)
    have hn120 : n ≤ 120 := by rw [HN.out]; exact HSM.out.1
    clear hb
    go_wp2_with fail
    refine HNEW.out.mono ?_
    rintro e w3 ⟨L, rfl, S3, k3, _⟩
    have HNR := Lib.hid (rnew_any (Zp := fun b => ¬ Foot L newT b) w3 (fun b hb => S3.out.free hb))
    have HK3 := Lib.hid k3
    clear HNEW k3
    have hLtb : L.tb = L.tb := rfl
    generalize hq : L.tb = tb at *
    have HQ := Lib.hid hq
    clear hq hLtb
    go_wp2_with fail
    refine HNR.out.mono ?_
    rintro e w4 ⟨gr, rfl, hg, k4, R4⟩
    have HTW : Hid (Two w w4 L 1 gr newT) := Lib.hid ⟨S3.out.later k4, R4, Nat.le_trans HK3.out.size hg⟩
    clear HNR S3 k4 R4 hg
    go_wp2_with fail
    go_loopg [15] n (fun gh i wr => ∃ (k : Nat) (L : Lay), k ≤ n ∧ n - k ≤ gh ∧ i = .int .i64 k ∧ L.tb = tb ∧ Hid (Two w wr L (k + 1) gr (doAll newT (cs.take k))))
    case atStart => exact ⟨0, L, by omega, by omega, rfl, HQ.out, HTW⟩
    case round =>
      obtain ⟨k, L1, hk, hgk, rfl, hL1, S⟩ := hrel
      rcases Nat.lt_or_ge k n with hlt | hge
      · have hlt' : (k : Int) < (n : Int) := by omega
        have q1 : k < cs.length := by rw [← HN.out]; exact hlt
        have hat : cs[k]? = some cs[k] := List.getElem?_eq_getElem q1
        have hsm := HSM.out.2 _ (List.getElem_mem q1)
        obtain ⟨b, o, A1, c1, rfl, hb, hc, hrd⟩ := (HR.out.keep S.out.st.kf (Nat.le_refl _)) k _ hat
        have HTK := Lib.hid (show doAll newT (cs.take (k + 1)) = (doT (doAll newT (cs.take k)) cs[k]).2 by
          unfold doAll
          rw [List.take_succ_eq_append_getElem q1, List.foldl_append]
          rfl)
        generalize cs[k] = x at *
        generalize doAll newT (cs.take k) = t at *
        have c0 : wr.cell? ⟨b, o + k * 6, none⟩ = some (.int .i64 x.kind) := hc 0 _ rfl
        have c1' : wr.cell? ⟨b, o + k * 6 + 1, none⟩ = some (.string (ba x.path)) := hc 1 _ rfl
        have c2 : wr.cell? ⟨b, o + k * 6 + 2, none⟩ = some (.string (ba x.other)) := hc 2 _ rfl
        have c3 : wr.cell? ⟨b, o + k * 6 + 3, none⟩ = some (.int .i64 x.off) := hc 3 _ rfl
        have c4 : wr.cell? ⟨b, o + k * 6 + 4, none⟩ = some (.int .i64 x.n) := hc 4 _ rfl
        have c5 : wr.cell? ⟨b, o + k * 6 + 5, none⟩ = some (.slice A1 x.data.length c1) := hc 5 _ rfl
        obtain ⟨W, hW⟩ : ∃ W, wr.alloc (.cells #[.int .i64 x.kind, .string (ba x.path), .string (ba x.other), .int .i64 x.off, .int .i64 x.n, .slice A1 x.data.length c1] 31) = W := ⟨_, rfl⟩
        obtain ⟨cb, hcb⟩ : ∃ cb, wr.heap.size = cb := ⟨_, rfl⟩
        have TC := S.out.call (x := x) (A1 := A1) (c1 := c1) hW.symm hrd hsm
        rw [hcb] at TC
        have HT0 := Lib.hid TC
        have HDS := Lib.hid (doT_small S.out (by omega) x)
        have HSMT := Lib.hid (S.out.small (by omega))
        have HW := Lib.hid hW
        have HCB := Lib.hid hcb
        have hN : k + 1 ≤ 1000000 := by omega
        clear hW hcb TC hat hrd hc hsm HG HS HSM
        go_upto_region 9 with fail
        rw [HW.out, HCB.out]
        clear HW HCB c0 c1' c2 c3 c4 c5 S HTW HR
        have HCL := Lib.hid fun Y (ky : KF W Y) => (HT0.out.far ky).cells
        obtain ⟨r, hr⟩ : ∃ r, doT t x = r := ⟨_, rfl⟩
        rw [hr] at HTK HDS
        have HP1 := Lib.hid fun Y (ky : KF W Y) => HT0.out.p1 hN hL1 hr Y ky
        have HR1 := Lib.hid fun Y (ky : KF W Y) => HT0.out.r1 HSMT.out hr Y ky
        have HP2 := Lib.hid fun X0 (h : TwoC w X0 L1 (k + 1) gr t r.2 cb x A1 c1) Y (ky : KF X0 Y) => h.p1 hN hL1 hr Y ky
        have HR2 := Lib.hid fun X0 L4 (h : TwoC w X0 L4 (k + 1 + 1) gr r.2 t cb x A1 c1) Y (ky : KF X0 Y) => h.r1 HSMT.out hr Y ky
        have HCC := Lib.hid fun Y L4 (v u : Tr) (N' : Nat) (h : TwoC w Y L4 N' gr v u cb x A1 c1) => h.cells
        have HCH := Lib.hid fun wx => changes_any x.kind wx
        have hch : changes x.kind = (decide (1 ≤ x.kind) && decide (x.kind ≤ 9) && decide (x.kind ≠ 8)) := by
          unfold changes
          rw [Bool.eq_iff_iff]
          simp only [Bool.and_eq_true, decide_eq_true_eq]
          omega
        clear HT0 hr HSMT
        generalize hP : ba x.path = P at *
        generalize hO : ba x.other = O at *
        clear hP hO
        generalize x.data.length = xl at *
        have hN2 : k + 1 + 1 ≤ 1000000 := by omega
        go_cut [53] (fun s wx => s = .bool false ∧ ∃ L', L'.tb = tb ∧ Hid (Two w wx L' (k + 1 + 1) gr r.2))
        case first =>
          obtain ⟨cg, hcg⟩ : ∃ cg, changes x.kind = cg := ⟨_, rfl⟩
          rw [hcg] at HCH hch
          clear hcg
          by_cases y1 : 1 ≤ x.kind
          · have z1 : decide (1 ≤ x.kind) = true := decide_eq_true y1
            by_cases y2 : x.kind ≤ 9
            · have z2 : decide (x.kind ≤ 9) = true := decide_eq_true y2
              by_cases y3 : x.kind = 8
              · have z3 : (x.kind != 8) = false := by rw [y3]; rfl
                have z4 : decide (x.kind ≠ 8) = false := decide_eq_false (fun h => h y3)
                rw [z1, z2, z4] at hch
                clear y1 y2 y3 z4
                obtain rfl : cg = false := hch
                go_region_held3 (fun Y => Y.cell? ⟨cb, 0, none⟩ = some (.int .i64 x.kind) ∧ Y.cell? ⟨cb, 1, none⟩ = some (.string P) ∧ Y.cell? ⟨cb, 2, none⟩ = some (.string O) ∧ Y.cell? ⟨cb, 3, none⟩ = some (.int .i64 x.off) ∧ Y.cell? ⟨cb, 4, none⟩ = some (.int .i64 x.n) ∧ Y.cell? ⟨cb, 5, none⟩ = some (.slice A1 xl c1))
                  (first | exact hS | exact HCL.out _ (KF.refl _) | exact HCL.out _ (KF.refl _).drew)
                  (first
                    | (go_at_call 11; refine (HP1.out _ ?_).mono ?_; (first | exact KF.refl _ | exact (KF.refl _).drew); rintro e w4 ⟨A4, c4, B4, d4, L4, rfl, hp4⟩; have hS := HCC.out _ _ _ _ _ hp4.out.two)
                    | (go_at_call 12; refine (HR2.out _ _ hp4.out.two _ ?_).mono ?_; (first | exact KF.refl _ | exact (KF.refl _).drew); rintro e w5 ⟨A5, c5, B5, d5, rfl, hr5⟩; have hT5 := Lib.hid hr5.out.two; have HF := Lib.hid (hp4.out.then HDS.out hr5.out); have hS := HCC.out _ _ _ _ _ hT5.out)
                    | (go_at_call 12; refine (HR1.out _ ?_).mono ?_; (first | exact KF.refl _ | exact (KF.refl _).drew); rintro e w4 ⟨A5, c5, B5, d5, rfl, hr4⟩; have hS := HCC.out _ _ _ _ _ hr4.out.two)
                    | (go_at_call 11; refine (HP2.out _ hr4.out.two _ ?_).mono ?_; (first | exact KF.refl _ | exact (KF.refl _).drew); rintro e w5 ⟨A4, c4, B4, d4, L4, rfl, hp5⟩; have hT5 := Lib.hid hp5.out.two; have HF := Lib.hid (hr4.out.then HDS.out hp5.out); have hS := HCC.out _ _ _ _ _ hT5.out)
                    | (go_at_call 10; refine (HF.out.same _ ?_).mono ?_; (first | exact KF.refl _ | exact (KF.refl _).drew | assumption | exact Keep.drew (by assumption)); rintro e w6 ⟨rfl, k6⟩; have k56 : KF w5 w6 := KF.trans (by first | exact KF.refl _ | exact (KF.refl _).drew | assumption | exact Keep.drew (by assumption)) k6; have hS := HCC.out _ _ _ _ _ (hT5.out.far k56))
                    | (go_at_call 14; refine (HF.out.nodes hN2 _ ?_).mono ?_; (first | exact KF.refl _ | exact (KF.refl _).drew | assumption | exact Keep.drew (by assumption)); rintro e w7 ⟨A7, n7, c7, rfl, hn7, hN7, k7⟩; have k57 : KF w5 w7 := KF.trans (by first | exact KF.refl _ | exact (KF.refl _).drew | assumption | exact Keep.drew (by assumption)) k7; have hS := HCC.out _ _ _ _ _ (hT5.out.far k57); have HN7 := Lib.hid (And.intro hn7 hN7); clear hn7 hN7)
                    | (go_at_call 15; refine (HF.out.all _ ?_).mono ?_; (first | exact KF.refl _ | exact (KF.refl _).drew | assumption | exact Keep.drew (by assumption)); rintro e w8 ⟨A8, n8, c8, rfl, hn8, hN8, k8⟩; have k58 : KF w5 w8 := KF.trans (by first | exact KF.refl _ | exact (KF.refl _).drew | assumption | exact Keep.drew (by assumption)) k8; have hS := HCC.out _ _ _ _ _ (hT5.out.far k58); have HN8 := Lib.hid (And.intro hn8 hN8); clear hn8 hN8)
                    | (go_at_call 13; refine (HF.out.nsame hN2 HN7.out.1 HN8.out.1 ?_ ?_).mono ?_; (first | exact HN7.out.2 | exact HN7.out.2.far k8 | exact HN7.out.2.far (KF.trans ((KF.refl _).drew) k8)); (first | exact HN8.out.2 | exact HN8.out.2.far k7 | exact HN8.out.2.far (KF.trans ((KF.refl _).drew) k7)); rintro e w9 ⟨rfl, k9⟩; have k59 : KF w5 w9 := KF.trans (by first | exact KF.refl _ | exact (KF.refl _).drew | assumption | exact Keep.drew (by assumption)) k9; have hS := HCC.out _ _ _ _ _ (hT5.out.far k59))
                    | (go_at_call 16; refine (HCH.out _).mono ?_; rintro e wz ⟨rfl, rfl⟩))
                all_goals (go_wp2_with fail)
                all_goals go_meet
                all_goals exact ⟨rfl, L4, HF.out.tb, Lib.hid (HF.out.two.far k59)⟩
              · have z3 : (x.kind != 8) = true := bne_iff_ne.2 y3
                have z4 : decide (x.kind ≠ 8) = true := decide_eq_true y3
                rw [z1, z2, z4] at hch
                clear y1 y2 y3 z4
                obtain rfl : cg = true := hch
                go_region_held3 (fun Y => Y.cell? ⟨cb, 0, none⟩ = some (.int .i64 x.kind) ∧ Y.cell? ⟨cb, 1, none⟩ = some (.string P) ∧ Y.cell? ⟨cb, 2, none⟩ = some (.string O) ∧ Y.cell? ⟨cb, 3, none⟩ = some (.int .i64 x.off) ∧ Y.cell? ⟨cb, 4, none⟩ = some (.int .i64 x.n) ∧ Y.cell? ⟨cb, 5, none⟩ = some (.slice A1 xl c1))
                  (first | exact hS | exact HCL.out _ (KF.refl _) | exact HCL.out _ (KF.refl _).drew)
                  (first
                    | (go_at_call 11; refine (HP1.out _ ?_).mono ?_; (first | exact KF.refl _ | exact (KF.refl _).drew); rintro e w4 ⟨A4, c4, B4, d4, L4, rfl, hp4⟩; have hS := HCC.out _ _ _ _ _ hp4.out.two)
                    | (go_at_call 12; refine (HR2.out _ _ hp4.out.two _ ?_).mono ?_; (first | exact KF.refl _ | exact (KF.refl _).drew); rintro e w5 ⟨A5, c5, B5, d5, rfl, hr5⟩; have hT5 := Lib.hid hr5.out.two; have HF := Lib.hid (hp4.out.then HDS.out hr5.out); have hS := HCC.out _ _ _ _ _ hT5.out)
                    | (go_at_call 12; refine (HR1.out _ ?_).mono ?_; (first | exact KF.refl _ | exact (KF.refl _).drew); rintro e w4 ⟨A5, c5, B5, d5, rfl, hr4⟩; have hS := HCC.out _ _ _ _ _ hr4.out.two)
                    | (go_at_call 11; refine (HP2.out _ hr4.out.two _ ?_).mono ?_; (first | exact KF.refl _ | exact (KF.refl _).drew); rintro e w5 ⟨A4, c4, B4, d4, L4, rfl, hp5⟩; have hT5 := Lib.hid hp5.out.two; have HF := Lib.hid (hr4.out.then HDS.out hp5.out); have hS := HCC.out _ _ _ _ _ hT5.out)
                    | (go_at_call 10; refine (HF.out.same _ ?_).mono ?_; (first | exact KF.refl _ | exact (KF.refl _).drew | assumption | exact Keep.drew (by assumption)); rintro e w6 ⟨rfl, k6⟩; have k56 : KF w5 w6 := KF.trans (by first | exact KF.refl _ | exact (KF.refl _).drew | assumption | exact Keep.drew (by assumption)) k6; have hS := HCC.out _ _ _ _ _ (hT5.out.far k56))
                    | (go_at_call 14; refine (HF.out.nodes hN2 _ ?_).mono ?_; (first | exact KF.refl _ | exact (KF.refl _).drew | assumption | exact Keep.drew (by assumption)); rintro e w7 ⟨A7, n7, c7, rfl, hn7, hN7, k7⟩; have k57 : KF w5 w7 := KF.trans (by first | exact KF.refl _ | exact (KF.refl _).drew | assumption | exact Keep.drew (by assumption)) k7; have hS := HCC.out _ _ _ _ _ (hT5.out.far k57); have HN7 := Lib.hid (And.intro hn7 hN7); clear hn7 hN7)
                    | (go_at_call 15; refine (HF.out.all _ ?_).mono ?_; (first | exact KF.refl _ | exact (KF.refl _).drew | assumption | exact Keep.drew (by assumption)); rintro e w8 ⟨A8, n8, c8, rfl, hn8, hN8, k8⟩; have k58 : KF w5 w8 := KF.trans (by first | exact KF.refl _ | exact (KF.refl _).drew | assumption | exact Keep.drew (by assumption)) k8; have hS := HCC.out _ _ _ _ _ (hT5.out.far k58); have HN8 := Lib.hid (And.intro hn8 hN8); clear hn8 hN8)
                    | (go_at_call 13; refine (HF.out.nsame hN2 HN7.out.1 HN8.out.1 ?_ ?_).mono ?_; (first | exact HN7.out.2 | exact HN7.out.2.far k8 | exact HN7.out.2.far (KF.trans ((KF.refl _).drew) k8)); (first | exact HN8.out.2 | exact HN8.out.2.far k7 | exact HN8.out.2.far (KF.trans ((KF.refl _).drew) k7)); rintro e w9 ⟨rfl, k9⟩; have k59 : KF w5 w9 := KF.trans (by first | exact KF.refl _ | exact (KF.refl _).drew | assumption | exact Keep.drew (by assumption)) k9; have hS := HCC.out _ _ _ _ _ (hT5.out.far k59))
                    | (go_at_call 16; refine (HCH.out _).mono ?_; rintro e wz ⟨rfl, rfl⟩))
                all_goals (go_wp2_with fail)
                all_goals go_meet
                all_goals exact ⟨rfl, L4, HF.out.tb, Lib.hid (HF.out.two.far k59)⟩
            · have z2 : decide (x.kind ≤ 9) = false := decide_eq_false y2
              rw [z1, z2] at hch
              clear y1 y2
              obtain rfl : cg = false := hch
              obtain ⟨o0, o1, o2, o3, o4, o5⟩ := HCL.out _ (KF.refl _).drew
              first
              | (go_region_with (first
                | (go_at_call 11; refine (HP1.out _ ?_).mono ?_; (first | exact KF.refl _ | exact (KF.refl _).drew); rintro e w4 ⟨A4, c4, B4, d4, L4, rfl, hp4⟩; obtain ⟨s0, s1, s2, s3, s4, s5⟩ := HCC.out _ _ _ _ _ hp4.out.two)
                | (go_at_call 12; refine (HR2.out _ _ hp4.out.two _ ?_).mono ?_; (first | exact KF.refl _ | exact (KF.refl _).drew); rintro e w5 ⟨A5, c5, B5, d5, rfl, hr5⟩; have hT5 := Lib.hid hr5.out.two; have HF := Lib.hid (hp4.out.then HDS.out hr5.out); obtain ⟨s0, s1, s2, s3, s4, s5⟩ := HCC.out _ _ _ _ _ hT5.out)
                | (go_at_call 10; refine (HF.out.same _ ?_).mono ?_; (first | exact KF.refl _ | exact (KF.refl _).drew | assumption | exact Keep.drew (by assumption)); rintro e w6 ⟨rfl, k6⟩; have k56 : KF w5 w6 := KF.trans (by first | exact KF.refl _ | exact (KF.refl _).drew | assumption | exact Keep.drew (by assumption)) k6; obtain ⟨s0, s1, s2, s3, s4, s5⟩ := HCC.out _ _ _ _ _ (hT5.out.far k56))
                | (go_at_call 14; refine (HF.out.nodes hN2 _ ?_).mono ?_; (first | exact KF.refl _ | exact (KF.refl _).drew | assumption | exact Keep.drew (by assumption)); rintro e w7 ⟨A7, n7, c7, rfl, hn7, hN7, k7⟩; have k57 : KF w5 w7 := KF.trans (by first | exact KF.refl _ | exact (KF.refl _).drew | assumption | exact Keep.drew (by assumption)) k7; obtain ⟨s0, s1, s2, s3, s4, s5⟩ := HCC.out _ _ _ _ _ (hT5.out.far k57); have HN7 := Lib.hid (And.intro hn7 hN7); clear hn7 hN7)
                | (go_at_call 15; refine (HF.out.all _ ?_).mono ?_; (first | exact KF.refl _ | exact (KF.refl _).drew | assumption | exact Keep.drew (by assumption)); rintro e w8 ⟨A8, n8, c8, rfl, hn8, hN8, k8⟩; have k58 : KF w5 w8 := KF.trans (by first | exact KF.refl _ | exact (KF.refl _).drew | assumption | exact Keep.drew (by assumption)) k8; obtain ⟨s0, s1, s2, s3, s4, s5⟩ := HCC.out _ _ _ _ _ (hT5.out.far k58); have HN8 := Lib.hid (And.intro hn8 hN8); clear hn8 hN8)
                | (go_at_call 13; refine (HF.out.nsame hN2 HN7.out.1 HN8.out.1 ?_ ?_).mono ?_; (first | exact HN7.out.2 | exact HN7.out.2.far k8 | exact HN7.out.2.far (KF.trans ((KF.refl _).drew) k8)); (first | exact HN8.out.2 | exact HN8.out.2.far k7 | exact HN8.out.2.far (KF.trans ((KF.refl _).drew) k7)); rintro e w9 ⟨rfl, k9⟩; have k59 : KF w5 w9 := KF.trans (by first | exact KF.refl _ | exact (KF.refl _).drew | assumption | exact Keep.drew (by assumption)) k9; obtain ⟨s0, s1, s2, s3, s4, s5⟩ := HCC.out _ _ _ _ _ (hT5.out.far k59))
                | (go_at_call 16; refine (HCH.out _).mono ?_; rintro e wz ⟨rfl, rfl⟩)))
              | fail
              all_goals (go_wp2_with fail)
              all_goals go_meet
              all_goals exact ⟨rfl, L4, HF.out.tb, Lib.hid (HF.out.two.far k59)⟩
          · have z1 : decide (1 ≤ x.kind) = false := decide_eq_false y1
            rw [z1] at hch
            clear y1
            obtain rfl : cg = false := hch
            obtain ⟨o0, o1, o2, o3, o4, o5⟩ := HCL.out _ (KF.refl _).drew
            first
            | (go_region_with (first
                | (go_at_call 11; refine (HP1.out _ ?_).mono ?_; (first | exact KF.refl _ | exact (KF.refl _).drew); rintro e w4 ⟨A4, c4, B4, d4, L4, rfl, hp4⟩; obtain ⟨s0, s1, s2, s3, s4, s5⟩ := HCC.out _ _ _ _ _ hp4.out.two)
                | (go_at_call 12; refine (HR2.out _ _ hp4.out.two _ ?_).mono ?_; (first | exact KF.refl _ | exact (KF.refl _).drew); rintro e w5 ⟨A5, c5, B5, d5, rfl, hr5⟩; have hT5 := Lib.hid hr5.out.two; have HF := Lib.hid (hp4.out.then HDS.out hr5.out); obtain ⟨s0, s1, s2, s3, s4, s5⟩ := HCC.out _ _ _ _ _ hT5.out)
                | (go_at_call 10; refine (HF.out.same _ ?_).mono ?_; (first | exact KF.refl _ | exact (KF.refl _).drew | assumption | exact Keep.drew (by assumption)); rintro e w6 ⟨rfl, k6⟩; have k56 : KF w5 w6 := KF.trans (by first | exact KF.refl _ | exact (KF.refl _).drew | assumption | exact Keep.drew (by assumption)) k6; obtain ⟨s0, s1, s2, s3, s4, s5⟩ := HCC.out _ _ _ _ _ (hT5.out.far k56))
                | (go_at_call 14; refine (HF.out.nodes hN2 _ ?_).mono ?_; (first | exact KF.refl _ | exact (KF.refl _).drew | assumption | exact Keep.drew (by assumption)); rintro e w7 ⟨A7, n7, c7, rfl, hn7, hN7, k7⟩; have k57 : KF w5 w7 := KF.trans (by first | exact KF.refl _ | exact (KF.refl _).drew | assumption | exact Keep.drew (by assumption)) k7; obtain ⟨s0, s1, s2, s3, s4, s5⟩ := HCC.out _ _ _ _ _ (hT5.out.far k57); have HN7 := Lib.hid (And.intro hn7 hN7); clear hn7 hN7)
                | (go_at_call 15; refine (HF.out.all _ ?_).mono ?_; (first | exact KF.refl _ | exact (KF.refl _).drew | assumption | exact Keep.drew (by assumption)); rintro e w8 ⟨A8, n8, c8, rfl, hn8, hN8, k8⟩; have k58 : KF w5 w8 := KF.trans (by first | exact KF.refl _ | exact (KF.refl _).drew | assumption | exact Keep.drew (by assumption)) k8; obtain ⟨s0, s1, s2, s3, s4, s5⟩ := HCC.out _ _ _ _ _ (hT5.out.far k58); have HN8 := Lib.hid (And.intro hn8 hN8); clear hn8 hN8)
                | (go_at_call 13; refine (HF.out.nsame hN2 HN7.out.1 HN8.out.1 ?_ ?_).mono ?_; (first | exact HN7.out.2 | exact HN7.out.2.far k8 | exact HN7.out.2.far (KF.trans ((KF.refl _).drew) k8)); (first | exact HN8.out.2 | exact HN8.out.2.far k7 | exact HN8.out.2.far (KF.trans ((KF.refl _).drew) k7)); rintro e w9 ⟨rfl, k9⟩; have k59 : KF w5 w9 := KF.trans (by first | exact KF.refl _ | exact (KF.refl _).drew | assumption | exact Keep.drew (by assumption)) k9; obtain ⟨s0, s1, s2, s3, s4, s5⟩ := HCC.out _ _ _ _ _ (hT5.out.far k59))
                | (go_at_call 16; refine (HCH.out _).mono ?_; rintro e wz ⟨rfl, rfl⟩)))
            | fail
            all_goals (go_wp2_with fail)
            all_goals go_meet
            all_goals exact ⟨rfl, L4, HF.out.tb, Lib.hid (HF.out.two.far k59)⟩
        case rest =>
          obtain ⟨rfl, L2, htb2, T2⟩ := hcut
          have HREL : Hid (∃ (k' : Nat) (L : Lay), k' ≤ n ∧ n - k' ≤ n - (k + 1) ∧ Value.int .i64 (k + 1) = .int .i64 k' ∧ L.tb = tb ∧ Hid (Two w wc L (k' + 1) gr (doAll newT (cs.take k')))) := Lib.hid ⟨k + 1, L2, hlt, Nat.le_refl _, by go_num, htb2, by rw [HTK.out]; exact T2⟩
          clear HP1 HR1 HP2 HR2 HCH HTK T2 HCL HDS
          go_wp2_with fail
          go_roundg (n - (k + 1))
          case measure => omega
          case rel => exact HREL.out
      · obtain rfl : k = n := by omega
        have hlt' : ¬ (k : Int) < (k : Int) := by omega
        have kS := S.out.st.kf
        clear S HTW HG HS HQ HR HSM
        go_wp2_with fail
        go_ret
        exact ⟨rfl, kS⟩
  · go_wp2_with fail
    go_ret
    exact ⟨rfl, k12⟩
end Go.Proofs.YtlkiaghpdjbfeaaGreatDoor
