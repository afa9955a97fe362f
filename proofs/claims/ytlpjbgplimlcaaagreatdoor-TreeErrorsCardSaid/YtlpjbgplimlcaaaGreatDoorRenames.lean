/-
  TreeRenames, walked.
-/
import Derived.Test.YtlpjbgplimlcaaaGreatDoorCounts
import Derived.Test.YtlpjbgplimlcaaaGreatDoorAnswer
namespace Go.Proofs.YtlpjbgplimlcaaaGreatDoor
open Go.RowKit Go.Maps

def askOf (kind : Int) (P Q : ByteArray) : TCall := ⟨kind, P.data.toList, Q.data.toList, 0, 0, []⟩
theorem askOf_in {w : World} {kind : Int} {P Q : ByteArray} (hP : P.size ≤ 300) (hQ : Q.size ≤ 300) (B : Nat) : CallIn w B (askOf kind P Q) none 0 0 :=
  CallIn.nil rfl (by show P.data.toList.length ≤ _; rw [← size_len]; omega) (by show Q.data.toList.length ≤ _; rw [← size_len]; omega)
theorem askOf_val (kind : Int) (P Q : ByteArray) : callV (askOf kind P Q) none 0 0 = .agg #[.int .i64 kind, .string P, .string Q, .int .i64 0, .int .i64 0, .slice none 0 0] := by
  simp only [callV, callC, askOf, ba_data]
theorem St8.stat_ {w wr : World} {L : Lay} {N : Nat} {t : Tr} (h : St8 w wr L N t) (hN : N ≤ 1000000) (P : ByteArray) (hP : P.size ≤ 300) :
    Calls Tryz.prog 13 #[.pointer (some ⟨L.tb, 0, none⟩), .agg #[.int .i64 10, .string P, .string ⟨#[]⟩, .int .i64 0, .int .i64 0, .slice none 0 0]] wr (Ansd (doStat t P.data.toList).1 wr) := by
  have := h.doReads hN (askOf 10 P ⟨#[]⟩) none 0 0 wr.heap.size (askOf_in hP (by decide) _) rfl
  rw [askOf_val] at this
  exact this
theorem St8.rename_ {w wr : World} {L : Lay} {N : Nat} {t : Tr} (h : St8 w wr L N t) (hN : N ≤ 1000000) (P Q : ByteArray) (hP : P.size ≤ 300) (hQ : Q.size ≤ 300) :
    Calls Tryz.prog 13 #[.pointer (some ⟨L.tb, 0, none⟩), .agg #[.int .i64 6, .string P, .string Q, .int .i64 0, .int .i64 0, .slice none 0 0]] wr fun e w' =>
      ∃ A c A' c' L', e = .returned (.agg (ansC (doRename t P.data.toList Q.data.toList).1 A c A' c')) ∧ Hid (Left w wr L N t (doRename t P.data.toList Q.data.toList) w' L') := by
  have := h.do_ hN (askOf 6 P Q) none 0 0 (askOf_in hP hQ _) (fun a h => nomatch h)
  rw [askOf_val] at this
  refine this.mono ?_
  rintro e w' ⟨A, c, A', c', L', rfl, _, _, hl⟩
  exact ⟨A, c, A', c', L', rfl, hl⟩
/-- What stat tells has neither bytes nor names. -/
theorem stat_bare (t : Tr) (p : Txt) : (doStat t p).1.data = [] ∧ (doStat t p).1.names = [] := by
  unfold doStat
  split <;> exact ⟨rfl, rfl⟩
theorem rename_same {t : Tr} {p q : Txt} (h : (doRename t p q).1.err ≠ 0 ∨ p = q) : (doRename t p q).2 = t := by
  rcases h with h | rfl
  · exact doRename_err h
  · unfold doRename
    split
    · rfl
    · rw [if_pos rfl]
theorem nodes_kinds {t u : Tr} (h : ∀ m, (u m).kind = (t m).kind) : (nodesOf u).length = (nodesOf t).length := by
  unfold nodesOf having
  rw [List.length_map, List.length_map]
  congr 2
  funext n
  rw [h]
theorem nodes_small {w : World} {L : Lay} {N : Nat} {t : Tr} (h : TreeAt w L N t) (g : Good t) (hN : N ≤ 1000000) : ∀ x ∈ nodesOf t, x.data.length ≤ 1000000 ∧ x.entries.length ≤ 1000000 := fun x hx => by
  refine ⟨by have := nodes_data g hx; omega, ?_⟩
  unfold nodesOf at hx
  obtain ⟨n, hn, rfl⟩ := List.mem_map.1 hx
  have := h.ents_le g n
  show (t n).entries.length ≤ _
  omega
theorem nodes_64 (t : Tr) : (nodesOf t).length ≤ 64 := by unfold nodesOf; rw [List.length_map]; exact having_le _
/-- The nodes ns, from the address A on, in blocks from lo on and below hi. -/
def NodesIn (w : World) (lo hi : Nat) (A : Option Addr) (ns : List NodeV) : Prop :=
  ∀ j x, ns[j]? = some x → ∃ b o A1 c1 A2 c2, A = some ⟨b, o, none⟩ ∧ lo ≤ b ∧ b < hi ∧
    (∀ i u, (nodeCells x A1 c1 A2 c2)[i]? = some u → w.cell? ⟨b, o + j * 5 + i, none⟩ = some u) ∧ Rd w hi A1 x.data ∧ Ents w hi A2 x.entries ∧ (∀ a : Addr, A1 = some a → lo ≤ a.block) ∧ (∀ a : Addr, A2 = some a → lo ≤ a.block)
theorem NodesFrom.in_ {w : World} {lo : Nat} {A : Option Addr} {ns : List NodeV} (h : NodesFrom w lo A ns) : NodesIn w lo w.heap.size A ns := h
theorem NodesIn.at_ {w : World} {lo hi : Nat} {A : Option Addr} {ns : List NodeV} (h : NodesIn w lo hi A ns) (hh : hi ≤ w.heap.size) : NodesAt w w.heap.size A ns := fun j x hj => by
  obtain ⟨b, o, A1, c1, A2, c2, hA, hlo, hb, hc, hr, he, _, _⟩ := h j x hj
  have q0 := hc 0 _ rfl
  have q1 := hc 1 _ rfl
  have q2 := hc 2 _ rfl
  have q3 := hc 3 _ rfl
  have q4 := hc 4 _ rfl
  exact ⟨b, o, A1, c1, A2, c2, hA, Nat.lt_of_lt_of_le hb hh, q0, q1, q2, q3, q4, hr.more hh, he.more hh⟩
theorem NodesIn.keep {S : Nat → Prop} {w w' : World} {lo hi : Nat} {A : Option Addr} {ns : List NodeV} (h : NodesIn w lo hi A ns) (hh : hi ≤ w.heap.size) (k : Keep S w w') (hS : ∀ i, S i → i < lo ∨ hi ≤ i) : NodesIn w' lo hi A ns := fun j x hj => by
  obtain ⟨b, o, A1, c1, A2, c2, hA, hlo, hb, hc, hr, he, h1, h2⟩ := h j x hj
  have no : ∀ i, lo ≤ i → i < hi → ¬ S i := fun i hi h' hs => by have := hS i hs; omega
  refine ⟨b, o, A1, c1, A2, c2, hA, hlo, hb, fun i u hi => (Keep.cell k (Nat.lt_of_lt_of_le hb hh) (no b hlo hb)).trans (hc i u hi), fun j b hj => ?_, fun j e hj => ?_, h1, h2⟩
  · obtain ⟨a, rfl, hb, hc⟩ := hr j b hj
    exact ⟨a, rfl, hb, (k.cell (by rw [block_add]; omega) (by rw [block_add]; exact no _ (h1 a rfl) hb)).trans hc⟩
  · obtain ⟨b, o, rfl, hb, q1, q2⟩ := he j e hj
    have hn := no b (h2 _ rfl) hb
    exact ⟨b, o, rfl, hb, (k.cell (by show b < _; omega) hn).trans q1, (k.cell (by show b < _; omega) hn).trans q2⟩
/-- Two rows that Nodes gave of one tree are the same. -/
theorem St8.same_ {w wr w2 : World} {L : Lay} {N : Nat} {t : Tr} (h : St8 w wr L N t) (hN : N ≤ 1000000) {A A' : Option Addr} {c c' : Nat} (h1 : NodesAt w2 w2.heap.size A (nodesOf t)) (h2 : NodesAt w2 w2.heap.size A' (nodesOf t)) :
    Calls Tryz.prog 15 #[.slice A (nodesOf t).length c, .slice A' (nodesOf t).length c'] w2 fun e w' => e = .returned (.bool true) ∧ KF w2 w' :=
  sameNodes_one A A' (nodesOf t) _ c c' w2 rfl (by have := nodes_64 t; omega) (nodes_small h.tree h.good hN) h1 h2

theorem field_err (v0 v1 v2 v3 v4 v5 : Value) (w : World) : (Instr.field 36 (.agg #[v0, v1, v2, v3, v4, v5]) 0).run Tryz.prog w = .ok v0 w := by kernel_rfl

set_option maxRecDepth 100000 in
set_option maxHeartbeats 16000000 in
theorem renames_walk (A : Option Addr) (cs : List TCall) (n c : Nat) (s o : ByteArray) (w : World) (he : Env w) (hn : n = cs.length) (hr : CallsAt w w.heap.size A cs) :
    Calls Tryz.prog 6 #[.slice A n c, .string s, .string o] w fun e w' => e = .returned (.bool true) ∧ KF w w' := by
  have HS := Lib.hid (speaks_any w he)
  have HG := Lib.hid fun wr (k : KF w wr) => great_any A cs n c wr hn ((hr.keep k (Nat.le_refl _)).more k.size)
  have HN := Lib.hid hn
  have HR := Lib.hid hr
  clear hn hr
  go_enter Tryz.func6, Tryz.ntmps6
  go_wp2_with fail
  refine HS.out.mono ?_
  rintro e w1 ⟨rfl, k1⟩
  go_wp2_with fail
  refine (HG.out w1 k1).mono ?_
  rintro e w2 ⟨b, rfl, k2, hb⟩
  have k12 := KF.trans k1 k2
  rcases b with _ | _
  · by_cases h1 : (300 : Int) < (s.size : Int)
    · go_wp2_with fail
      go_ret
      exact ⟨rfl, k12⟩
    · by_cases h2 : (300 : Int) < (o.size : Int)
      · go_wp2_with fail
        go_ret
        exact ⟨rfl, k12⟩
      · have HSM := Lib.hid (hb rfl)
        have HNEW := Lib.hid (St8.new k12 he)
        have hn120 : n ≤ 120 := by rw [HN.out]; exact HSM.out.1
        clear hb
        go_wp2_with fail
        refine HNEW.out.mono ?_
        rintro e w3 ⟨L, rfl, S3, k3, _⟩
        have hLtb : L.tb = L.tb := rfl
        generalize hq : L.tb = tb at *
        have HQ := Lib.hid hq
        clear hq hLtb
        go_wp2_with fail
        go_loopg [31] n (fun g i wr => ∃ (k : Nat) (L : Lay), k ≤ n ∧ n - k ≤ g ∧ i = .int .i64 k ∧ L.tb = tb ∧ Hid (St8 w wr L (k + 1) (doAll newT (cs.take k))))
        case atStart => exact ⟨0, L, by omega, by omega, rfl, HQ.out, S3⟩
        case round =>
          obtain ⟨k, L1, hk, hg, rfl, hL1, S⟩ := hrel
          rcases Nat.lt_or_ge k n with hlt | hge
          · have hlt' : (k : Int) < (n : Int) := by omega
            have q1 : k < cs.length := by rw [← HN.out]; exact hlt
            have hat : cs[k]? = some cs[k] := List.getElem?_eq_getElem q1
            have hsm := HSM.out.2 _ (List.getElem_mem q1)
            obtain ⟨b, o', A1, c1, rfl, hb, hc, hrd⟩ := (HR.out.keep S.out.kf (Nat.le_refl _)) k _ hat
            have HTK := Lib.hid (show doAll newT (cs.take (k + 1)) = (doT (doAll newT (cs.take k)) cs[k]).2 by
              unfold doAll
              rw [List.take_succ_eq_append_getElem q1, List.foldl_append]
              rfl)
            generalize cs[k] = x at *
            generalize doAll newT (cs.take k) = t at *
            have c0 : wr.cell? ⟨b, o' + k * 6, none⟩ = some (.int .i64 x.kind) := hc 0 _ rfl
            have c1' : wr.cell? ⟨b, o' + k * 6 + 1, none⟩ = some (.string (ba x.path)) := hc 1 _ rfl
            have c2 : wr.cell? ⟨b, o' + k * 6 + 2, none⟩ = some (.string (ba x.other)) := hc 2 _ rfl
            have c3 : wr.cell? ⟨b, o' + k * 6 + 3, none⟩ = some (.int .i64 x.off) := hc 3 _ rfl
            have c4 : wr.cell? ⟨b, o' + k * 6 + 4, none⟩ = some (.int .i64 x.n) := hc 4 _ rfl
            have c5 : wr.cell? ⟨b, o' + k * 6 + 5, none⟩ = some (.slice A1 x.data.length c1) := hc 5 _ rfl
            have HDO : Hid (∀ X, Calls Tryz.prog 13 #[.pointer (some ⟨L1.tb, 0, none⟩), callV x A1 x.data.length c1] (wr.alloc X) _) := Lib.hid fun X =>
              (S.out.later ((KF.refl wr).alloc X)).do_ (by omega) x A1 x.data.length c1 ⟨rfl, ⟨by omega, by omega, by omega⟩, hrd.alloc S.out.kf.size X⟩ (fun a ha h0 => by
                obtain ⟨a', h1, h2⟩ := hrd.some_of h0
                rw [h1] at ha
                injection ha with ha
                rw [← ha]
                exact h2)
            rw [hL1] at HDO
            clear hc hrd hat
            go_wp2_with fail
            refine (HDO.out _).mono ?_
            rintro e w4 ⟨A2, c6, A2', c6', L2, rfl, _, _, S4⟩
            have HREL : Hid (∃ (k' : Nat) (L : Lay), k' ≤ n ∧ n - k' ≤ n - (k + 1) ∧ Value.int .i64 (k + 1) = .int .i64 k' ∧ L.tb = tb ∧ Hid (St8 w w4 L (k' + 1) (doAll newT (cs.take k')))) := Lib.hid ⟨k + 1, L2, hlt, Nat.le_refl _, by go_num, S4.out.tb.trans hL1, Lib.hid (by rw [HTK.out]; exact S4.out.st)⟩
            clear HDO HG HS HTK HSM HNEW HQ HR S S3 S4 c0 c1' c2 c3 c4 c5
            go_wp2_with fail
            go_roundg (n - (k + 1))
            case measure => omega
            case rel => exact HREL.out
          · obtain rfl : k = n := by omega
            have hlt' : ¬ (k : Int) < (k : Int) := by omega
            have g1 : s.size ≤ 300 := by omega
            have g2 : o.size ≤ 300 := by omega
            have hN1 : k + 1 ≤ 1000000 := by omega
            generalize doAll newT (cs.take k) = t at *
            have HND := Lib.hid (S.out.nodes hN1)
            rw [hL1] at HND
            clear HG HS HNEW HR HSM HQ S3
            go_wp2_with fail
            refine HND.out.mono ?_
            rintro e w5 ⟨A5, c5, rfl, hnf, k5⟩
            have S5 := Lib.hid (S.out.later k5)
            have HNF := Lib.hid hnf
            clear hnf HND
            have hfoot := Lib.hid fun i (hi : Foot L1 t i) => S.out.tree.lt hi
            have HST := Lib.hid (S5.out.stat_ hN1 s g1)
            rw [hL1] at HST
            clear S
            go_wp2_with fail
            refine HST.out.mono ?_
            rintro e w6 ⟨A6, c6, A6', c6', rfl, _, _, _, _, k6⟩
            have S6 := Lib.hid (S5.out.later k6)
            have HRN := Lib.hid fun X => (S6.out.later ((KF.refl w6).alloc X)).rename_ hN1 s o g1 g2
            rw [hL1] at HRN
            clear HST
            go_wp2_with fail
            refine (HRN.out _).mono ?_
            rintro e w7 ⟨A7, c7, A7', c7', L2, rfl, S7⟩
            have hans : ∀ r : TAns, (Value.agg (ansC r A7 c7 A7' c7')) = .agg #[.int .i64 r.err, .int .i64 r.kind, .int .i64 r.size, .int .i64 r.links, .slice A7 r.data.length c7, .slice A7' r.names.length c7'] := fun _ => rfl
            rw [hans]
            clear hans
            have hw5 : w5.heap.size ≤ w6.heap.size := k6.size
            have hfd := field_err
            have kx := fun j v hv => st_cell S6.out S7.out j (v := v) hv
            have HNF7 := Lib.hid ((HNF.out.in_.keep (Nat.le_refl _) (Keep.alloc k6 _) (fun _ h => h.elim)).keep (Nat.le_trans k6.size (by simp)) S7.out.keep (fun i hi => .inl (hfoot.out i hi)))
            have hgrow : Hid (∀ i, Foot L2 (doRename t s.data.toList o.data.toList).2 i → i < wr.heap.size ∨ w5.heap.size ≤ i) := Lib.hid fun i hi => by
              rcases S7.out.grow i hi with h | h
              · exact .inl (hfoot.out i h)
              · have h' : w6.heap.size + 1 ≤ i := by simpa using h
                exact .inr (by omega)
            have htb7 : L2.tb = tb := S7.out.tb.trans hL1
            have hw7 : w5.heap.size ≤ w7.heap.size := Nat.le_trans (Nat.le_trans k6.size (by simp)) S7.out.keep.size
            have HSAME := Lib.hid (rename_same (t := t) (p := s.data.toList) (q := o.data.toList))
            have HREN := Lib.hid fun hne => renamed S6.out.good (s := s.data.toList) (o := o.data.toList) hne
            have S7t := Lib.hid S7.out.st
            have k7 := S7.out.kf
            clear HRN S7 S6 S5 HNF hfoot
            generalize doRename t s.data.toList o.data.toList = r at *
            have HTAIL : Hid (r.2 = t → ∀ (Q : Ending → World → Prop), True) := Lib.hid fun _ _ => trivial
            clear HTAIL
            by_cases hstop : r.1.err ≠ 0 ∨ s = o
            · have hrt : r.2 = t := HSAME.out (by
                rcases hstop with h | rfl
                · exact .inl h
                · exact .inr rfl)
              have T7 := Lib.hid (show St8 w w7 L2 (k + 1 + 1) t from hrt ▸ S7t.out)
              have HND2 := Lib.hid (T7.out.nodes (by omega))
              rw [htb7] at HND2
              clear HSAME HREN S7t kx hgrow
              have hz : ((r.1.err : Int) != 0) = true ∨ (((r.1.err : Int) != 0) = false ∧ (s.toList == o.toList) = true) := by
                by_cases h0 : r.1.err = 0
                · refine .inr ⟨by rw [h0]; rfl, ?_⟩
                  rcases hstop with h | rfl
                  · exact absurd h0 h
                  · simp
                · exact .inl (bne_iff_ne.2 (by omega))
              clear hstop hrt
              rcases hz with z1 | ⟨z1, z2⟩
              all_goals
                go_wp2_with fail
                refine HND2.out.mono ?_
                rintro e w8 ⟨A8, c8, rfl, hnf8, k8⟩
                have HSN := Lib.hid (T7.out.same_ (c := c8) (c' := c5) (by omega) hnf8.at_ ((HNF7.out.keep hw7 k8 (fun _ h => h.elim)).at_ (Nat.le_trans hw7 k8.size)))
                clear hnf8
                go_wp2_with fail
                refine HSN.out.mono ?_
                rintro e w9 ⟨rfl, k9⟩
                go_wp2_with fail
                go_ret
                exact ⟨rfl, KF.trans (KF.trans k7 k8) k9⟩
            · have h0 : r.1.err = 0 := Classical.not_not.1 fun h => hstop (.inl h)
              have hso : ¬ s = o := fun h => hstop (.inr h)
              have hne : o.data.toList ≠ s.data.toList := fun h => hso (by rw [← ba_data s, ← ba_data o, h])
              obtain ⟨m1, m2, m3, m4, m5⟩ := HREN.out hne h0
              have z1 : ((r.1.err : Int) != 0) = false := by rw [h0]; rfl
              have z2 : (s.toList == o.toList) = false := beq_eq_false_iff_ne.2 (by rw [Lib.toList_data, Lib.toList_data]; exact fun h => hne h.symm)
              have HQ8 := Lib.hid (S7t.out.stat_ (by omega) o g2)
              rw [htb7] at HQ8
              obtain ⟨y1, y2⟩ := stat_bare t s.data.toList
              rw [m1] at HQ8
              have M3 := Lib.hid m3
              have M4 := Lib.hid m4
              have M5 := Lib.hid m5
              have Y1 := Lib.hid y1
              have Y2 := Lib.hid y2
              clear HSAME HREN hstop h0 hso hne m1 m2 m3 m4 m5 y1 y2
              generalize (doStat t s.data.toList).1 = ra at *
              go_wp2_with fail
              refine HQ8.out.mono ?_
              rintro e w8 ⟨A8, c8, A8', c8', rfl, _, _, _, _, k8⟩
              have HQ9 := Lib.hid fun X => (S7t.out.later (k8.alloc X)).stat_ (by omega) s g1
              rw [htb7] at HQ9
              have l67 : w6.heap.size < w7.heap.size := World.block_lt_of_cell? _ _ (kx 0 _ rfl)
              have l68 : w6.heap.size < w8.heap.size := Nat.lt_of_lt_of_le l67 k8.size
              have kx8 := fun j v hv => (k8.cell (p := ⟨w6.heap.size, j, none⟩) l67).trans (kx j v hv)
              clear kx HQ8
              go_wp2_with fail
              refine (HQ9.out _).mono ?_
              rintro e w9 ⟨A9, c9, A9', c9', rfl, _, _, _, _, k9⟩
              have l89 : w8.heap.size < w9.heap.size := Nat.lt_of_lt_of_le (by simp) k9.size
              have l69 : w6.heap.size < w9.heap.size := Nat.lt_trans l68 l89
              have kx9 := fun j v hv => ((fresh_far k9).cell (p := ⟨w6.heap.size, j, none⟩) l68).trans (kx8 j v hv)
              have p0 := kx9 0 _ rfl
              have p1 := kx9 1 _ rfl
              have p2 := kx9 2 _ rfl
              have p3 := kx9 3 _ rfl
              have p4 := kx9 4 _ rfl
              have p5 := kx9 5 _ rfl
              have q0 := fresh_cell k9 0 rfl
              have q1 := fresh_cell k9 1 rfl
              have q2 := fresh_cell k9 2 rfl
              have q3 := fresh_cell k9 3 rfl
              have q4 := fresh_cell k9 4 rfl
              have q5 := fresh_cell k9 5 rfl
              have HSA := Lib.hid fun X => sameAnswer_one ra A6 A8 A6' A8' c6 c8 c6' c8' (w9.alloc X) (by rw [Y1.out]; exact Nat.zero_le _) (by rw [Y2.out]; exact Nat.zero_le _) (by rw [Y1.out]; exact Rd.nil) (by rw [Y2.out]; exact Strs.nil) (by rw [Y1.out]; exact Rd.nil) (by rw [Y2.out]; exact Strs.nil)
              unfold ansC at HSA
              have z3 : (((doStat r.2 s.data.toList).1.err : Int) == 0) = false := beq_eq_false_iff_ne.2 (by have := M3.out; omega)
              clear kx8 kx9 HQ9
              generalize (doStat r.2 s.data.toList).1 = rg at *
              go_wp2_with fail
              refine (HSA.out _).mono ?_
              rintro e w10 ⟨rfl, k10⟩
              have u0 := fresh_cell k10 0 rfl
              have k710 := KF.trans (KF.trans k8 (fresh_far k9)) (fresh_far k10)
              have HND2 := Lib.hid ((S7t.out.later k710).nodes (by omega))
              rw [htb7] at HND2
              have HL := Lib.hid (nodes_kinds M4.out)
              clear p0 p1 p2 p3 p4 p5 q0 q1 q2 q3 q4 q5 HSA
              go_wp2_with fail
              refine HND2.out.mono ?_
              rintro e w11 ⟨A11, c11, rfl, _, k11⟩
              rw [HL.out]
              have k711 := KF.trans k710 k11
              have HBK := Lib.hid ((S7t.out.later k711).rename_ (by omega) o s g2 g1)
              rw [M5.out, htb7] at HBK
              have z4 : ((okA.err : Int) == 0) = true := rfl
              clear HND2 u0
              go_wp2_with fail
              refine HBK.out.mono ?_
              rintro e w12 ⟨A12, c12, A12', c12', L3, rfl, S12⟩
              have hans : ∀ r : TAns, (Value.agg (ansC r A12 c12 A12' c12')) = .agg #[.int .i64 r.err, .int .i64 r.kind, .int .i64 r.size, .int .i64 r.links, .slice A12 r.data.length c12, .slice A12' r.names.length c12'] := fun _ => rfl
              rw [hans]
              clear hans
              have T12 := Lib.hid (show St8 w w12 L3 (k + 1 + 1 + 1) t from S12.out.st)
              have htb12 : L3.tb = tb := S12.out.tb.trans htb7
              have HND3 := Lib.hid (T12.out.nodes (by omega))
              rw [htb12] at HND3
              have hw11 : w5.heap.size ≤ w11.heap.size := Nat.le_trans hw7 k711.size
              have hw12 : w5.heap.size ≤ w12.heap.size := Nat.le_trans hw11 S12.out.keep.size
              have HNF12 := Lib.hid ((HNF7.out.keep hw7 k711 (fun _ h => h.elim)).keep hw11 S12.out.keep hgrow.out)
              have k12' := S12.out.kf
              clear HBK S12
              go_wp2_with fail
              refine HND3.out.mono ?_
              rintro e w13 ⟨A13, c13, rfl, hnf13, k13⟩
              have HSN := Lib.hid (T12.out.same_ (c := c13) (c' := c5) (by omega) hnf13.at_ ((HNF12.out.keep hw12 k13 (fun _ h => h.elim)).at_ (Nat.le_trans hw12 k13.size)))
              clear hnf13
              go_wp2_with fail
              refine HSN.out.mono ?_
              rintro e w14 ⟨rfl, k14⟩
              go_wp2_with fail
              go_ret
              exact ⟨rfl, KF.trans (KF.trans k12' k13) k14⟩
  · go_wp2_with fail
    go_ret
    exact ⟨rfl, k12⟩
end Go.Proofs.YtlpjbgplimlcaaaGreatDoor
