/-
  The program's unlink and link; how a node's links turn.
-/
import Derived.Test.YtlkiaghpdjbfeaaGreatDoorPk4
namespace Go.Proofs.YtlkiaghpdjbfeaaGreatDoor
open Go.RowKit Go.Maps

section
variable {w w' : World} {L : Lay} {N : Nat} {t : Tr}
theorem Keep.cell_set (w : World) (p : Addr) (u : Value) : Keep (fun b => b = p.block) w (w.setCell p u) := Keep.setCell (S := fun b => b = p.block) (Keep.refl _ w) (.inr rfl) u
theorem Lay.same_dv (L : Lay) (a : Nat) : { L with dv := fun n => if n = a then L.dv a else L.dv n } = L := by
  have : (fun n => if n = a then L.dv a else L.dv n) = L.dv := by
    funext n
    split
    · next e => rw [e]
    · rfl
  rw [this]
theorem TreeAt.set_links (h : TreeAt w L N t) {a : Nat} (ha : (t a).kind ≠ 0) (links : Nat) : TreeAt (w.setCell ⟨L.nb a, 1, none⟩ (.int .i64 (links : Int))) L N (t.set a ⟨(t a).kind, links, (t a).data, (t a).entries⟩) := by
  have h1 := h.node_turn ha (Keep.cell_set w ⟨L.nb a, 1, none⟩ (.int .i64 (links : Int))) links (t a).data (L.dv a) (by rw [heap_setCell_same _ _ _ _ _ _ (h.node a ha)]; rfl)
    ((h.data a ha).kept (Keep.cell_set w _ _) fun b hb e => h.dv_ne_nb ha ha (by rw [hb, e])) fun m hm hk b hb e => hm (h.dvi m a hk ha b e hb)
  rw [Lay.same_dv] at h1
  exact h1
theorem TreeAt.open_nb (h : TreeAt w L N t) {a : Nat} (ha : (t a).kind ≠ 0) (j : Nat) : w.frozen? ⟨L.nb a, j, none⟩ = false := by
  unfold World.frozen?
  rw [h.node a ha]
  simp
theorem TreeAt.put_name (h : TreeAt w L N t) {d : Nat} (hd : (t d).kind = 1) {x : Txt} (hx : x.length ≤ 16) (hN : N ≤ 1000000) (k : Nat) :
    ∃ w', (Instr.mapUpdate 70 (.map (some (L.eb d))) (.string (ba x)) (.int .i64 (k : Int))).run Tryz.prog w = .ok () w' ∧ TreeAt w' L (N + 1) (t.rows d (put (t d).entries x k)) ∧ Keep (fun b => b = L.eb d) w w' := by
  obtain ⟨w', hr, hm, ht⟩ := (h.dir d hd).store (val := .int .i64 (k : Int)) TreeAt.str_law Tryz.underlying70 (by simp only [maxLen]; omega) (Go.WideMaps.keyOf_string_mk Tryz.underlying9 (s := ba x) (by rw [ba_size]; simp only [maxLen]; omega))
  refine ⟨w', hr, ?_, Keep.turned ht⟩
  exact h.dir_turn hd (Keep.turned ht) (Nat.le_succ _) _ (by rw [put_dirF]; exact hm)
theorem TreeAt.ents_le (h : TreeAt w L N t) (g : Good t) (n : Nat) : (t n).entries.length ≤ N := by
  by_cases hn : (t n).kind = 1
  · obtain ⟨D, hD, _, hs⟩ := (h.dir n hn).strs (xs := (t n).entries.map (·.1)) TreeAt.str_law Tryz.underlying9 (names_nodup (g.rising n)) (fun x hx => by
      obtain ⟨e, he, rfl⟩ := List.mem_map.1 hx
      have := (g.entry n e he).1.2.2.1
      simp only [maxLen]; omega) (fun x _ => by rw [names_look, dir_look]; cases look (t n).entries x <;> rfl)
    have := hD.size_le
    rw [hs, List.length_map] at this
    exact this
  · have h2 := g.kinds n
    have : (t n).entries = [] := by
      by_cases h0 : (t n).kind = 0
      · rw [g.void n h0]; rfl
      · exact (g.file n (by omega)).1
    rw [this]
    exact Nat.zero_le _
theorem sum_le_mul (f : Nat → Nat) (B : Nat) (h : ∀ n, f n ≤ B) : ∀ K, ((List.range K).map f).sum ≤ K * B
  | 0 => by simp
  | K + 1 => by
    have := sum_le_mul f B h K
    have := h K
    simp only [List.range_succ, List.map_append, List.map_cons, List.map_nil, List.sum_append, List.sum_cons, List.sum_nil, Nat.add_zero]
    rw [Nat.add_mul]
    omega
theorem TreeAt.links_le (h : TreeAt w L N t) (g : Good t) (hN : N ≤ 1000000) {n : Nat} (hn : (t n).kind ≠ 0) : (t n).links ≤ 64000000 ∧ 1 ≤ (t n).links := by
  by_cases h0 : n = 0
  · subst h0; rw [g.root.2]; omega
  · obtain ⟨h1, h2⟩ := g.count n h0 hn
    refine ⟨?_, h2⟩
    rw [← h1]
    have := sum_le_mul (fun m => refs (t m).entries n) N (fun m => Nat.le_trans List.countP_le_length (h.ents_le g m)) 64
    unfold allRefs
    omega
theorem Tr.set_set (t : Tr) (a : Nat) (x y : TNode) : (t.set a x).set a y = t.set a y := by
  funext n
  unfold Tr.set
  split <;> rfl
theorem Tr.rows_node (t : Tr) (d : Nat) (es : Row) (a : Nat) (h : a ≠ d) : t.rows d es a = t a := Tr.set_other h _
theorem foot_set {a : Nat} {x : TNode} {k : Nat} (hx : x.kind = (t a).kind) : Foot L (t.set a x) k ↔ Foot L t k := by
  have hk : ∀ n, ((t.set a x) n).kind = (t n).kind := fun n => by
    unfold Tr.set
    split
    · next e => rw [e, hx]
    · rfl
  unfold Foot
  simp only [hk]
end
theorem doUnlink_err' {t : Tr} {s : Txt} {k : Nat} (h : findUp t s = .error k) : doUnlink t s = (errA k, t) := by unfold doUnlink; rw [h]

set_option maxRecDepth 100000 in
set_option maxHeartbeats 4000000 in
theorem unlink_any (kind off n : Int) (s o : ByteArray) (dv : Value) (w : World) (L : Lay) (N : Nat) (t : Tr) (hT : TreeAt w L N t) (g : Good t) (hs : s.size ≤ 1000000) (he : Env w) (hN : N ≤ 1000000) :
    Calls Tryz.prog 48 #[.pointer (some ⟨L.tb, 0, none⟩), .agg (callC kind off n s o dv)] w (Changed L N t (doUnlink t s.data.toList) w) := by
  have kA : ∀ X, KF w (w.alloc X) := fun X => (KF.refl w).alloc X
  have HC := Lib.hid fun X => findEntry_any s (w.alloc X) L N t (hT.far (kA X)) g hs (he.kept (kA X))
  have HT := Lib.hid hT
  have HG := Lib.hid g
  clear hT g
  go_enter Tryz.func48, Tryz.ntmps48
  go_wp2_with fail
  refine (HC.out _).mono ?_
  rintro e w1 ⟨k1, ⟨k, hk, hk0, rfl⟩ | ⟨a, d, x, hd, hd1, hx, hla, rfl⟩⟩
  · have HU := Lib.hid hk
    have h0 : ((k : Int) != 0) = true := bne_iff_ne.2 (by omega)
    clear hk
    go_wp2_with fail
    go_ret
    exact Changed.err HT.out ((fresh_far k1).alloc _) (doUnlink_err' HU.out)
  · have HU := Lib.hid hd
    have HX := Lib.hid hx
    have T1 := HT.out.far (fresh_far k1)
    have hl16 := hx.2.2.1
    have HL := Lib.hid hla
    have ha := (HG.out.name_le hla)
    clear hd hx hla
    obtain ⟨w2, hw2⟩ : ∃ w2, w1.alloc (.cells #[.pointer (some ⟨L.nb d, 0, none⟩), .string (ba x)] 138) = w2 := ⟨_, rfl⟩
    have k2 : KF (w1.alloc (.cells #[.pointer (some ⟨L.nb d, 0, none⟩), .string (ba x)] 138)) w2 := hw2 ▸ KF.refl _
    have d0 := fresh_cell k2 0 rfl
    have d1 := fresh_cell k2 1 rfl
    have T2 := T1.far (fresh_far k2)
    have ct := T2.cell_tree
    have ln := T2.look_yes (n := a) (by omega) ha.2.2.1
    have cd := T2.cell_dir hd1
    have HW := Lib.hid hw2
    have kw2 := KF.trans (fresh_far k1) (fresh_far k2)
    clear hw2
    rcases HG.out.two ha.2.2.1 with h1 | h2
    · have ck := T2.cell_kind1 h1
      have H1 := Lib.hid h1
      clear h1
      go_upto_region 4 with fail
      rw [HW.out]
      go_wp2_with fail
      go_ret
      refine Changed.err (c := 24) HT.out kw2 ?_
      unfold doUnlink
      rw [HU.out]
      exact if_pos H1.out
    · have ck := T2.cell_kind2 h2
      have had : a ≠ d := fun e => by rw [e] at h2; omega
      have H2 := Lib.hid h2
      clear h2
      obtain ⟨w3, hdel, T3, k3⟩ := (T2.drew1).drop_name hd1 hl16 0
      have hka : ((t.rows d (drop (t d).entries x)) a).kind ≠ 0 := by rw [Tr.rows_kind, H2.out]; decide
      have ct3 := T3.cell_tree
      have cl3 := T3.cell_links hka
      have cf3 := T3.open_nb hka 1
      rw [Tr.rows_links] at cl3
      have T4 := T3.set_links hka ((t a).links - 1)
      obtain ⟨hll, hl1⟩ := T2.links_le HG.out hN ha.2.2.1
      have hsub : ((t a).links : Int) - 1 = (((t a).links - 1 : Nat) : Int) := by omega
      have hr : doUnlink t s.data.toList = (okA, unlinked t a d x) := by
        unfold doUnlink
        rw [HU.out]
        exact if_neg (by rw [H2.out]; decide)
      have HR := Lib.hid hr
      have hn : (t.rows d (drop (t d).entries x)) a = t a := Tr.rows_node t d _ a had
      rw [hn] at T4
      have HT4 := Lib.hid T4
      clear T3 T4 hka hr hn
      generalize hl : (t a).links = l at *
      have HLK := Lib.hid hl
      clear hl
      have kS : Keep (Foot L t) w (w3.setCell ⟨L.nb a, 1, none⟩ (.int .i64 ((l - 1 : Nat) : Int))) :=
        ((kw2.keep (S := Foot L t)).drew.trans k3 fun i _ hi => hi ▸ foot_eb hd1).setCell (.inr (foot_nb ha.2.2.1)) _
      by_cases hone : l = 1
      · subst hone
        have cl3' : w3.cell? ⟨L.nb a, 1, none⟩ = some (.int .i64 1) := cl3
        have HT4' : Hid (TreeAt (w3.setCell ⟨L.nb a, 1, none⟩ (.int .i64 0)) L N ((t.rows d (drop (t d).entries x)).set a ⟨(t a).kind, 0, (t a).data, (t a).entries⟩)) := HT4
        have kS' : Keep (Foot L t) w (w3.setCell ⟨L.nb a, 1, none⟩ (.int .i64 0)) := kS
        clear cl3 HT4 kS hsub
        obtain ⟨w4, hdel4, T5, k4⟩ := HT4'.out.drop_node ha.2.1 0
        have ct4 := HT4'.out.cell_tree
        have HT5 := Lib.hid T5
        clear T5
        go_upto_region 4 with fail
        rw [HW.out]
        go_upto_region 7 with fail
        go_region
        go_wp2_with fail
        go_ret
        rw [HR.out]
        refine ⟨rfl, L, rfl, ?_, kS'.trans k4 fun i _ hi => hi ▸ foot_mb, fun k hk => .inl ?_⟩
        · have := HT5.out.mono (Nat.le_succ N)
          rw [Tr.set_set] at this
          show TreeAt w4 L (N + 1) (unlinked t a d x)
          unfold unlinked
          rw [if_pos HLK.out]
          exact this
        · have hk' : Foot L (unlinked t a d x) k := hk
          unfold unlinked at hk'
          rw [if_pos HLK.out] at hk'
          exact foot_rows.1 (foot_gone hk')
      · have hz : (((l - 1 : Nat) : Int) == 0) = false := beq_eq_false_iff_ne.2 (by omega)
        have ct4 := HT4.out.cell_tree
        go_upto_region 4 with fail
        rw [HW.out]
        go_upto_region 7 with fail
        go_region
        go_wp2_with fail
        go_ret
        rw [HR.out]
        have hu : unlinked t a d x = (t.rows d (drop (t d).entries x)).set a ⟨(t a).kind, l - 1, (t a).data, (t a).entries⟩ := by
          unfold unlinked
          rw [if_neg (by rw [HLK.out]; exact hone), HLK.out]
        refine ⟨rfl, L, rfl, ?_, kS, fun k hk => .inl ?_⟩
        · show TreeAt _ L (N + 1) (unlinked t a d x)
          rw [hu]
          exact HT4.out.mono (Nat.le_succ N)
        · have hk' : Foot L (unlinked t a d x) k := hk
          rw [hu] at hk'
          exact foot_rows.1 ((foot_set (by show _ = (t.rows d (drop (t d).entries x) a).kind; rw [Tr.rows_kind])).1 hk')

theorem doLink_err' {t : Tr} {s o : Txt} {k : Nat} (h : findFile t s = .error k) : doLink t s o = (errA k, t) := by
  unfold doLink
  unfold findFile at h
  rcases hf : find t s with e | a
  · rw [hf] at h
    injection h with h
    rw [h]
  · rw [hf] at h
    simp only at h ⊢
    split at h
    · next hk => injection h with h; rw [← h]; exact if_pos hk
    · cases h
theorem findFile_find {t : Tr} {s : Txt} {a : Nat} (h : findFile t s = .ok a) : find t s = .ok a ∧ (t a).kind ≠ 1 := by
  unfold findFile at h
  split at h
  · cases h
  · next b hb =>
    split at h
    · cases h
    · next hk =>
      injection h with h
      subst h
      exact ⟨hb, hk⟩
theorem doLink_ok {t : Tr} {s o : Txt} {a : Nat} (h : findFile t s = .ok a) : doLink t s o = match place t o with | .error e => (errA e, t) | .ok (d, x) => (okA, (t.rows d (put (t d).entries x a)).set a ⟨(t a).kind, (t a).links + 1, (t a).data, (t a).entries⟩) := by
  obtain ⟨h1, h2⟩ := findFile_find h
  unfold doLink
  rw [h1]
  show (if _ then _ else _) = _
  rw [if_neg h2]
  rcases place t o with e | ⟨d, x⟩ <;> rfl

set_option maxRecDepth 100000 in
set_option maxHeartbeats 4000000 in
theorem link_any (kind off n : Int) (s o : ByteArray) (dv : Value) (w : World) (L : Lay) (N : Nat) (t : Tr) (hT : TreeAt w L N t) (g : Good t) (hs : s.size ≤ 1000000) (ho : o.size ≤ 1000000) (he : Env w) (hN : N ≤ 1000000) :
    Calls Tryz.prog 49 #[.pointer (some ⟨L.tb, 0, none⟩), .agg (callC kind off n s o dv)] w (Changed L N t (doLink t s.data.toList o.data.toList) w) := by
  have kA : ∀ X, KF w (w.alloc X) := fun X => (KF.refl w).alloc X
  have HC := Lib.hid fun X => findFile_any s (w.alloc X) L N t (hT.far (kA X)) g hs (he.kept (kA X))
  have HP := Lib.hid fun w1 (k1 : KF w w1) => findPlace_any o w1 L N t (hT.far k1) g ho (he.kept k1)
  have HT := Lib.hid hT
  have HG := Lib.hid g
  clear hT g
  go_enter Tryz.func49, Tryz.ntmps49
  go_wp2_with fail
  refine (HC.out _).mono ?_
  rintro e w1 ⟨k1, ⟨k, hk, hk0, rfl⟩ | ⟨a, hf, ha2, rfl⟩⟩
  · have HU := Lib.hid hk
    have h0 : ((k : Int) != 0) = true := bne_iff_ne.2 (by omega)
    clear hk
    go_wp2_with fail
    go_ret
    exact Changed.err HT.out (fresh_far k1) (doLink_err' HU.out)
  · have HU := Lib.hid hf
    clear hf
    have c2 := fresh_cell k1 2 rfl
    go_wp2_with fail
    refine (HP.out w1 (fresh_far k1)).mono ?_
    rintro e w2 ⟨k2, ⟨k, hk, hk0, rfl⟩ | ⟨d, x, hp, hd1, hx, rfl⟩⟩
    · have HQ := Lib.hid hk
      have h0 : ((k : Int) != 0) = true := bne_iff_ne.2 (by omega)
      clear hk
      go_wp2_with fail
      go_ret
      refine Changed.err HT.out ((KF.trans (fresh_far k1) k2).alloc _) ?_
      rw [doLink_ok HU.out, HQ.out]
    · have HQ := Lib.hid hp
      have hl16 := hx.2.2.1
      have ha64 := HG.out.lt (n := a) (by omega)
      have ha0 : (t a).kind ≠ 0 := by omega
      have had : a ≠ d := fun e => by rw [e] at ha2; omega
      clear hp hx
      have T2 := HT.out.far (KF.trans (fresh_far k1) k2)
      obtain ⟨w3, hw3⟩ : ∃ w3, w2.alloc (.cells #[.pointer (some ⟨L.nb d, 0, none⟩), .string (ba x)] 138) = w3 := ⟨_, rfl⟩
      have k3 : KF (w2.alloc (.cells #[.pointer (some ⟨L.nb d, 0, none⟩), .string (ba x)] 138)) w3 := hw3 ▸ KF.refl _
      have d0 := fresh_cell k3 0 rfl
      have d1 := fresh_cell k3 1 rfl
      have T3 := T2.far (fresh_far k3)
      have cd := T3.cell_dir hd1
      have HW := Lib.hid hw3
      have kw3 := KF.trans (KF.trans (fresh_far k1) k2) (fresh_far k3)
      clear hw3
      obtain ⟨w4, hput, T4, k4⟩ := (T3.drew1).put_name hd1 hl16 hN a
      have hka : ((t.rows d (put (t d).entries x a)) a).kind ≠ 0 := by rw [Tr.rows_kind]; exact ha0
      have ct4 := T4.cell_tree
      have ln4 := T4.look_yes (n := a) (by omega) hka
      have cl4 := T4.cell_links hka
      have cf4 := T4.open_nb hka 1
      rw [Tr.rows_links] at cl4
      have T5 := T4.set_links hka ((t a).links + 1)
      obtain ⟨hll, hl1⟩ := T2.links_le HG.out hN ha0
      rw [Tr.rows_node t d _ a had] at T5
      have HT5 := Lib.hid T5
      clear T4 T5 hka
      generalize hl : (t a).links = l at *
      have HLK := Lib.hid hl
      clear hl
      go_upto_region 7 with fail
      rw [HW.out]
      go_region
      go_wp2_with fail
      go_ret
      have hr : doLink t s.data.toList o.data.toList = (okA, (t.rows d (put (t d).entries x a)).set a ⟨(t a).kind, l + 1, (t a).data, (t a).entries⟩) := by
        rw [doLink_ok HU.out, HQ.out, HLK.out]
      rw [hr]
      refine ⟨rfl, L, rfl, HT5.out, ?_, fun k hk => .inl ?_⟩
      · exact ((kw3.keep (S := Foot L t)).drew.trans k4 fun i _ hi => hi ▸ foot_eb hd1).setCell (.inr (foot_nb ha0)) _
      · exact foot_rows.1 ((foot_set (by show _ = (t.rows d (put (t d).entries x a) a).kind; rw [Tr.rows_kind])).1 hk)
end Go.Proofs.YtlkiaghpdjbfeaaGreatDoor
