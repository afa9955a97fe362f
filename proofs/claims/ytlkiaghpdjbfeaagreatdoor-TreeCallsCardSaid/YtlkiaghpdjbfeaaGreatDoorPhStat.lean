/-
  The program's stat and list: what a call that changes nothing answers.
-/
import Derived.Test.YtlkiaghpdjbfeaaGreatDoorPhUnlink
import Derived.Test.YtlkiaghpdjbfeaaGreatDoorPk3
import Derived.Deep.RegionHeld3
import Derived.StillTailTactics
namespace Go.Proofs.YtlkiaghpdjbfeaaGreatDoor
open Go.RowKit Go.Maps Go.Sort

/-- An answer's cells. -/
abbrev ansC (a : TAns) (A : Option Addr) (c : Nat) (A' : Option Addr) (c' : Nat) : Array Value :=
  #[.int .i64 (a.err : Int), .int .i64 (a.kind : Int), .int .i64 (a.size : Int), .int .i64 (a.links : Int), .slice A a.data.length c, .slice A' a.names.length c']
/-- What a call that changes nothing answers: its rows lie in new blocks. -/
def Ansd (a : TAns) (w : World) (e : Ending) (w' : World) : Prop :=
  ∃ A c A' c', e = .returned (.agg (ansC a A c A' c')) ∧ Rd w' w'.heap.size A a.data ∧ Strs w' w'.heap.size A' (a.names.map ba) ∧ (∀ x : Addr, A = some x → w.heap.size ≤ x.block) ∧ (∀ x : Addr, A' = some x → w.heap.size ≤ x.block) ∧ KF w w'
theorem Ansd.err {w w' : World} (k : KF w w') (n : Nat) {a : TAns} (ha : a = errA n) : Ansd a w (.returned (.agg #[.int .i64 (n : Int), .int .i64 0, .int .i64 0, .int .i64 0, .slice none 0 0, .slice none 0 0])) w' := by
  subst ha
  exact ⟨none, 0, none, 0, rfl, Rd.nil, Strs.nil, (fun x h => nomatch h), (fun x h => nomatch h), k⟩
theorem fresh_six {w w1 : World} {u0 u1 u2 u3 u4 u5 : Value} {b : Nat} (hb : w.heap.size ≤ b) (k : KF w w1) :
    KF w ((((((w1.setCell ⟨b, 0, none⟩ u0).setCell ⟨b, 1, none⟩ u1).setCell ⟨b, 2, none⟩ u2).setCell ⟨b, 3, none⟩ u3).setCell ⟨b, 4, none⟩ u4).setCell ⟨b, 5, none⟩ u5) :=
  Keep.setCell (Keep.setCell (Keep.setCell (Keep.setCell (Keep.setCell (Keep.setCell k (.inl hb) u0) (.inl hb) u1) (.inl hb) u2) (.inl hb) u3) (.inl hb) u4) (.inl hb) u5

theorem keep_six (w1 : World) (u0 u1 u2 u3 u4 u5 : Value) (b : Nat) :
    Keep (fun k => k = b) w1 ((((((w1.setCell ⟨b, 0, none⟩ u0).setCell ⟨b, 1, none⟩ u1).setCell ⟨b, 2, none⟩ u2).setCell ⟨b, 3, none⟩ u3).setCell ⟨b, 4, none⟩ u4).setCell ⟨b, 5, none⟩ u5) :=
  Keep.setCell (Keep.setCell (Keep.setCell (Keep.setCell (Keep.setCell (Keep.setCell (Keep.refl (fun k => k = b) w1) (.inr rfl) u0) (.inr rfl) u1) (.inr rfl) u2) (.inr rfl) u3) (.inr rfl) u4) (.inr rfl) u5
theorem Strs.keepS {S : Nat → Prop} {w w' : World} {A : Option Addr} {xs : List ByteArray} (h : Strs w w.heap.size A xs) (k : Keep S w w') (hS : ∀ a : Addr, A = some a → ¬ S a.block) : Strs w' w'.heap.size A xs := fun j x hj => by
  obtain ⟨b, o, rfl, hb, hc⟩ := h j x hj
  exact ⟨b, o, rfl, Nat.lt_of_lt_of_le hb k.size, (Keep.cell k (p := ⟨b, o + j, none⟩) hb (hS ⟨b, o, none⟩ rfl)).trans hc⟩
theorem fresh_ans {w w1 : World} {X : Obj} {ty : TypeId} {v0 v1 v2 v3 v4 v5 : Value} (k : KF ((w.alloc X).alloc (.cells #[v0, v1, v2, v3, v4, v5] ty)) w1) :
    w1.cell? ⟨w.heap.size + 1, 0, none⟩ = some v0 ∧ w1.cell? ⟨w.heap.size + 1, 1, none⟩ = some v1 ∧ w1.cell? ⟨w.heap.size + 1, 2, none⟩ = some v2 ∧ w1.cell? ⟨w.heap.size + 1, 3, none⟩ = some v3 ∧
    w1.cell? ⟨w.heap.size + 1, 4, none⟩ = some v4 ∧ w1.cell? ⟨w.heap.size + 1, 5, none⟩ = some v5 ∧ w1.frozen? ⟨w.heap.size + 1, 0, none⟩ = false ∧ w1.frozen? ⟨w.heap.size + 1, 1, none⟩ = false ∧
    w1.frozen? ⟨w.heap.size + 1, 2, none⟩ = false ∧ w1.frozen? ⟨w.heap.size + 1, 3, none⟩ = false ∧ w1.frozen? ⟨w.heap.size + 1, 4, none⟩ = false ∧ w1.frozen? ⟨w.heap.size + 1, 5, none⟩ = false := by
  have e : (w.alloc X).heap.size = w.heap.size + 1 := by simp
  rw [← e]
  exact ⟨fresh_cell k 0 rfl, fresh_cell k 1 rfl, fresh_cell k 2 rfl, fresh_cell k 3 rfl, fresh_cell k 4 rfl, fresh_cell k 5 rfl, fresh_open k 0, fresh_open k 1, fresh_open k 2, fresh_open k 3, fresh_open k 4, fresh_open k 5⟩
theorem less_lt : ∀ {a b : Txt}, less a b = true → a < b
  | [], [], h => by cases h
  | [], _ :: _, _ => List.Lex.nil
  | _ :: _, [], h => by cases h
  | x :: a, y :: b, h => by
    have h' : (decide (x < y) || (x == y && less a b)) = true := h
    simp only [Bool.or_eq_true, decide_eq_true_eq, Bool.and_eq_true, beq_iff_eq] at h'
    rcases h' with h' | ⟨rfl, h'⟩
    · exact List.Lex.rel h'
    · exact List.Lex.cons (less_lt h')
theorem less_le {a b : Txt} (h : less a b = true) : a ≤ b := by
  rcases List.le_total a b with h' | h'
  · exact h'
  · exact absurd (less_lt h) h'
theorem sorted_names {es : Row} (h : Rising es) {ss : List Txt} (hp : (es.map (·.1)).Perm ss) : ss.mergeSort (fun x y => decide (x ≤ y)) = es.map (·.1) := by
  have h1 := mergeSort_of_perm hp
  rw [← h1]
  refine List.mergeSort_of_pairwise (List.pairwise_map.2 (h.imp fun hab => ?_))
  exact decide_eq_true (less_le hab)
theorem TreeAt.strs_dir {w : World} {L : Lay} {N : Nat} {t : Tr} (h : TreeAt w L N t) (g : Good t) {n : Nat} (hn : (t n).kind = 1) :
    ∃ D : VD, w.ownsMap Tryz.prog 9 anyElem (L.eb n) N D ∧ ((t n).entries.map (·.1)).Perm (strKeys D) ∧ Maps.size D = (t n).entries.length := by
  obtain ⟨D, h1, h2, h3⟩ := (h.dir n hn).strs (xs := (t n).entries.map (·.1)) TreeAt.str_law Tryz.underlying9 (names_nodup (g.rising n)) (fun x hx => by
    obtain ⟨e, he, rfl⟩ := List.mem_map.1 hx
    have := (g.entry n e he).1.2.2.1
    simp only [maxLen]; omega) (fun x _ => by rw [names_look, dir_look]; cases look (t n).entries x <;> rfl)
  exact ⟨D, h1, h2, by rw [h3, List.length_map]⟩
/-- The names of a directory, sorted, in a new row. -/
theorem TreeAt.sorted_dir {w : World} {L : Lay} {N : Nat} {t : Tr} (h : TreeAt w L N t) (g : Good t) (hN : N ≤ 1000000) {n : Nat} (hn : (t n).kind = 1) :
    Calls Tryz.prog 44 #[.func (.func 86) #[] #[.pointer (some ⟨w.heap.size, 0, none⟩)]] (w.alloc (.cells #[.map (some (L.eb n))] 70)) fun e w' =>
      ∃ A c, e = .returned (.slice A (t n).entries.length c) ∧ (t n).entries.length ≤ c ∧ Strs w' w'.heap.size A ((t n).entries.map fun e => ba e.1) ∧ (∀ x : Addr, A = some x → w.heap.size ≤ x.block) ∧ KF w w' := by
  obtain ⟨D, hD, hp, hs⟩ := h.strs_dir g hn
  refine (strSorted_any (L.eb n) N D w hD (by rw [hs]; have := h.ents_le g n; omega)).mono ?_
  rintro e w' ⟨v, ss, rfl, hS, hrow, hnew, k⟩
  have hsort := sorted_names (g.rising n) (hp.trans hS.symm)
  have hlen : ss.length = (t n).entries.length := by
    have := (hp.trans hS.symm).length_eq
    rw [List.length_map] at this
    exact this.symm
  have hrow' : OwnT 9 w' v ((t n).entries.map fun e => ba e.1) := by
    unfold OwnT
    rw [List.length_map, ← hlen]
    have e1 : ((t n).entries.map fun e => ba e.1).map Value.string = (ss.mergeSort (fun x y => decide (x ≤ y))).map encStr := by
      rw [hsort, List.map_map, List.map_map]
      rfl
    rw [e1]
    exact hrow
  obtain ⟨A, c, rfl, hc, _, hst, ho⟩ := hrow'.shape
  refine ⟨A, c, by rw [List.length_map], by rw [List.length_map] at hc; exact hc, hst, fun x hx => ?_, k⟩
  subst hx
  exact hnew _ rfl

theorem doStat_err' {t : Tr} {s : Txt} {k : Nat} (h : find t s = .error k) : doStat t s = (errA k, t) := by unfold doStat; rw [h]
theorem doStat_ok {t : Tr} {s : Txt} {a : Nat} (h : find t s = .ok a) : doStat t s = (⟨0, (t a).kind, (t a).data.length + (t a).entries.length, (t a).links, [], []⟩, t) := by unfold doStat; rw [h]
theorem len_nil_ents (w : World) : (Builtin.len_ #[70] 3 #[.map none]).run Tryz.prog w = .ok (.int .i64 0) w := Maps.len_nil Tryz.underlying70 _

set_option maxRecDepth 100000 in
set_option maxHeartbeats 4000000 in
theorem stat_any (kind off n : Int) (s o : ByteArray) (dv : Value) (w : World) (L : Lay) (N : Nat) (t : Tr) (hT : TreeAt w L N t) (g : Good t) (hs : s.size ≤ 1000000) (he : Env w) (hN : N ≤ 1000000) :
    Calls Tryz.prog 24 #[.pointer (some ⟨L.tb, 0, none⟩), .agg (callC kind off n s o dv)] w (Ansd (doStat t s.data.toList).1 w) := by
  have kA : ∀ X Y, KF w ((w.alloc X).alloc Y) := fun X Y => ((KF.refl w).alloc X).alloc Y
  have HC := Lib.hid fun X Y => find_any s ((w.alloc X).alloc Y) L N t (hT.far (kA X Y)) g hs (he.kept (kA X Y))
  have HT := Lib.hid hT
  have HG := Lib.hid g
  clear hT g
  go_enter Tryz.func24, Tryz.ntmps24
  go_wp2_with fail
  refine (HC.out _ _).mono ?_
  rintro e w1 ⟨k1, ⟨k, hk, hk0, rfl⟩ | ⟨a, hf, ha0, rfl⟩⟩
  · have HU := Lib.hid hk
    have h0 : ((k : Int) != 0) = true := bne_iff_ne.2 (by omega)
    clear hk
    obtain ⟨c0, c1, c2, c3, c4, c5, f0, f1, f2, f3, f4, f5⟩ := fresh_ans k1
    go_wp2_with fail
    refine bodyPost_ret (v := .agg #[.int .i64 (k : Int), .int .i64 0, .int .i64 0, .int .i64 0, .slice none 0 0, .slice none 0 0]) (by simp [results, Tryz.results24, go_sem, c0, c1, c2, c3, c4, c5]) rfl ?_
    exact Ansd.err (fresh_six (Nat.le_succ _) (fresh_far (fresh_far k1))) k (by rw [doStat_err' HU.out])
  · have HU := Lib.hid hf
    have T1 := HT.out.far (fresh_far (fresh_far k1))
    have ct := T1.cell_tree
    have ha64 := HG.out.lt ha0
    have ln := T1.look_yes (n := a) (by omega) ha0
    clear hf
    obtain ⟨c0, c1, c2, c3, c4, c5, f0, f1, f2, f3, f4, f5⟩ := fresh_ans k1
    have hel := T1.ents_le HG.out a
    have kF : ∀ u0 u1 u2 u3 u4 u5, KF w ((((((w1.setCell ⟨w.heap.size + 1, 0, none⟩ u0).setCell ⟨w.heap.size + 1, 1, none⟩ u1).setCell ⟨w.heap.size + 1, 2, none⟩ u2).setCell ⟨w.heap.size + 1, 3, none⟩ u3).setCell ⟨w.heap.size + 1, 4, none⟩ u4).setCell ⟨w.heap.size + 1, 5, none⟩ u5).drew :=
      fun u0 u1 u2 u3 u4 u5 => (fresh_six (Nat.le_succ _) (fresh_far (fresh_far k1))).drew
    have fin : ∀ (w' : World) (kd z : Int), kd = ((t a).kind : Int) → z = ((t a).data.length + (t a).entries.length : Nat) → KF w w' → Ansd (doStat t s.data.toList).1 w (.returned (.agg #[.int .i64 0, .int .i64 kd, .int .i64 z, .int .i64 ((t a).links : Int), .slice none 0 0, .slice none 0 0])) w' := fun w' kd z hkd hz k => by
      rw [doStat_ok HU.out, hz, hkd]
      exact ⟨none, 0, none, 0, rfl, Rd.nil, Strs.nil, (fun x h => nomatch h), (fun x h => nomatch h), k⟩
    have FIN := Lib.hid fin
    have KFN := Lib.hid kF
    clear fin kF
    rcases HG.out.two ha0 with h1 | h2
    · have ck := T1.cell_kind1 h1
      have cl := T1.cell_links ha0
      have ce := T1.cell_dir h1
      have cd := T1.cell_data ha0
      obtain ⟨A0, cc, hv, hlc, hcm, hrd, hob⟩ := (T1.data a ha0).shape
      have hd0 := (HG.out.dir a h1).2
      rw [hd0] at hv
      rw [hv] at cd
      have lc := T1.drew1.len_dir HG.out h1 3
      have H1 := Lib.hid h1
      have H2 := Lib.hid hd0
      clear hv hrd hob hlc h1 hd0
      generalize hq : (t a).entries.length = q at *
      have HQ := Lib.hid hq
      have hw1 : IntKind.i64.wrap (q : Int) = (q : Int) := IntWalk.i64_in _ ⟨by omega, by omega⟩
      have hw2 : wrap64 (q : Int) = (q : Int) := by rw [← IntWalk.i64_left]; exact hw1
      clear hq
      go_upto_region 5 with fail
      go_still_tail 20, (by kernel_rfl)
      change wpList _ _ _ _ _ w1.drew
      go_wp2_with fail
      refine bodyPost_ret (v := .agg #[.int .i64 0, .int .i64 1, .int .i64 (q : Int), .int .i64 ((t a).links : Int), .slice none 0 0, .slice none 0 0]) (by simp [results, Tryz.results24, go_sem, c0, c1, c2, c3, c4, c5]) rfl ?_
      exact FIN.out _ 1 _ (by rw [H1.out]; rfl) (by rw [H2.out]; simp) (KFN.out _ _ _ _ _ _)
    · have ck := T1.cell_kind2 h2
      have cl := T1.cell_links ha0
      have ce := T1.cell_ents ha0
      rw [entV, if_neg (by omega)] at ce
      have cd := T1.cell_data ha0
      obtain ⟨A0, cc, hv, hlc, hcm, hrd, hob⟩ := (T1.data a ha0).shape
      rw [hv] at cd
      have hd512 := (HG.out.file a h2).2
      have hd0 := (HG.out.file a h2).1
      have lc := len_nil_ents w1.drew
      have H1 := Lib.hid h2
      have H2 := Lib.hid hd0
      clear hv hrd hob hlc h2 hd0
      generalize hq : (t a).data.length = q at *
      have HQ := Lib.hid hq
      have hw1 : IntKind.i64.wrap (q : Int) = (q : Int) := IntWalk.i64_in _ ⟨by omega, by omega⟩
      have hw2 : wrap64 (q : Int) = (q : Int) := by rw [← IntWalk.i64_left]; exact hw1
      clear hq
      go_upto_region 5 with fail
      go_still_tail 20, (by kernel_rfl)
      change wpList _ _ _ _ _ w1.drew
      go_wp2_with fail
      refine bodyPost_ret (v := .agg #[.int .i64 0, .int .i64 2, .int .i64 (q : Int), .int .i64 ((t a).links : Int), .slice none 0 0, .slice none 0 0]) (by simp [results, Tryz.results24, go_sem, c0, c1, c2, c3, c4, c5]) rfl ?_
      exact FIN.out _ 2 _ (by rw [H1.out]; rfl) (by rw [H2.out]; simp) (KFN.out _ _ _ _ _ _)

theorem doList_err' {t : Tr} {s : Txt} {k : Nat} (h : find t s = .error k ∨ ∃ n, find t s = .ok n ∧ (t n).kind ≠ 1 ∧ k = 23) : doList t s = (errA k, t) := by
  unfold doList
  rcases h with h | ⟨n, h, hn, rfl⟩
  · rw [h]
  · rw [h]; exact if_pos hn
theorem doList_ok {t : Tr} {s : Txt} {a : Nat} (h : find t s = .ok a) (h1 : (t a).kind = 1) : doList t s = (⟨0, 0, 0, 0, [], (t a).entries.map (·.1)⟩, t) := by
  unfold doList
  rw [h]
  exact if_neg (by omega)

set_option maxRecDepth 100000 in
set_option maxHeartbeats 4000000 in
theorem list_any (kind off n : Int) (s o : ByteArray) (dv : Value) (w : World) (L : Lay) (N : Nat) (t : Tr) (hT : TreeAt w L N t) (g : Good t) (hs : s.size ≤ 1000000) (he : Env w) (hN : N ≤ 1000000) :
    Calls Tryz.prog 25 #[.pointer (some ⟨L.tb, 0, none⟩), .agg (callC kind off n s o dv)] w (Ansd (doList t s.data.toList).1 w) := by
  have kA : ∀ X Y, KF w ((w.alloc X).alloc Y) := fun X Y => ((KF.refl w).alloc X).alloc Y
  have HC := Lib.hid fun X Y => findDir_any s ((w.alloc X).alloc Y) L N t (hT.far (kA X Y)) g hs (he.kept (kA X Y))
  have HT := Lib.hid hT
  have HG := Lib.hid g
  clear hT g
  go_enter Tryz.func25, Tryz.ntmps25
  go_wp2_with fail
  refine (HC.out _ _).mono ?_
  rintro e w1 ⟨k1, ⟨k, hk, hk0, rfl⟩ | ⟨a, hf, h1, rfl⟩⟩
  · have HU := Lib.hid hk
    have h0 : ((k : Int) != 0) = true := bne_iff_ne.2 (by omega)
    clear hk
    obtain ⟨c0, c1, c2, c3, c4, c5, f0, f1, f2, f3, f4, f5⟩ := fresh_ans k1
    go_wp2_with fail
    refine bodyPost_ret (v := .agg #[.int .i64 (k : Int), .int .i64 0, .int .i64 0, .int .i64 0, .slice none 0 0, .slice none 0 0]) (by simp [results, Tryz.results25, go_sem, c0, c1, c2, c3, c4, c5]) rfl ?_
    exact Ansd.err (fresh_six (Nat.le_succ _) (fresh_far (fresh_far k1))) k (by rw [doList_err' HU.out])
  · have HU := Lib.hid hf
    have T1 := HT.out.far (fresh_far (fresh_far k1))
    have ce := T1.cell_dir h1
    have kw1 := fresh_far (fresh_far k1)
    have HK := Lib.hid (strKeys_any (some (L.eb a)) w1)
    have HS := Lib.hid (T1.sorted_dir HG.out hN h1)
    have hws := kw1.size
    clear hf
    go_wp2_with fail
    refine HK.out.mono ?_
    rintro e w2 ⟨rfl, rfl⟩
    go_wp2_with fail
    refine HS.out.mono ?_
    rintro e w3 ⟨A, c, rfl, hc, hst, hnew, k3⟩
    obtain ⟨c0, c1, c2, c3, c4, c5, f0, f1, f2, f3, f4, f5⟩ := fresh_ans (KF.trans k1 k3)
    have HST := Lib.hid hst
    have HNW := Lib.hid hnew
    have H1 := Lib.hid h1
    clear hst hnew h1
    generalize hq : (t a).entries.length = q at *
    have HQ := Lib.hid hq
    clear hq
    go_wp2_with fail
    refine bodyPost_ret (v := .agg #[.int .i64 0, .int .i64 0, .int .i64 0, .int .i64 0, .slice none 0 0, .slice A q c]) (by simp [results, Tryz.results25, go_sem, c0, c1, c2, c3, c4, c5]) rfl ?_
    rw [doList_ok HU.out H1.out]
    have hs2 : w.heap.size + 2 ≤ w1.heap.size := Nat.le_trans (show w.heap.size + 2 ≤ ((w.alloc (.cells (callC kind off n s o dv) 31)).alloc (.cells #[.int .i64 0, .int .i64 0, .int .i64 0, .int .i64 0, .slice none 0 0, .slice none 0 0] 36)).heap.size by simp) k1.size
    have k6 := keep_six w3 (.int .i64 0) (.int .i64 0) (.int .i64 0) (.int .i64 0) (.slice none 0 0) (.slice A q c) (w.heap.size + 1)
    have e0 : q = ((t a).entries.map (·.1)).length := by rw [List.length_map, HQ.out]
    refine ⟨none, 0, A, c, by rw [e0]; rfl, Rd.nil, ?_, (fun x h => nomatch h), fun x hx => by have := HNW.out x hx; omega, Keep.trans (KF.trans kw1 k3) k6 fun i hi e => by omega⟩
    have e1 : ((t a).entries.map (·.1)).map ba = (t a).entries.map fun e => ba e.1 := by rw [List.map_map]; rfl
    show Strs _ _ A (((t a).entries.map (·.1)).map ba)
    rw [e1]
    exact HST.out.keepS k6 fun x hx e => by have := HNW.out x hx; omega
end Go.Proofs.YtlkiaghpdjbfeaaGreatDoor
