/-
  The program's removeDirectory; what a call that changes a tree answers, and leaves.
  The reference's Find.
  The document's Join.
-/
import Derived.Test.YtlkiaghpdjbfeaaGreatDoorPhPlace
import Derived.Deep.CutRange
import Derived.Deep.DeepCutAuto
import Derived.Deep.RegionWith
import Derived.Deep.RegionLaw
import Derived.Test.YtlkiaghpdjbfeaaGreatDoorPk1
import Derived.Test.YtlkiaghpdjbfeaaGreatDoorPk3
import Derived.Test.YtlkiaghpdjbfeaaGreatDoorPhFind
import Derived.Test.YtlkiaghpdjbfeaaGreatDoorPhJoin
import Derived.Deep.LoopGhost
namespace Go.Proofs.YtlkiaghpdjbfeaaGreatDoor
open Go.RowKit Go.Maps

/-- A call's cells. -/
abbrev callC (kind off n : Int) (p o : ByteArray) (dv : Value) : Array Value := #[.int .i64 kind, .string p, .string o, .int .i64 off, .int .i64 n, dv]

/-- What a call that changes a tree answers, and leaves. -/
def Changed (L : Lay) (N : Nat) (t : Tr) (r : TAns × Tr) (w : World) (e : Ending) (w' : World) : Prop :=
  e = .returned (.int .i64 (r.1.err : Int)) ∧ ∃ L' : Lay, L'.tb = L.tb ∧ TreeAt w' L' (N + 1) r.2 ∧ Keep (Foot L t) w w' ∧ ∀ k, Foot L' r.2 k → Foot L t k ∨ w.heap.size ≤ k

section
variable {w w' : World} {L : Lay} {N : Nat} {t : Tr}
theorem KF.keep {S : Nat → Prop} (k : KF w w') : Keep S w w' := Keep.mono k fun _ _ h => h.elim
theorem Changed.err (hT : TreeAt w L N t) (k : KF w w') {r : TAns × Tr} {c : Nat} (hr : r = (errA c, t)) : Changed L N t r w (.returned (.int .i64 (c : Int))) w' := by
  subst hr
  exact ⟨rfl, L, rfl, (hT.far k).mono (Nat.le_succ _), k.keep, fun _ h => .inl h⟩
theorem Changed.quiet (hT : TreeAt w L N t) (k : KF w w') {r : TAns × Tr} (hr : r = (okA, t)) : Changed L N t r w (.returned (.int .i64 0)) w' := by
  subst hr
  exact ⟨rfl, L, rfl, (hT.far k).mono (Nat.le_succ _), k.keep, fun _ h => .inl h⟩
theorem foot_eb {d : Nat} (hd : (t d).kind = 1) : Foot L t (L.eb d) := .inr (.inr ⟨d, by omega, .inr (.inl ⟨hd, rfl⟩)⟩)
theorem foot_nb {d : Nat} (hd : (t d).kind ≠ 0) : Foot L t (L.nb d) := .inr (.inr ⟨d, hd, .inl rfl⟩)
theorem foot_mb : Foot L t L.mb := .inr (.inl rfl)
theorem foot_tb : Foot L t L.tb := .inl rfl
theorem foot_rows {d : Nat} {es : Row} {k : Nat} : Foot L (t.rows d es) k ↔ Foot L t k := by
  unfold Foot
  simp only [Tr.rows_kind]
theorem foot_gone {a : Nat} {k : Nat} (h : Foot L (t.set a noNode) k) : Foot L t k := by
  rcases h with h | h | ⟨n, hn, h⟩
  · exact .inl h
  · exact .inr (.inl h)
  · by_cases e : n = a
    · subst e; rw [Tr.set_same] at hn; exact absurd rfl hn
    · rw [Tr.set_other e] at hn h; exact .inr (.inr ⟨n, hn, h⟩)
end

theorem doRmdir_err' {t : Tr} {s : Txt} {k : Nat} (h : findUp t s = .error k) : doRmdir t s = (errA k, t) := by unfold doRmdir; rw [h]
theorem drop_dirF (es : Row) (x : Txt) : dirF (drop es x) = upd (dirF es) (.string x) none := upd_dirF es _ x none (by rw [look_drop, if_pos rfl]) fun y h => by rw [look_drop, if_neg h]
theorem TreeAt.drew1 {w : World} {L : Lay} {N : Nat} {t : Tr} (h : TreeAt w L N t) : TreeAt w.drew L N t := h.far (KF.refl w).drew
theorem put_dirF (es : Row) (x : Txt) (k : Nat) : dirF (put es x k) = upd (dirF es) (.string x) (some (numV k)) := upd_dirF es _ x (some k) (by rw [look_put, if_pos rfl]) fun y h => by rw [look_put, if_neg h]
theorem names_nodup {es : Row} (h : Rising es) : (es.map (·.1)).Nodup := List.pairwise_map.2 (h.imp fun hab => less_ne hab)
theorem names_look {es : Row} (x : Txt) : x ∈ es.map (·.1) ↔ (look es x).isSome = true := by
  induction es with
  | nil => simp [look]
  | cons e r ih =>
    rw [List.map_cons, List.mem_cons, look]
    by_cases h : e.1 = x
    · rw [if_pos h]; simp [h]
    · rw [if_neg h, ← ih]
      constructor
      · rintro (h' | h')
        · exact absurd h'.symm h
        · exact h'
      · exact .inr
theorem TreeAt.len_dir {w : World} {L : Lay} {N : Nat} {t : Tr} (h : TreeAt w L N t) (g : Good t) {n : Nat} (hn : (t n).kind = 1) (ty : TypeId) : (Builtin.len_ #[70] ty #[.map (some (L.eb n))]).run Tryz.prog w = .ok (.int .i64 ((t n).entries.length : Int)) w := by
  have := (h.dir n hn).len_strs (xs := (t n).entries.map (·.1)) TreeAt.str_law Tryz.underlying9 Tryz.underlying70 (names_nodup (g.rising n)) (fun x hx => by
    obtain ⟨e, he, rfl⟩ := List.mem_map.1 hx
    have := (g.entry n e he).1.2.2.1
    simp only [maxLen]; omega) (fun x _ => by rw [names_look, dir_look]; cases look (t n).entries x <;> rfl) ty
  rw [this, List.length_map]
/-- What deleting, or storing, an entry leaves, in whatever order the statement is carried out. -/
theorem TreeAt.drop_name {w : World} {L : Lay} {N : Nat} {t : Tr} (h : TreeAt w L N t) {d : Nat} (hd : (t d).kind = 1) {x : Txt} (hx : x.length ≤ 16) (ty : TypeId) :
    ∃ w', (Builtin.delete_ #[70, 9] ty #[.map (some (L.eb d)), .string (ba x)]).run Tryz.prog w = .ok (.tuple #[]) w' ∧ TreeAt w' L N (t.rows d (drop (t d).entries x)) ∧ Keep (fun b => b = L.eb d) w w' := by
  obtain ⟨w', hr, hm, ht⟩ := (h.dir d hd).drop TreeAt.str_law Tryz.underlying70 (Go.WideMaps.keyOf_string_mk Tryz.underlying9 (s := ba x) (by rw [ba_size]; simp only [maxLen]; omega)) ty
  refine ⟨w', hr, ?_, Keep.turned ht⟩
  exact h.dir_turn hd (Keep.turned ht) (Nat.le_refl _) _ (by rw [drop_dirF]; exact hm)
theorem TreeAt.drop_node {w : World} {L : Lay} {N : Nat} {t : Tr} (h : TreeAt w L N t) {a : Nat} (ha : a < 64) (ty : TypeId) :
    ∃ w', (Builtin.delete_ #[50, 3] ty #[.map (some L.mb), .int .i64 (a : Int)]).run Tryz.prog w = .ok (.tuple #[]) w' ∧ TreeAt w' L N (t.set a noNode) ∧ Keep (fun b => b = L.mb) w w' := by
  obtain ⟨w', hr, hm, ht⟩ := h.map.drop TreeAt.int_law Tryz.underlying50 (keyOf_int_mk Tryz.underlying3 (wf_node (n := a) (by omega))) ty
  exact ⟨w', hr, h.gone a (Keep.turned ht) hm, Keep.turned ht⟩
set_option maxRecDepth 100000 in
theorem rmdir_any (kind off n : Int) (s o : ByteArray) (dv : Value) (w : World) (L : Lay) (N : Nat) (t : Tr) (hT : TreeAt w L N t) (g : Good t) (hs : s.size ≤ 1000000) (he : Env w) (_hN : N ≤ 1000000) :
    Calls Tryz.prog 47 #[.pointer (some ⟨L.tb, 0, none⟩), .agg (callC kind off n s o dv)] w (Changed L N t (doRmdir t s.data.toList) w) := by
  have kA : ∀ X, KF w (w.alloc X) := fun X => (KF.refl w).alloc X
  have HC := Lib.hid fun X => findEntry_any s (w.alloc X) L N t (hT.far (kA X)) g hs (he.kept (kA X))
  have HT := Lib.hid hT
  have HG := Lib.hid g
  clear hT g
  go_enter Tryz.func47, Tryz.ntmps47
  go_wp2_with fail
  refine (HC.out _).mono ?_
  rintro e w1 ⟨k1, ⟨k, hk, hk0, rfl⟩ | ⟨a, d, x, hd, hd1, hx, hla, rfl⟩⟩
  · have HU := Lib.hid hk
    have h0 : ((k : Int) != 0) = true := bne_iff_ne.2 (by omega)
    clear hk
    go_wp2_with fail
    go_ret
    exact Changed.err HT.out ((fresh_far k1).alloc _) (doRmdir_err' HU.out)
  · have HU := Lib.hid hd
    have HX := Lib.hid hx
    have T1 := HT.out.far (fresh_far k1)
    have hl16 := hx.2.2.1
    have HL := Lib.hid hla
    have ha := (HG.out.name_le hla)
    clear hd hx hla
    obtain ⟨w2, hw2⟩ : ∃ w2, w1.alloc (.cells #[.pointer (some ⟨L.nb d, 0, none⟩), .string (ba x)] 138) = w2 := ⟨_, rfl⟩
    have k2 : KF (w1.alloc (.cells #[.pointer (some ⟨L.nb d, 0, none⟩), .string (ba x)] 138)) w2 := hw2 ▸ KF.refl _
    have d0 := fresh_cell k2 0 rfl
    have d1 := fresh_cell k2 1 rfl
    have T2 := T1.far (fresh_far k2)
    have ct := T2.cell_tree
    have ln := T2.look_yes (n := a) (by omega) ha.2.2.1
    have cd := T2.cell_dir hd1
    have HW := Lib.hid hw2
    have kw2 := KF.trans (fresh_far k1) (fresh_far k2)
    clear hw2
    rcases HG.out.two ha.2.2.1 with h1 | h2
    · have ck := T2.cell_kind1 h1
      have ce := T2.cell_dir h1
      have lc := T2.len_dir HG.out h1 3
      rcases hent : (t a).entries with _ | ⟨e0, er⟩
      · rw [hent] at lc
        have HE := Lib.hid hent
        have H1 := Lib.hid h1
        clear hent h1
        simp only [List.length_nil] at lc
        obtain ⟨w3, hdel, T3, k3⟩ := (T2.drew1).drop_name hd1 hl16 0
        have HT3 := Lib.hid T3
        have ct3 := T3.cell_tree
        obtain ⟨w4, hdel4, T4, k4⟩ := T3.drop_node ha.2.1 0
        have HT4 := Lib.hid T4
        clear T3 T4
        go_upto_region 4 with fail
        rw [HW.out]
        go_upto_region 8 with fail
        go_region
        all_goals (go_wp2_with fail)
        go_ret
        have hl1 : (t a).links = 1 := (HG.out.dir a H1.out).1
        have hr : doRmdir t s.data.toList = (okA, (t.rows d (drop (t d).entries x)).set a noNode) := by
          unfold doRmdir
          rw [HU.out]
          show (if (t a).kind ≠ 1 then _ else _) = _
          rw [if_neg (by rw [H1.out]; decide), if_neg (by rw [HE.out]; decide)]
          unfold unlinked
          rw [if_pos hl1]
        rw [hr]
        exact ⟨rfl, L, rfl, HT4.out.mono (Nat.le_succ _), ((kw2.keep (S := Foot L t)).drew.trans k3 fun i _ hi => hi ▸ foot_eb hd1).trans k4 fun i _ hi => hi ▸ foot_mb, fun k hk => .inl (foot_rows.1 (foot_gone hk))⟩
      · rw [hent] at lc
        have HE := Lib.hid hent
        have H1 := Lib.hid h1
        have hpos : (0 : Int) < ((e0 :: er).length : Int) := by rw [List.length_cons]; omega
        clear hent h1
        generalize (e0 :: er).length = ll at lc hpos
        go_upto_region 4 with fail
        rw [HW.out]
        go_wp2_with fail
        go_ret
        refine Changed.err (c := 25) HT.out kw2 ?_
        unfold doRmdir
        rw [HU.out]
        show (if (t a).kind ≠ 1 then _ else _) = _
        rw [if_neg (by rw [H1.out]; decide), if_pos (by rw [HE.out]; simp)]
    · have ck := T2.cell_kind2 h2
      have H2 := Lib.hid h2
      clear h2
      go_upto_region 4 with fail
      rw [HW.out]
      go_wp2_with fail
      go_ret
      refine Changed.err (c := 23) HT.out kw2 ?_
      unfold doRmdir
      rw [HU.out]
      exact if_pos (by rw [H2.out]; decide)
end Go.Proofs.YtlkiaghpdjbfeaaGreatDoor

namespace Go.Proofs.YtlkiaghpdjbfeaaGreatDoor
open Go.RowKit
variable {Zp : Nat → Prop}

/-- The reference's tree of a good tree whose rows are bounded. -/
def Small (t : Tr) : Prop := ∀ n, (t n).entries.length ≤ 1000000
set_option maxRecDepth 100000 in
theorem rfind_any (s : ByteArray) (w : World) (g : Nat) (t : Tr) (hT : RefAt Zp w g t) (G : Good t) (hb : Small t) (hs : s.size ≤ 1000) :
    Calls Tryz.prog 56 #[.pointer (some ⟨g, 0, none⟩), .string s] w (Finds t s.data.toList w) := by
  have C := Lib.hid (rsplit_any s w hs)
  have HT := Lib.hid hT
  have HG := Lib.hid G
  have HB := Lib.hid hb
  clear hT G hb
  go_enter Tryz.func56, Tryz.ntmps56
  go_wp2_with fail
  refine C.out.mono ?_
  rintro e w1 ⟨k1, ⟨hno, A, n, c, rfl⟩ | ⟨ps, A, c, hp, rfl, hc, h9, hst⟩⟩
  · have HN := Lib.hid hno
    clear hno
    go_wp2_with fail
    go_ret2
    exact ⟨k1, .inl ⟨20, by unfold find; rw [HN.out], by decide, rfl⟩⟩
  · have HP := Lib.hid hp
    have HS := Lib.hid hst
    have h8 : ps.length ≤ 8 := (pathM_some hp).2.1
    clear hp hst
    generalize hl : ps.length = l at *
    have HL := Lib.hid hl
    clear hl
    have T1 := Lib.hid (HT.out.kept k1)
    have K1 := Lib.hid k1
    clear k1
    go_wp2_with fail
    go_loopg [8, 9] l (fun gh s8 i wr => ∃ k n : Nat, k ≤ l ∧ l - k ≤ gh ∧ s8 = .int .i64 n ∧ i = .int .i64 k ∧ Hid (KF w1 wr) ∧ Hid (walk t 0 ps = walk t n (ps.drop k)) ∧ Hid ((t n).kind ≠ 0))
    case atStart => exact ⟨0, 0, by omega, by omega, rfl, rfl, Lib.hid (KF.refl _), Lib.hid rfl, Lib.hid (by rw [HG.out.root.1]; decide)⟩
    case round =>
      obtain ⟨k, n, hk, hg, rfl, rfl, KR, HW, HK⟩ := hrel
      have hn64 : n < 64 := HG.out.lt HK.out
      have hn64' : (n : Int) < 64 := by omega
      have T2 := Lib.hid (T1.out.kept KR.out)
      have ck := (T2.out.node n hn64).kind
      rcases Nat.lt_or_ge k l with hlt | hge
      · have hlt' : (k : Int) < (l : Int) := by omega
        have q1 : k < ps.length := by rw [HL.out]; exact hlt
        obtain ⟨b, o, rfl, hbb, hc0⟩ := HS.out k (ba ps[k]) (by rw [List.getElem?_map, List.getElem?_eq_getElem q1]; rfl)
        have hc1 := (KR.out.cell (p := ⟨b, o + k, none⟩) hbb).trans hc0
        clear hc0
        have HD := Lib.hid (show ps.drop k = ps[k] :: ps.drop (k + 1) from List.drop_eq_getElem_cons q1)
        rcases HG.out.two HK.out with h1 | h2
        · have HE := Lib.hid (rentry_any wr g t n ps[k] T2.out hn64 (HB.out n))
          rw [h1] at ck
          rcases hlook : look (t n).entries ps[k] with _ | m
          · rw [hlook] at HE
            have HX := Lib.hid hlook
            have H1 := Lib.hid h1
            clear hlook h1
            generalize ba ps[k] = x at hc1 HE
            have HE2 : Hid (Calls Tryz.prog 92 #[.pointer (some ⟨g, 0, none⟩), .int .i64 n, .string x] wr fun e w' => e = .returned (.int .i64 (-1)) ∧ KF wr w') := HE
            clear HE
            go_wp2_with fail
            refine HE2.out.mono ?_
            rintro e w2 ⟨rfl, k2⟩
            go_wp2_with fail
            go_ret2
            refine ⟨KF.trans K1.out (KF.trans KR.out k2), .inl ⟨21, ?_, by decide, rfl⟩⟩
            unfold find
            rw [HP.out]
            show walk t 0 ps = _
            rw [HW.out, HD.out, walk, if_neg (by rw [H1.out]; decide), HX.out]
          · rw [hlook] at HE
            have HX := Lib.hid hlook
            have H1 := Lib.hid h1
            have HM := Lib.hid (HG.out.name_le hlook).2.2.1
            clear hlook h1
            generalize ba ps[k] = x at hc1 HE
            have HE2 : Hid (Calls Tryz.prog 92 #[.pointer (some ⟨g, 0, none⟩), .int .i64 n, .string x] wr fun e w' => e = .returned (.int .i64 m) ∧ KF wr w') := HE
            have hm0 : ¬ (m : Int) < 0 := by omega
            clear HE
            go_wp2_with fail
            refine HE2.out.mono ?_
            rintro e w2 ⟨rfl, k2⟩
            have K3 := Lib.hid (KF.trans KR.out k2)
            clear k2
            go_wp2_with fail
            go_roundg (l - (k + 1))
            case measure => omega
            case rel =>
              refine ⟨k + 1, m, by omega, by omega, rfl, by go_num, K3, Lib.hid ?_, HM⟩
              rw [HW.out, HD.out, walk, if_neg (by rw [H1.out]; decide), HX.out]
        · have H2 := Lib.hid h2
          rw [h2] at ck
          clear h2
          go_wp2_with fail
          go_ret2
          refine ⟨KF.trans K1.out KR.out, .inl ⟨23, ?_, by decide, rfl⟩⟩
          unfold find
          rw [HP.out]
          show walk t 0 ps = _
          rw [HW.out, HD.out, walk, if_pos (by rw [H2.out]; decide)]
      · obtain rfl : k = l := by omega
        have hlt' : ¬ (k : Int) < (k : Int) := by omega
        go_wp2_with fail
        go_ret2
        refine ⟨KF.trans K1.out KR.out, .inr ⟨n, ?_, HK.out, rfl⟩⟩
        unfold find
        rw [HP.out]
        show walk t 0 ps = _
        rw [HW.out, List.drop_eq_nil_of_le (by rw [HL.out]; exact Nat.le_refl _), walk]
end Go.Proofs.YtlkiaghpdjbfeaaGreatDoor

namespace Go.Proofs.YtlkiaghpdjbfeaaGreatDoor
open Go.RowKit

/-- How many bytes texts have. -/
abbrev total (ps : List Txt) : Nat := Lib.lens ps
theorem total_cons (p : Txt) (q : List Txt) : total (p :: q) = p.length + total q := by simp [total, Lib.lens]
theorem total_mem {ps : List Txt} {p : Txt} (h : p ∈ ps) : p.length ≤ total ps := by
  induction ps with
  | nil => cases h
  | cons a q ih =>
    rw [total_cons]
    rcases List.mem_cons.1 h with rfl | h
    · omega
    · have := ih h; omega
theorem total_take (ps : List Txt) (k : Nat) : total (ps.take k) ≤ total ps := Lib.lens_take_le ps k
theorem joined_total (ps : List Txt) : (joined ps).length ≤ total ps + ps.length := by
  cases ps with
  | nil => simp [joined, Lib.join, List.intercalate]
  | cons p q =>
    have : (joined (p :: q)).length = 1 * q.length + total (p :: q) := Lib.join_length p q [47]
    rw [List.length_cons]
    omega
/-- Each name with a slash ahead. -/
def led (ps : List Txt) : Txt := ps.flatMap fun p => 47 :: p
theorem led_snoc (ps : List Txt) (p : Txt) : led (ps ++ [p]) = led ps ++ 47 :: p := by simp [led]
theorem led_length (ps : List Txt) : (led ps).length = total ps + ps.length := by
  induction ps with
  | nil => rfl
  | cons p q ih =>
    have e : led (p :: q) = 47 :: p ++ led q := rfl
    rw [e, List.length_append, ih, total_cons, List.length_cons, List.length_cons]
    omega
theorem led_joinM : ∀ {ps : List Txt}, ps ≠ [] → led ps = joinM ps
  | [], h => absurd rfl h
  | [p], _ => by
    rw [joinM_one]
    simp [led]
  | p :: q :: r, _ => by
    have e : led (p :: q :: r) = 47 :: p ++ led (q :: r) := rfl
    rw [e, led_joinM (by simp), joinM, joinM, joined_cons_cons]
    rfl
theorem take_snoc {ps : List Txt} {k : Nat} (h : k < ps.length) : ps.take (k + 1) = ps.take k ++ [ps[k]] := by
  rw [List.take_add_one, List.getElem?_eq_getElem h]
  rfl
theorem joined_snoc (ps : List Txt) (p : Txt) (h : ps ≠ []) : joined (ps ++ [p]) = joined ps ++ 47 :: p := by
  have := above_def ps p h
  rw [joinM, joinM] at this
  injection this

set_option maxRecDepth 100000 in
theorem rjoin_any (A : Option Addr) (ps : List Txt) (n c : Nat) (w : World) (hn : n = ps.length) (hb : total ps ≤ 2000000) (hb2 : n ≤ 1000) (h : Strs w w.heap.size A (ps.map ba)) :
    Calls Tryz.prog 94 #[.slice A n c] w fun e w' => e = .returned (.string (ba (joinM ps))) ∧ KF w w' := by
  have HS := Lib.hid h
  have HN := Lib.hid hn
  clear h hn
  go_enter Tryz.func94, Tryz.ntmps94
  go_wp2_with fail
  go_loopg [3, 4] n (fun g s3 i wr => ∃ k : Nat, k ≤ n ∧ n - k ≤ g ∧ s3 = .string (ba (led (ps.take k))) ∧ i = .int .i64 k ∧ wr = w)
  case atStart => exact ⟨0, by omega, by omega, rfl, rfl, rfl⟩
  case round =>
    obtain ⟨k, hk, hg, rfl, rfl, rfl⟩ := hrel
    rcases Nat.lt_or_ge k n with hlt | hge
    · have hlt' : (k : Int) < (n : Int) := by omega
      have q1 : k < ps.length := by rw [← HN.out]; exact hlt
      obtain ⟨b, o, rfl, hbb, hcell⟩ := World.cellAt HS.out (n := k) (by rw [List.length_map]; exact q1)
      rw [List.getElem_map] at hcell
      have z1 : (ba (led (ps.take k))).size ≤ 3000000 := by
        rw [ba_size, led_length, List.length_take]
        have := total_take ps k
        omega
      have z2 : (ba ps[k]).size ≤ 3000000 := by
        rw [ba_size]
        have := total_mem (List.getElem_mem q1)
        omega
      have hE : ba (led (ps.take k)) ++ (⟨#[47]⟩ ++ ba ps[k]) = ba (led (ps.take (k + 1))) := by
        rw [take_snoc q1, led_snoc]
        apply ba_ext.1
        simp [ByteArray.data_append]
      have HE := Lib.hid hE
      clear hE
      generalize ba ps[k] = x at hcell z2 HE
      generalize ba (led (ps.take k)) = y at z1 HE ⊢
      generalize hY : ba (led (ps.take (k + 1))) = y2 at HE
      have HY := Lib.hid hY
      clear hY
      go_wp2_with fail
      go_roundg (n - (k + 1))
      case measure => omega
      case rel => exact ⟨k + 1, by omega, by omega, by rw [HY.out, ← HE.out], by go_num, rfl⟩
    · obtain rfl : k = n := by omega
      have hlt' : ¬ (k : Int) < (k : Int) := by omega
      have e : ps.take k = ps := by rw [HN.out, List.take_length]
      rw [e]
      by_cases hps : ps = []
      · subst hps
        have e2 : ba (led []) = ⟨#[]⟩ := rfl
        rw [e2]
        go_wp2_with fail
        go_ret
        exact ⟨rfl, KF.refl _⟩
      · have hE : (ba (led ps)).toList.isEmpty = false := by
          rw [Lib.toList_data, led_joinM hps]
          rfl
        have HJ := Lib.hid (show ba (led ps) = ba (joinM ps) by rw [led_joinM hps])
        have hE2 : ¬ (ba (led ps)).toList = [] := fun h => by rw [h] at hE; cases hE
        generalize ba (led ps) = y at hE hE2 HJ ⊢
        go_wp2_with fail
        go_ret
        exact ⟨by rw [← HJ.out]; rfl, KF.refl _⟩
end Go.Proofs.YtlkiaghpdjbfeaaGreatDoor
