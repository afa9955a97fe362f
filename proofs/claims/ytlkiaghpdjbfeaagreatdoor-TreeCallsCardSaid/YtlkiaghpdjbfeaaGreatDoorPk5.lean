/-
  The program's rename.
  The program's list of a node's entries.
  The program's Nodes.
  The reference's do, whatever the call.
  The reference's SameAnswer, of two answers that are one.
-/
import Derived.Test.YtlkiaghpdjbfeaaGreatDoorPhUnlink
import Derived.Test.YtlkiaghpdjbfeaaGreatDoorPhStat
import Derived.Test.YtlkiaghpdjbfeaaGreatDoorPk1
import Derived.Deep.LoopGhost
import Derived.Test.YtlkiaghpdjbfeaaGreatDoorPhRead
import Derived.Test.YtlkiaghpdjbfeaaGreatDoorPhAdd
import Derived.Test.YtlkiaghpdjbfeaaGreatDoorPhNodes
import Derived.Deep.RegionHeld3
import Derived.Test.YtlkiaghpdjbfeaaGreatDoorPk3
import Derived.Test.YtlkiaghpdjbfeaaGreatDoorPhRefCreate
import Derived.Test.YtlkiaghpdjbfeaaGreatDoorPhRefCut
import Derived.Test.YtlkiaghpdjbfeaaGreatDoorPhRefGone2
import Derived.Test.YtlkiaghpdjbfeaaGreatDoorPhRefRen
import Derived.Test.YtlkiaghpdjbfeaaGreatDoorPhRefWrite
import Derived.Test.YtlkiaghpdjbfeaaGreatDoorPhRefList
import Derived.Test.YtlkiaghpdjbfeaaGreatDoorPhRef
namespace Go.Proofs.YtlkiaghpdjbfeaaGreatDoor
open Go.RowKit Go.Maps

theorem doRename_err' {t : Tr} {s o : Txt} {k : Nat} (h : findUp t s = .error k) : doRename t s o = (errA k, t) := by unfold doRename; rw [h]
theorem doRename_ok {t : Tr} {s o : Txt} {a p : Nat} {x : Txt} (h : findUp t s = .ok (a, p, x)) : doRename t s o = if o = s then (okA, t) else if insideM o s = true then (errA 26, t) else match place t o with
    | .error e => (errA e, t) | .ok (d, y) => (okA, moved t a p x d y) := by
  unfold doRename
  rw [h]
  simp only
  split
  · rfl
  · split
    · rfl
    · rcases place t o with e | ⟨d, y⟩ <;> rfl

set_option maxRecDepth 100000 in
set_option maxHeartbeats 4000000 in
theorem rename_any (kind off n : Int) (s o : ByteArray) (dv : Value) (w : World) (L : Lay) (N : Nat) (t : Tr) (hT : TreeAt w L N t) (g : Good t) (hs : s.size ≤ 1000000) (ho : o.size ≤ 1000000) (he : Env w) (hN : N ≤ 1000000) :
    Calls Tryz.prog 50 #[.pointer (some ⟨L.tb, 0, none⟩), .agg (callC kind off n s o dv)] w (Changed L N t (doRename t s.data.toList o.data.toList) w) := by
  have kA : ∀ X, KF w (w.alloc X) := fun X => (KF.refl w).alloc X
  have HC := Lib.hid fun X => findEntry_any s (w.alloc X) L N t (hT.far (kA X)) g hs (he.kept (kA X))
  have HP := Lib.hid fun w1 (k1 : KF w w1) => findPlace_any o w1 L N t (hT.far k1) g ho (he.kept k1)
  have HI := Lib.hid fun w1 (k1 : KF w w1) => inside_any o s w1 ho hs (he.kept k1)
  have HT := Lib.hid hT
  have HG := Lib.hid g
  clear hT g
  go_enter Tryz.func50, Tryz.ntmps50
  go_wp2_with fail
  refine (HC.out _).mono ?_
  rintro e w1 ⟨k1, ⟨k, hk, hk0, rfl⟩ | ⟨a, d, x, hd, hd1, hx, hla, rfl⟩⟩
  · have HU := Lib.hid hk
    have h0 : ((k : Int) != 0) = true := bne_iff_ne.2 (by omega)
    clear hk
    go_wp2_with fail
    go_ret
    exact Changed.err HT.out ((fresh_far k1).alloc _) (doRename_err' HU.out)
  · have HU := Lib.hid hd
    have T1 := HT.out.far (fresh_far k1)
    have hl16 := hx.2.2.1
    have HL := Lib.hid hla
    have ha := (HG.out.name_le hla)
    have c1 := fresh_cell k1 1 rfl
    have c2 := fresh_cell k1 2 rfl
    have hlt := Nat.lt_of_lt_of_le (show w.heap.size < (w.alloc (.cells (callC kind off n s o dv) 31)).heap.size by simp) k1.size
    clear hd hx hla
    obtain ⟨w2, hw2⟩ : ∃ w2, w1.alloc (.cells #[.pointer (some ⟨L.nb d, 0, none⟩), .string (ba x)] 138) = w2 := ⟨_, rfl⟩
    have k2 : KF (w1.alloc (.cells #[.pointer (some ⟨L.nb d, 0, none⟩), .string (ba x)] 138)) w2 := hw2 ▸ KF.refl _
    have hlt2 := Nat.lt_of_lt_of_le (show w1.heap.size < (w1.alloc (.cells #[.pointer (some ⟨L.nb d, 0, none⟩), .string (ba x)] 138)).heap.size by simp) k2.size
    have d0 := fresh_cell k2 0 rfl
    have d1 := fresh_cell k2 1 rfl
    have q1 := ((fresh_far k2).cell (p := ⟨w.heap.size, 1, none⟩) hlt).trans c1
    have q2 := ((fresh_far k2).cell (p := ⟨w.heap.size, 2, none⟩) hlt).trans c2
    have T2 := T1.far (fresh_far k2)
    have HW := Lib.hid hw2
    have kw2 := KF.trans (fresh_far k1) (fresh_far k2)
    clear hw2 c1 c2
    by_cases hos : o = s
    · have HO := Lib.hid hos
      subst hos
      have hq : (o.toList == o.toList) = true := beq_self_eq_true _
      go_upto_region 4 with fail
      rw [HW.out]
      go_wp2_with fail
      go_ret
      refine Changed.quiet HT.out kw2 ?_
      rw [doRename_ok HU.out, if_pos rfl]
    · have HO : Hid (o.data.toList ≠ s.data.toList) := Lib.hid fun h => hos (ba_ext.1 h)
      have hq : (o.toList == s.toList) = false := by
        rw [Lib.toList_data, Lib.toList_data]
        exact beq_eq_false_iff_ne.2 HO.out
      clear hos
      by_cases hin : insideM o.data.toList s.data.toList = true
      · have HI2 := HI.out w2 kw2
        rw [hin] at HI2
        have HI3 := Lib.hid HI2
        have HN := Lib.hid hin
        clear HI2 hin HI
        go_upto_region 4 with fail
        rw [HW.out]
        go_wp2_with fail
        refine HI3.out.mono ?_
        rintro e w3 ⟨rfl, k3⟩
        go_wp2_with fail
        go_ret
        refine Changed.err HT.out (KF.trans kw2 k3) (c := 26) ?_
        rw [doRename_ok HU.out, if_neg HO.out, if_pos HN.out]
      · have hin' : insideM o.data.toList s.data.toList = false := by simpa using hin
        have HI2 := HI.out w2 kw2
        rw [hin'] at HI2
        have HI3 := Lib.hid HI2
        have HN := Lib.hid hin
        clear HI2 hin HI hin'
        go_upto_region 4 with fail
        rw [HW.out]
        go_wp2_with fail
        refine HI3.out.mono ?_
        rintro e w3 ⟨rfl, k3⟩
        have r2 := (k3.cell (p := ⟨w.heap.size, 2, none⟩) (Nat.lt_trans hlt hlt2)).trans q2
        have s0 := (k3.cell (p := ⟨w1.heap.size, 0, none⟩) hlt2).trans d0
        have s1 := (k3.cell (p := ⟨w1.heap.size, 1, none⟩) hlt2).trans d1
        have T3 := T2.far k3
        have kw3 := KF.trans kw2 k3
        have hlt3 := Nat.lt_of_lt_of_le hlt2 k3.size
        go_wp2_with fail
        refine (HP.out w3 kw3).mono ?_
        rintro e w4 ⟨k4, ⟨k, hk, hk0, rfl⟩ | ⟨d', y, hp, hd1', hy, rfl⟩⟩
        · have HQ := Lib.hid hk
          have h0 : ((k : Int) != 0) = true := bne_iff_ne.2 (by omega)
          clear hk
          go_wp2_with fail
          go_ret
          refine Changed.err HT.out ((KF.trans kw3 k4).alloc _) ?_
          rw [doRename_ok HU.out, if_neg HO.out, if_neg HN.out, HQ.out]
        · have HQ := Lib.hid hp
          have hy16 := hy.2.2.1
          clear hp hy
          have T4 := T3.far k4
          have kw4 := KF.trans kw3 k4
          have hlt4 := Nat.lt_of_lt_of_le hlt3 k4.size
          obtain ⟨w5, hw5⟩ : ∃ w5, w4.alloc (.cells #[.pointer (some ⟨L.nb d', 0, none⟩), .string (ba y)] 138) = w5 := ⟨_, rfl⟩
          have k5 : KF (w4.alloc (.cells #[.pointer (some ⟨L.nb d', 0, none⟩), .string (ba y)] 138)) w5 := hw5 ▸ KF.refl _
          have hlt5 := Nat.lt_of_lt_of_le (show w4.heap.size < (w4.alloc (.cells #[.pointer (some ⟨L.nb d', 0, none⟩), .string (ba y)] 138)).heap.size by simp) k5.size
          have e0 := fresh_cell k5 0 rfl
          have e1 := fresh_cell k5 1 rfl
          have t0 := (KF.cell (KF.trans k4 (fresh_far k5)) (p := ⟨w1.heap.size, 0, none⟩) hlt3).trans s0
          have t1 := (KF.cell (KF.trans k4 (fresh_far k5)) (p := ⟨w1.heap.size, 1, none⟩) hlt3).trans s1
          have T5 := T4.far (fresh_far k5)
          have cd := T5.cell_dir hd1
          have HV := Lib.hid hw5
          have kw5 := KF.trans kw4 (fresh_far k5)
          clear hw5 d0 d1 q1 q2 s0 s1 r2
          obtain ⟨w6, hdel, T6, k6⟩ := (T5.drew1).drop_name hd1 hl16 0
          have heb : ∀ d, (t d).kind = 1 → L.eb d < w.heap.size := fun d hd => HT.out.lt (foot_eb hd)
          have hne : ¬ w4.heap.size = L.eb d := fun e => by have := heb d hd1; have := Nat.lt_trans hlt hlt4; omega
          have u0 := (Keep.cell k6 (p := ⟨w4.heap.size, 0, none⟩) (by simpa using hlt5) hne).trans e0
          have u1 := (Keep.cell k6 (p := ⟨w4.heap.size, 1, none⟩) (by simpa using hlt5) hne).trans e1
          have hd6 : ((t.rows d (drop (t d).entries x)) d').kind = 1 := by rw [Tr.rows_kind]; exact hd1'
          have cd6 := T6.cell_dir hd6
          obtain ⟨w7, hput, T7, k7⟩ := (T6.drew1).put_name hd6 hy16 hN a
          have HT7 := Lib.hid T7
          clear T6 T7 heb hd6
          go_upto_region 11 with fail
          rw [HV.out]
          go_region
          go_upto_region 12 with fail
          go_region
          go_wp2_with fail
          go_ret
          have hr : doRename t s.data.toList o.data.toList = (okA, moved t a d x d' y) := by
            rw [doRename_ok HU.out, if_neg HO.out, if_neg HN.out, HQ.out]
          rw [hr]
          refine ⟨rfl, L, rfl, HT7.out, ?_, fun k hk => .inl (foot_rows.1 (foot_rows.1 hk))⟩
          exact (((kw5.keep (S := Foot L t)).drew.trans k6 fun i _ hi => hi ▸ foot_eb hd1).drew).trans k7 fun i _ hi => hi ▸ foot_eb hd1'
end Go.Proofs.YtlkiaghpdjbfeaaGreatDoor

namespace Go.Proofs.YtlkiaghpdjbfeaaGreatDoor
open Go.RowKit Go.Maps Go.Sort Go.Shelf

theorem ent_law : Et Tryz.prog 53 64 :=
  ⟨Tryz.underlying53, (Tryz.prog.info? 64).get (by kernel_rfl), .agg #[.string ⟨#[]⟩, .int .i64 0], by kernel_rfl, by kernel_rfl, by kernel_rfl, by kernel_rfl, by kernel_rfl⟩

set_option maxHeartbeats 1000000 in
theorem strSorted_nil (w : World) :
    Calls Tryz.prog 44 #[.func (.func 86) #[] #[.pointer (some ⟨w.heap.size, 0, none⟩)]] (w.alloc (.cells #[.map none] 70)) fun e w' => e = .returned (.slice none 0 0) ∧ KF w w' := by
  have hseq : SeqGives Fence.wide 2 Tryz.prog 86 #[.pointer (some ⟨w.heap.size, 0, none⟩)] encStr (fun ss : List (List UInt8) => ss = []) 0 (w.alloc (.cells #[.map none] 70)) :=
    AnyZ.keys_gives_nil (ρ := Tryz.keys45_ren) { Tryz.keys45 with } Fence.wide _ trivial rfl w.heap.size _ (by simp) (by simp)
  have C := AnyZ.sorted_in Tryz.sorted44 Fence.wide 5 trivial trivial trivial trivial rfl (by omega) (strSorts _) (enters_of Tryz.func85 (by kernel_rfl) rfl) 86 #[.pointer (some ⟨w.heap.size, 0, none⟩)] trivial (enters_of Tryz.func86 (by kernel_rfl) rfl) _ 0 (Nat.zero_le _) (by omega) _ hseq
  refine (callsIn_wide.1 C).mono ?_
  rintro e w' ⟨v, ss, rfl, hS, hrow, hnil, hb⟩
  exact ⟨by rw [hnil.2 hS], KF.trans ((KF.refl w).alloc _) (KF.of_below hb)⟩
theorem TreeAt.look_name1 {w : World} {L : Lay} {N : Nat} {t : Tr} (h : TreeAt w L N t) {n : Nat} (hn : (t n).kind = 1) {x : Txt} (hx : x.length ≤ maxLen) : (Instr.lookup 70 (.map (some (L.eb n))) (.string (ba x)) false).run Tryz.prog w = .ok (.int .i64 (((look (t n).entries x).getD 0 : Nat) : Int)) w := by
  rw [(h.dir n hn).look TreeAt.str_law Tryz.underlying70 (TreeAt.zero_int w) (Go.WideMaps.keyOf_string_mk Tryz.underlying9 (by rw [ba_size]; exact hx))]
  show Result.ok ((dirF (t n).entries (.string x)).getD _) w = _
  rw [dir_look]
  cases look (t n).entries x <;> rfl

/-- Entries in a new row. -/
def Listed (es : Row) (w : World) (e : Ending) (w' : World) : Prop := ∃ A c, e = .returned (.slice A es.length c) ∧ OwnE 64 w' (.slice A es.length c) es ∧ NB w (.slice A es.length c) ∧ KF w w'

set_option maxRecDepth 100000 in
theorem nlist_any (w : World) (L : Lay) (N : Nat) (t : Tr) (a : Nat) (hT : TreeAt w L N t) (g : Good t) (ha : (t a).kind ≠ 0) (hN : N ≤ 1000000) :
    Calls Tryz.prog 31 #[.pointer (some ⟨L.nb a, 0, none⟩)] w (Listed (t a).entries w) := by
  have HT := Lib.hid hT
  have HG := Lib.hid g
  rcases g.two ha with h1 | h2
  · have ce := hT.cell_dir h1
    have HK := Lib.hid (strKeys_any (some (L.eb a)) w)
    have HS := Lib.hid (hT.sorted_dir g hN h1)
    have hel := hT.ents_le g a
    clear hT g
    go_enter Tryz.func31, Tryz.ntmps31
    go_wp2_with fail
    refine HK.out.mono ?_
    rintro e w2 ⟨rfl, rfl⟩
    go_wp2_with fail
    refine HS.out.mono ?_
    rintro e w3 ⟨A, c, rfl, hc, hst, hnew, k3⟩
    have HST := Lib.hid hst
    have H1 := Lib.hid h1
    clear hst hnew h1
    generalize hq : (t a).entries.length = q at *
    have HQ := Lib.hid hq
    clear hq
    go_wp2_with fail
    go_loopg [3, 13] q (fun g s3 i wr => ∃ (k n' c' : Nat) (A' : Option Addr), k ≤ q ∧ q - k ≤ g ∧ s3 = .slice A' n' c' ∧ i = .int .i64 k ∧ OwnE 64 wr (.slice A' n' c') ((t a).entries.take k) ∧ NB w3 (.slice A' n' c') ∧ KF w3 wr)
    case atStart => exact ⟨0, 0, 0, none, by omega, by omega, rfl, rfl, ⟨rfl, .inl ⟨rfl, rfl⟩⟩, NB.nil _, KF.refl _⟩
    case round =>
      obtain ⟨k, n', c', A', hk, hg, rfl, rfl, ho, hnb, kr⟩ := hrel
      rcases Nat.lt_or_ge k q with hlt | hge
      · have hlt' : (k : Int) < (q : Int) := by omega
        have q1 : k < (t a).entries.length := by rw [HQ.out]; exact hlt
        have hat : (t a).entries[k]? = some (t a).entries[k] := List.getElem?_eq_getElem q1
        obtain ⟨b, o, rfl, hbb, hcell⟩ := (HST.out.kept kr) k (ba (t a).entries[k].1) (by rw [List.getElem?_map, hat]; rfl)
        have Tr := HT.out.far (KF.trans k3 kr)
        have cer := Tr.cell_dir H1.out
        have hmem : (t a).entries[k] ∈ (t a).entries := List.getElem_mem q1
        have hnm := (HG.out.entry a _ hmem).1.2.2.1
        have lx := Tr.look_name1 H1.out (x := (t a).entries[k].1) (by simp only [maxLen]; omega)
        rw [look_of_mem (HG.out.rising a) (x := (t a).entries[k].1) (k := (t a).entries[k].2) hmem, Option.getD_some] at lx
        have HTK := Lib.hid (show (t a).entries.take k ++ [(t a).entries[k]] = (t a).entries.take (k + 1) by rw [List.take_succ_eq_append_getElem q1])
        have hlen : ((t a).entries.take k).length = k := by rw [List.length_take]; omega
        generalize (t a).entries[k] = e at *
        clear hat hmem hnm
        go_wp2_with (at_builtin; refine wpList_append_ent _ rfl _ _ _ rfl ent_law (.slice A' n' c') ((t a).entries.take k) rfl (ho.alloc _) (wr.heap.size + 1) (some ⟨wr.heap.size, 0, none⟩) 1 1 [e] rfl rfl (ents_one wr e _) (by rw [hlen]; simp; omega) ?_; intro A4 n4 c4 w4 o4 e4 h4 m4 g4 f4)
        have k4 := (kr.alloc (.cells #[.string (ba e.1), .int .i64 (e.2 : Int)] 64)).own g4 hnb
        go_roundg (q - (k + 1))
        case measure => omega
        case rel =>
          rw [HTK.out] at o4
          refine ⟨k + 1, n4, c4, A4, by omega, by omega, rfl, by go_num, o4, hnb.next (Nat.le_trans kr.size (by simp)) f4, k4⟩
      · obtain rfl : k = q := by omega
        have hlt' : ¬ (k : Int) < (k : Int) := by omega
        go_wp2_with fail
        go_ret
        rw [← HQ.out, List.take_length] at ho
        obtain ⟨A1, c1, e1, _⟩ := ho.shape
        injection e1 with e1 e2 e3
        subst e1 e2 e3
        exact ⟨_, _, rfl, ho, hnb.older k3.size, KF.trans k3 kr⟩
  · have ce := hT.cell_ents ha
    rw [entV, if_neg (by omega)] at ce
    have hes := (g.file a h2).1
    have HK := Lib.hid (strKeys_any none w)
    have HS := Lib.hid (strSorted_nil w)
    clear hT g
    rw [hes]
    go_enter Tryz.func31, Tryz.ntmps31
    go_wp2_with fail
    refine HK.out.mono ?_
    rintro e w2 ⟨rfl, rfl⟩
    go_wp2_with fail
    refine HS.out.mono ?_
    rintro e w3 ⟨rfl, k3⟩
    go_wp2_with fail
    go_loopg [3, 13] 0 (fun g s3 i wr => s3 = .slice none 0 0 ∧ i = .int .i64 0 ∧ wr = w3)
    case atStart => exact ⟨rfl, rfl, rfl⟩
    case round =>
      obtain ⟨rfl, rfl, rfl⟩ := hrel
      go_wp2_with fail
      go_ret
      exact ⟨none, 0, rfl, ⟨rfl, .inl ⟨rfl, rfl⟩⟩, NB.nil _, k3⟩
end Go.Proofs.YtlkiaghpdjbfeaaGreatDoor

namespace Go.Proofs.YtlkiaghpdjbfeaaGreatDoor
open Go.RowKit Go.Maps Go.Sort

theorem sorted_numbers (t : Tr) {ss : List Int} (hp : (numbers t).Perm ss) : ss.mergeSort (fun x y => decide (x ≤ y)) = numbers t := by
  have h1 := mergeSort_of_perm_i hp
  rw [← h1]
  refine List.mergeSort_of_pairwise (List.pairwise_map.2 ((List.Pairwise.filter _ List.pairwise_lt_range).imp fun {a b} hab => ?_))
  exact decide_eq_true (by omega)

/-- A row of nodes that the call owns, by its cells. -/
def OwnNd (w : World) (v : Value) (n : Nat) (cs : List Value) : Prop := w.ownsRow 0 55 5 v n cs
theorem OwnNd.kept {S : Nat → Prop} {w w' : World} {v : Value} {n : Nat} {cs : List Value} (h : OwnNd w v n cs) (hk : Keep S w w') (hs : ∀ k, v.ownBlock = some k → ¬ S k) : OwnNd w' v n cs := by
  refine ⟨h.1, ?_⟩
  rcases h.2 with hn | ⟨g, cap, cur, rfl, hb, hgg, rest⟩
  · exact .inl hn
  · exact .inr ⟨g, cap, cur, rfl, hb, (hk.block g (Array.getElem?_eq_some_iff.1 hgg).1 (hs g rfl)).trans hgg, rest⟩
theorem OwnNd.heap {w : World} {v : Value} {n k : Nat} {cs : List Value} (h : OwnNd w v n cs) (hk : v.ownBlock = some k) : ∃ cur, w.heap[k]? = some (.cells cur 55 (0, 0)) := by
  rcases h.2 with ⟨rfl, _⟩ | ⟨g, cap, cur, rfl, _, hh, _⟩
  · simp [Value.ownBlock] at hk
  · have : g = k := by simpa [Value.ownBlock] using hk
    subst this
    exact ⟨_, hh⟩
theorem OwnE.heap {w : World} {v : Value} {k : Nat} {es : Row} (h : OwnE 64 w v es) (hk : v.ownBlock = some k) : ∃ cur, w.heap[k]? = some (.cells cur 64 (0, 0)) := by
  rcases h.2 with ⟨rfl, _⟩ | ⟨g, cap, cur, rfl, _, hh, _⟩
  · simp [Value.ownBlock] at hk
  · have : g = k := by simpa [Value.ownBlock] using hk
    subst this
    exact ⟨_, hh⟩

/-- A node's cells lie at the k-th place of a row's cells; its rows are owned, in new blocks. -/
def HasNode (w0 w : World) (cs : List Value) (k : Nat) (x : NodeV) : Prop :=
  ∃ A1 c1 A2 c2, (∀ j u, (nodeCells x A1 c1 A2 c2)[j]? = some u → cs[k * 5 + j]? = some u) ∧ Own 5 w (.slice A1 x.data.length c1) x.data ∧ OwnE 64 w (.slice A2 x.entries.length c2) x.entries ∧
    NB w0 (.slice A1 x.data.length c1) ∧ NB w0 (.slice A2 x.entries.length c2)

theorem node_info : ∃ i z, Tryz.prog.info? 55 = some i ∧ i.zero = some z ∧ i.size = 5 ∧ i.bytes = 72 ∧ z.cells.size = 5 :=
  ⟨(Tryz.prog.info? 55).get (by kernel_rfl), .agg #[.int .i64 0, .int .i64 0, .int .i64 0, .slice none 0 0, .slice none 0 0], by kernel_rfl, by kernel_rfl, by kernel_rfl, by kernel_rfl, by kernel_rfl⟩
theorem five_new (w : World) (v0 v1 v2 v3 v4 : Value) (E : TypeId) : ∀ j u, [v0, v1, v2, v3, v4][j]? = some u → (w.alloc (.cells #[v0, v1, v2, v3, v4] E)).cell? ((⟨w.heap.size, 0, none⟩ : Addr).add j) = some u := fun j u h => by
  rw [add_flat, World.cell?_alloc_mark, Nat.zero_add]
  simpa using h
theorem step_append_node {ops : Array Oper} {o : Oper} {a : Act} {w : World} {K : Act → World → Prop} {Q : Exit → Act → World → Prop} {Z : Prop} (hgd : o.guard = none) (s x : Operand)
    (ho : o.op = .call { callee := .builtin .append, args := #[s, x], argTypes := #[39, 39] }) (v : Value) (n : Nat) (cs : List Value) (hs : a.eval s = v) (w0 : World) (hown : OwnNd w0 v n cs) (hk : KF w0 w) (hn : n ≤ 1000000)
    (ad : Addr) (c : Nat) (v0 v1 v2 v3 v4 : Value) (hx : a.eval x = .slice (some ad) 1 c) (hc : ∀ j u, [v0, v1, v2, v3, v4][j]? = some u → w.cell? (ad.add j) = some u)
    (h1 : v0.oneCell' = true ∧ v1.oneCell' = true ∧ v2.oneCell' = true ∧ v3.oneCell' = true ∧ v4.oneCell' = true)
    (h : ∀ A' n' c' w', OwnNd w' (.slice A' n' c') (n + 1) (cs ++ [v0, v1, v2, v3, v4]) → w.grownBy w' v.ownBlock → ((Value.slice A' n' c').ownBlock = v.ownBlock ∨ (Value.slice A' n' c').ownBlock = some w.heap.size) → K (a.put o.dst (.slice A' n' c')) w') :
    if Region.wanted o (yielded ops a.tmps) = true then Oper.wp Tryz.prog o a w K Q else Z := by
  have hw : Region.wanted o (yielded ops a.tmps) = true := by simp [Region.wanted, hgd]
  rw [if_pos hw]
  obtain ⟨i, z, hi, hz, hsz, hby, hzs⟩ := node_info
  have hown' : OwnNd w v n cs := hown.kept hk fun _ _ h => h
  obtain ⟨v', w', hrun, h2, h3, h4, h5⟩ := run_append_own_at (P := Tryz.prog) w 0 39 o.type 55 i z 5 72 Tryz.underlying39 hi hz hsz hby hzs (by omega) v n cs hown' ad 1 c [v0, v1, v2, v3, v4] rfl hc
    (fun u hu => by
      simp only [List.mem_cons, List.not_mem_nil, or_false] at hu
      rcases hu with rfl | rfl | rfl | rfl | rfl
      · exact h1.1
      · exact h1.2.1
      · exact h1.2.2.1
      · exact h1.2.2.2.1
      · exact h1.2.2.2.2) (by simp only [maxLen]; omega) (by omega) (Nat.zero_le _)
  unfold Oper.wp execOp
  simp only [ho, resolve, invoke, builtin, Sem.run_bind, Sem.run_pure, Result.andThen_ok, List.map_toArray, List.map_cons, List.map_nil, hs, hx, hrun]
  have hsh : ∃ A' n' c', v' = .slice A' n' c' := by
    rcases h2.2 with ⟨rfl, _⟩ | ⟨g, cap, cur, rfl, _⟩
    · exact ⟨_, _, _, rfl⟩
    · exact ⟨_, _, _, rfl⟩
  obtain ⟨A', n', c', rfl⟩ := hsh
  exact h A' n' c' w' h2 h3 h5

/-- The nodes ns, from the address A on, in blocks from lo on. -/
def NodesFrom (w : World) (lo : Nat) (A : Option Addr) (ns : List NodeV) : Prop :=
  ∀ j x, ns[j]? = some x → ∃ b o A1 c1 A2 c2, A = some ⟨b, o, none⟩ ∧ lo ≤ b ∧ b < w.heap.size ∧
    (∀ i u, (nodeCells x A1 c1 A2 c2)[i]? = some u → w.cell? ⟨b, o + j * 5 + i, none⟩ = some u) ∧ Rd w w.heap.size A1 x.data ∧ Ents w w.heap.size A2 x.entries ∧ (∀ a : Addr, A1 = some a → lo ≤ a.block) ∧ (∀ a : Addr, A2 = some a → lo ≤ a.block)
theorem NodesFrom.at_ {w : World} {lo : Nat} {A : Option Addr} {ns : List NodeV} (h : NodesFrom w lo A ns) : NodesAt w w.heap.size A ns := fun j x hj => by
  obtain ⟨b, o, A1, c1, A2, c2, hA, hlo, hb, hc, hr, he, _, _⟩ := h j x hj
  have q0 := hc 0 _ rfl
  have q1 := hc 1 _ rfl
  have q2 := hc 2 _ rfl
  have q3 := hc 3 _ rfl
  have q4 := hc 4 _ rfl
  exact ⟨b, o, A1, c1, A2, c2, hA, hb, q0, q1, q2, q3, q4, hr, he⟩
theorem NodesFrom.keep {S : Nat → Prop} {w w' : World} {lo : Nat} {A : Option Addr} {ns : List NodeV} (h : NodesFrom w lo A ns) (k : Keep S w w') (hS : ∀ i, S i → i < lo) : NodesFrom w' lo A ns := fun j x hj => by
  obtain ⟨b, o, A1, c1, A2, c2, hA, hlo, hb, hc, hr, he, h1, h2⟩ := h j x hj
  have no : ∀ i, lo ≤ i → ¬ S i := fun i hi hs => by have := hS i hs; omega
  refine ⟨b, o, A1, c1, A2, c2, hA, hlo, Nat.lt_of_lt_of_le hb k.size, fun i u hi => (Keep.cell k hb (no b hlo)).trans (hc i u hi), (hr.keepS (Nat.le_refl _) k fun a ha => no _ (h1 a ha)).more k.size, (he.keep (Nat.le_refl _) k fun a ha => no _ (h2 a ha)).more k.size, h1, h2⟩

theorem TreeAt.ints_nodes {w : World} {L : Lay} {N : Nat} {t : Tr} (h : TreeAt w L N t) (g : Good t) :
    ∃ D : VD, w.ownsMap Tryz.prog 3 anyElem L.mb N D ∧ (numbers t).Perm (intKeys D) ∧ Maps.size D = (numbers t).length :=
  h.map.ints TreeAt.int_law Tryz.underlying3 (numbers_nodup t) (fun x hx => by
    obtain ⟨h1, h2, _⟩ := mem_numbers.1 hx
    exact WalkArith.wf_i64 (by omega)) (fun x _ => by
    rw [mem_numbers]
    simp only [nodeF]
    by_cases hx : 0 ≤ x ∧ (t x.toNat).kind ≠ 0
    · rw [if_pos hx]
      have := g.lt hx.2
      simp [hx.1, hx.2]
      omega
    · rw [if_neg hx]
      simp
      intro h1 _
      exact Classical.not_not.1 fun h2 => hx ⟨h1, h2⟩)
/-- The numbers of all nodes, sorted, in a new row. -/
theorem TreeAt.sorted_nodes {w : World} {L : Lay} {N : Nat} {t : Tr} (h : TreeAt w L N t) (g : Good t) :
    Calls Tryz.prog 28 #[.func (.func 62) #[] #[.pointer (some ⟨w.heap.size, 0, none⟩)]] (w.alloc (.cells #[.map (some L.mb)] 50)) fun e w' =>
      ∃ A c, e = .returned (.slice A (having t).length c) ∧ (∀ (j n : Nat), (having t)[j]? = some n → ∃ b, A = some ⟨b, 0, none⟩ ∧ b < w'.heap.size ∧ w'.cell? ⟨b, j, none⟩ = some (.int .i64 (n : Int))) ∧ KF w w' := by
  obtain ⟨D, hD, hp, hs⟩ := h.ints_nodes g
  have hlen : (numbers t).length = (having t).length := by
    unfold numbers having
    rw [List.length_map]
  refine (intSorted_any L.mb N D w hD (by rw [hs, hlen]; have := having_le t; omega)).mono ?_
  rintro e w' ⟨v, ss, rfl, hS, hrow, hnew, k⟩
  have hsort := sorted_numbers t (hp.trans hS.symm)
  have hl : ss.length = (having t).length := by rw [← hlen]; exact (hp.trans hS.symm).length_eq.symm
  rw [hsort] at hrow
  rw [hl] at hrow
  have hv : ∃ A c, v = .slice A (having t).length c ∧ ∀ g, v.ownBlock = some g → A = some ⟨g, 0, none⟩ := by
    rcases hrow.2 with ⟨rfl, h0⟩ | ⟨g, cap, cur, rfl, _⟩
    · exact ⟨none, 0, by rw [h0], fun g hg => by simp [Value.ownBlock] at hg⟩
    · exact ⟨_, cap, rfl, fun g' hg => by simp [Value.ownBlock] at hg; rw [hg]⟩
  obtain ⟨A, c, rfl, hA⟩ := hv
  refine ⟨A, c, rfl, fun j n hj => ?_, k⟩
  have hlt : j < (having t).length := by
    rcases Nat.lt_or_ge j (having t).length with h | h
    · exact h
    · rw [List.getElem?_eq_none h] at hj; cases hj
  rcases hrow.2 with ⟨_, h0⟩ | ⟨g, cap, cur, hv, _, hh, _⟩
  · omega
  · have hb : (Value.slice A (having t).length c).ownBlock = some g := by rw [hv]; rfl
    obtain rfl := hA g hb
    refine ⟨g, rfl, (Array.getElem?_eq_some_iff.1 hh).1, ?_⟩
    have := World.ownsRow.cells (g := g) hrow hb j (.int .i64 (n : Int)) (by
      rw [List.getElem?_map]
      unfold numbers
      rw [List.getElem?_map]
      show ((having t)[j]?.map _).map _ = _
      rw [hj]
      rfl)
    rw [add_flat, Nat.zero_add] at this
    exact this
end Go.Proofs.YtlkiaghpdjbfeaaGreatDoor

namespace Go.Proofs.YtlkiaghpdjbfeaaGreatDoor
open Go.RowKit
variable {Zp : Nat → Prop}

/-- An answer that says an error's number alone. -/
def BareA (r : TAns) : Prop := r.kind = 0 ∧ r.size = 0 ∧ r.links = 0 ∧ r.data = [] ∧ r.names = []
theorem BareA.ok : BareA okA := ⟨rfl, rfl, rfl, rfl, rfl⟩
theorem BareA.err (k : Nat) : BareA (errA k) := ⟨rfl, rfl, rfl, rfl, rfl⟩
theorem bare_make (t : Tr) (k : Nat) (s : Txt) : BareA (doMake t k s).1 := by
  unfold doMake; split
  · exact BareA.err _
  · split
    · exact BareA.err _
    · exact BareA.ok
theorem bare_rmdir (t : Tr) (s : Txt) : BareA (doRmdir t s).1 := by
  unfold doRmdir; split
  · exact BareA.err _
  · split
    · exact BareA.err _
    · split
      · exact BareA.err _
      · exact BareA.ok
theorem bare_unlink (t : Tr) (s : Txt) : BareA (doUnlink t s).1 := by
  unfold doUnlink; split
  · exact BareA.err _
  · split
    · exact BareA.err _
    · exact BareA.ok
theorem bare_link (t : Tr) (s o : Txt) : BareA (doLink t s o).1 := by
  unfold doLink; split
  · exact BareA.err _
  · split
    · exact BareA.err _
    · split
      · exact BareA.err _
      · exact BareA.ok
theorem bare_rename (t : Tr) (s o : Txt) : BareA (doRename t s o).1 := by
  unfold doRename; split
  · exact BareA.err _
  · split
    · exact BareA.ok
    · split
      · exact BareA.err _
      · split
        · exact BareA.err _
        · exact BareA.ok
theorem bare_write (t : Tr) (s : Txt) (o : Int) (d : Txt) : BareA (doWrite t s o d).1 := by
  unfold doWrite; split
  · exact BareA.err _
  · split
    · exact BareA.err _
    · split
      · exact BareA.err _
      · exact BareA.ok
theorem bare_cut (t : Tr) (s : Txt) (n : Int) : BareA (doCut t s n).1 := by
  unfold doCut; split
  · exact BareA.err _
  · split
    · exact BareA.err _
    · split
      · exact BareA.err _
      · exact BareA.ok
theorem RAns.quiet {g : Nat} {t : Tr} {k : Nat} {w w' : World} (h : RefAt Zp w g t) (kf : KF w w') : RAns Zp g (errA k, t) w (.returned (.tuple #[.agg zAns, .int .i64 (k : Int)])) w' :=
  RDid.ans ⟨rfl, Keep.mono kf (fun _ _ h => h.elim), h.kept kf⟩ (BareA.err k)
theorem rdo_any (w : World) (g : Nat) (t : Tr) (c : TCall) (Ad : Option Addr) (kd cd : Nat) (hkd : kd = c.data.length) (hkb : kd ≤ 1000000) (hdr : Rd w w.heap.size Ad c.data) (h : RefAt Zp w g t) (G : Good t) (hb : Small t) (hp : c.path.length ≤ 1000) (ho : c.other.length ≤ 1000) :
    Calls Tryz.prog 27 #[.pointer (some ⟨g, 0, none⟩), .agg #[.int .i64 c.kind, .string (ba c.path), .string (ba c.other), .int .i64 c.off, .int .i64 c.n, .slice Ad kd cd]] w (RAns Zp g (doT t c) w) := by
  have sp : (ba c.path).size ≤ 1000 := by rw [ba_size]; exact hp
  have so : (ba c.other).size ≤ 1000 := by rw [ba_size]; exact ho
  refine doT_cases t c (fun r => Calls _ _ _ w (RAns Zp g r w)) ?_ ?_ ?_ ?_ ?_ ?_ ?_ ?_ ?_ ?_ ?_ ?_ ?_
  · intro hk
    rw [hk]
    exact (rdo_mkdir w g t c.off c.n (ba c.path) _ _ h G hb sp).mono fun e w' hh => RDid.ans hh (bare_make _ _ _)
  · intro hk
    rw [hk]
    exact (rdo_rmdir w g t c.off c.n (ba c.path) _ _ h G hb sp).mono fun e w' hh => RDid.ans hh (bare_rmdir _ _)
  · intro hk
    rw [hk]
    exact (rdo_create w g t c.off c.n (ba c.path) _ _ h G hb sp).mono fun e w' hh => RDid.ans hh (bare_make _ _ _)
  · intro hk
    rw [hk]
    exact (rdo_unlink w g t c.off c.n (ba c.path) _ _ h G hb sp).mono fun e w' hh => RDid.ans hh (bare_unlink _ _)
  · intro hk
    rw [hk]
    exact (rdo_link w g t c.off c.n (ba c.path) (ba c.other) _ h G hb sp so).mono fun e w' hh => RDid.ans hh (bare_link _ _ _)
  · intro hk
    rw [hk]
    exact (rdo_rename w g t c.off c.n (ba c.path) (ba c.other) _ h G hb sp so).mono fun e w' hh => RDid.ans hh (bare_rename _ _ _)
  · intro hk
    rw [hk]
    exact (rdo_write w g t c.off c.n (ba c.path) _ _ Ad kd cd c.data rfl hkd hkb hdr h G hb sp).mono fun e w' hh => RDid.ans hh (bare_write _ _ _ _)
  · intro hk
    rw [hk]
    exact rdo_read w g t c.off c.n (ba c.path) _ _ h G hb sp
  · intro hk
    rw [hk]
    exact (rdo_cut w g t c.off c.n (ba c.path) _ _ h G hb sp).mono fun e w' hh => RDid.ans hh (bare_cut _ _ _)
  · intro hk
    rw [hk]
    refine (rdo_stat w g t c.off c.n (ba c.path) _ _ h G hb sp).mono ?_
    rintro e w' ⟨kf, ⟨k, hf, rfl⟩ | ⟨a, hf, rfl⟩⟩
    · have hd : doStat t c.path = (errA k, t) := by unfold doStat; rw [show find t c.path = .error k from hf]
      rw [hd]
      exact RAns.quiet h kf
    · have hd : doStat t c.path = (⟨0, (t a).kind, (t a).data.length + (t a).entries.length, (t a).links, [], []⟩, t) := by unfold doStat; rw [show find t c.path = .ok a from hf]
      rw [hd]
      exact ⟨none, 0, 0, none, 0, 0, rfl, ⟨rfl, rfl, Rd.nil, Strs.nil⟩, Keep.mono kf (fun _ _ h => h.elim), h.kept kf, (fun _ h => nomatch h), fun _ h => nomatch h⟩
  · intro hk
    rw [hk]
    exact rdo_list w g t c.off c.n (ba c.path) _ _ h G hb sp
  · intro hk
    refine (rdo_sync w g c.kind c.off c.n _ _ _ hk).mono ?_
    rintro e w' ⟨rfl, kf⟩
    exact RAns.quiet (k := 0) h kf
  · rintro (hk | hk)
    · refine (rdo_low w g c.kind c.off c.n _ _ _ hk).mono ?_
      rintro e w' ⟨rfl, kf⟩
      exact RAns.quiet (k := 1) h kf
    · refine (rdo_high w g c.kind c.off c.n _ _ _ hk).mono ?_
      rintro e w' ⟨rfl, kf⟩
      exact RAns.quiet (k := 1) h kf
/-- What Do leaves. -/
def RDone (Zp : Nat → Prop) (g : Nat) (r : TAns × Tr) (w : World) (e : Ending) (w' : World) : Prop := ∃ A1 c1 A2 c2, e = .returned (.agg #[.int .i64 (r.1.err : Int), .int .i64 (r.1.kind : Int), .int .i64 (r.1.size : Int), .int .i64 (r.1.links : Int), .slice A1 r.1.data.length c1, .slice A2 r.1.names.length c2]) ∧
  Rd w' w'.heap.size A1 r.1.data ∧ Strs w' w'.heap.size A2 (r.1.names.map ba) ∧ Keep (fun i => i = g) w w' ∧ RefAt Zp w' g r.2 ∧ (∀ a : Addr, A1 = some a → Zp a.block) ∧ ∀ a : Addr, A2 = some a → Zp a.block
theorem rdoT_errA {t : Tr} {c : TCall} : (doT t c).1.err ≠ 0 → (doT t c).1 = errA (doT t c).1.err := by
  refine doT_cases t c (fun r => r.1.err ≠ 0 → r.1 = errA r.1.err) ?_ ?_ ?_ ?_ ?_ ?_ ?_ ?_ ?_ ?_ ?_ ?_ ?_
  all_goals intro _
  all_goals (try unfold doMake)
  all_goals (try unfold doRmdir)
  all_goals (try unfold doUnlink)
  all_goals (try unfold doLink)
  all_goals (try unfold doRename)
  all_goals (try unfold doWrite)
  all_goals (try unfold doRead)
  all_goals (try unfold doCut)
  all_goals (try unfold doStat)
  all_goals (try unfold doList)
  all_goals (repeat' split)
  all_goals (first | exact fun _ => rfl | exact fun h => absurd rfl h)
/-- Bytes, and texts, that are read lie in no block that holds none. -/
theorem Rd.keepNo {w w' : World} {A : Option Addr} {l : List UInt8} {g : Nat} {cs : Array Value} {t : TypeId} {fr : Nat × Nat} (h : Rd w w.heap.size A l) (hg : w.heap[g]? = some (.cells cs t fr)) (hno : ∀ x ∈ cs.toList, ∀ z, x ≠ .int .u8 z) (k : Keep (fun i => i = g) w w') : Rd w' w'.heap.size A l := fun j b hj => by
  have hlt : j < l.length := (List.getElem?_eq_some_iff.1 hj).1
  have hfar := h.far hg hno j hlt
  obtain ⟨a, rfl, hb, hc⟩ := h j b hj
  have hs := k.size
  exact ⟨a, rfl, by omega, (k.cell (by rw [block_add]; exact hb) (by rw [block_add]; exact hfar a rfl)).trans hc⟩
theorem Strs.keepNo {w w' : World} {A : Option Addr} {l : List ByteArray} {g : Nat} {cs : Array Value} {t : TypeId} {fr : Nat × Nat} (h : Strs w w.heap.size A l) (hg : w.heap[g]? = some (.cells cs t fr)) (hno : ∀ x ∈ cs.toList, ∀ z, x ≠ .string z) (k : Keep (fun i => i = g) w w') : Strs w' w'.heap.size A l := fun j b hj => by
  obtain ⟨q, o, rfl, hb, hc⟩ := h j b hj
  have hs := k.size
  refine ⟨q, o, rfl, by omega, (k.cell (p := ⟨q, o + j, none⟩) hb ?_).trans hc⟩
  rintro (e : q = g)
  subst e
  simp only [World.cell?, hg] at hc
  exact hno _ (by simpa using Array.mem_of_getElem? hc) _ rfl
set_option maxRecDepth 100000 in
set_option maxHeartbeats 4000000 in
theorem rDo_any (w : World) (g : Nat) (t : Tr) (c : TCall) (Ad : Option Addr) (kd cd : Nat) (hkd : kd = c.data.length) (hkb : kd ≤ 1000000) (hdr : Rd w w.heap.size Ad c.data) (h : RefAt Zp w g t) (G : Good t) (hb : Small t) (hp : c.path.length ≤ 1000) (ho : c.other.length ≤ 1000) :
    Calls Tryz.prog 12 #[.pointer (some ⟨g, 0, none⟩), .agg #[.int .i64 c.kind, .string (ba c.path), .string (ba c.other), .int .i64 c.off, .int .i64 c.n, .slice Ad kd cd]] w (RDone Zp g (doT t c) w) := by
  have HGL := Lib.hid h.lt
  obtain ⟨b, hbb⟩ : ∃ b, w.heap.size = b := ⟨_, rfl⟩
  obtain ⟨W, hW⟩ : ∃ W, ((w.alloc (.cells #[.int .i64 c.kind, .string (ba c.path), .string (ba c.other), .int .i64 c.off, .int .i64 c.n, .slice Ad kd cd] 31)).alloc (.cells #[.int .i64 0, .int .i64 0, .int .i64 0, .int .i64 0, .slice none 0 0, .slice none 0 0] 36)) = W := ⟨_, rfl⟩
  have kW : KF w W := by rw [← hW]; exact ((KF.refl w).alloc _).alloc _
  have HK := Lib.hid kW
  have HSZ : Hid (W.heap.size = b + 1 + 1) := Lib.hid (by rw [← hW, ← hbb]; simp)
  have HCL : Hid (Six6 W b 31 (.int .i64 c.kind) (.string (ba c.path)) (.string (ba c.other)) (.int .i64 c.off) (.int .i64 c.n) (.slice Ad kd cd)) := Lib.hid (by
    unfold Six6
    rw [← hW, ← hbb, Below.heap_alloc _ _ _ (by simp)]
    exact heap_alloc_new w _)
  have HRS : Hid (Six6 W (b + 1) 36 (.int .i64 0) (.int .i64 0) (.int .i64 0) (.int .i64 0) (.slice none 0 0) (.slice none 0 0)) := Lib.hid (by
    unfold Six6
    have := heap_alloc_new (w.alloc (.cells #[.int .i64 c.kind, .string (ba c.path), .string (ba c.other), .int .i64 c.off, .int .i64 c.n, .slice Ad kd cd] 31)) (.cells #[.int .i64 0, .int .i64 0, .int .i64 0, .int .i64 0, .slice none 0 0, .slice none 0 0] 36)
    rw [World.size_alloc, hbb] at this
    rw [← hW]
    exact this)
  have HDO := Lib.hid (rdo_any W g t c Ad kd cd hkd hkb ((hdr.keepF kW (Nat.le_refl _)).more kW.size) (h.kept kW) G hb hp ho)
  have HER := Lib.hid (rdoT_errA (t := t) (c := c))
  have HW := Lib.hid hW
  have HB := Lib.hid hbb
  clear hW hbb kW h G hb hp ho hdr hkd hkb
  generalize doT t c = r at *
  generalize ba c.path = P at *
  generalize ba c.other = O at *
  obtain ⟨q0, q1, q2, q3, q4, q5⟩ := HCL.out.cells
  go_enter Tryz.func12, Tryz.ntmps12
  go_upto_region 1 with fail
  rw [HW.out, HB.out]
  clear HW
  go_wp2_with fail
  refine HDO.out.mono ?_
  rintro e w1 ⟨A1, n1, c1, A2, n2, c2, rfl, ⟨h1, h2, h3, h4⟩, k1, R1, hz1⟩
  have HZ1 := Lib.hid hz1
  clear hz1
  have HRS1 := Lib.hid (HRS.out.kept k1 (by have := HB.out; have := HGL.out; omega))
  have HK1 : Hid (Keep (fun i => i = g) w w1) := Lib.hid (Keep.trans (Keep.mono HK.out (fun _ _ h => h.elim)) k1 (fun _ _ h => h))
  obtain ⟨ab, hab⟩ : ∃ ab, w1.heap.size = ab := ⟨_, rfl⟩
  obtain ⟨w2, hw2⟩ : ∃ X, w1.alloc (.cells #[.int .i64 0, .int .i64 (r.1.kind : Int), .int .i64 (r.1.size : Int), .int .i64 (r.1.links : Int), .slice A1 n1 c1, .slice A2 n2 c2] 36) = X := ⟨_, rfl⟩
  have k2 : KF w1 w2 := by rw [← hw2]; exact (KF.refl w1).alloc _
  have HA2 : Hid (Six6 w2 ab 36 (.int .i64 0) (.int .i64 (r.1.kind : Int)) (.int .i64 (r.1.size : Int)) (.int .i64 (r.1.links : Int)) (.slice A1 n1 c1) (.slice A2 n2 c2)) := Lib.hid (by
    unfold Six6
    rw [← hw2, ← hab]
    exact heap_alloc_new w1 _)
  have HRS2 := Lib.hid (HRS1.out.kept k2 (fun h => h))
  have HK2 : Hid (Keep (fun i => i = g) w w2) := Lib.hid (Keep.trans HK1.out k2 (fun _ _ h => h.elim))
  have HR2 := Lib.hid (R1.kept k2)
  have HL := Lib.hid (And.intro h1 h2)
  have HD3 := Lib.hid ((h3.keepF k2 (Nat.le_refl _)).more k2.size)
  have HD4 := Lib.hid (h4.kept k2)
  have HW2 := Lib.hid hw2
  have HAB := Lib.hid hab
  clear hw2 hab k1 k2 R1 h1 h2 h3 h4 HRS HRS1 HK HK1 HCL q0 q1 q2 q3 q4 q5
  go_upto_region 2 with fail
  rw [HW2.out, HAB.out]
  clear HW2 HDO
  obtain ⟨q0, q1, q2, q3, q4, q5⟩ := HA2.out.cells
  obtain ⟨r0, r1, r2, r3, r4, r5⟩ := HRS2.out.cells
  have z0 := HRS2.out.free 0
  have z1 := HRS2.out.free 1
  have z2 := HRS2.out.free 2
  have z3 := HRS2.out.free 3
  have z4 := HRS2.out.free 4
  have z5 := HRS2.out.free 5
  by_cases he : r.1.err = 0
  · have heb : ((r.1.err : Int) != 0) = false := by rw [he]; rfl
    have PUT := Lib.hid (HRS2.out.put (.int .i64 0) (.int .i64 (r.1.kind : Int)) (.int .i64 (r.1.size : Int)) (.int .i64 (r.1.links : Int)) (.slice A1 n1 c1) (.slice A2 n2 c2))
    have HE := Lib.hid he
    clear he
    go_wp2_with fail
    obtain ⟨e1, e2⟩ := PUT.out
    obtain ⟨d0, d1, d2, d3, d4, d5⟩ := e1.cells
    clear PUT q0 q1 q2 q3 q4 q5 r0 r1 r2 r3 r4 r5 z0 z1 z2 z3 z4 z5
    refine bodyPost_ret (v := .agg #[.int .i64 0, .int .i64 (r.1.kind : Int), .int .i64 (r.1.size : Int), .int .i64 (r.1.links : Int), .slice A1 n1 c1, .slice A2 n2 c2]) (by simp [results, Tryz.results12, go_sem, d0, d1, d2, d3, d4, d5]) rfl ?_
    have hle := HB.out
    have kE : Keep (fun i => i = g) w _ := Keep.trans HK2.out e2 (fun i hi (h : i = b + 1) => by omega)
    refine ⟨A1, c1, A2, c2, by rw [HE.out, HL.out.1, HL.out.2]; rfl, HD3.out.keepNo HRS2.out (by simp) e2, HD4.out.keepNo HRS2.out (by simp) e2, kE, HR2.out.keepFar HRS2.out (by simp) (by simp) e2 (by have := HGL.out; omega), HZ1.out.1, HZ1.out.2⟩
  · have heb : ((r.1.err : Int) != 0) = true := by simp; omega
    have PUT := Lib.hid (HRS2.out.put (.int .i64 (r.1.err : Int)) (.int .i64 0) (.int .i64 0) (.int .i64 0) (.slice none 0 0) (.slice none 0 0))
    have HE := Lib.hid (HER.out he)
    clear he
    go_wp2_with fail
    obtain ⟨e1, e2⟩ := PUT.out
    obtain ⟨d0, d1, d2, d3, d4, d5⟩ := e1.cells
    clear PUT q0 q1 q2 q3 q4 q5 r0 r1 r2 r3 r4 r5 z0 z1 z2 z3 z4 z5
    refine bodyPost_ret (v := .agg #[.int .i64 (r.1.err : Int), .int .i64 0, .int .i64 0, .int .i64 0, .slice none 0 0, .slice none 0 0]) (by simp [results, Tryz.results12, go_sem, d0, d1, d2, d3, d4, d5]) rfl ?_
    have hle := HB.out
    have kE : Keep (fun i => i = g) w _ := Keep.trans HK2.out e2 (fun i hi (h : i = b + 1) => by omega)
    have hz := HE.out
    refine ⟨none, 0, none, 0, ?_, ?_, ?_, kE, HR2.out.keepFar HRS2.out (by simp) (by simp) e2 (by have := HGL.out; omega), (fun _ h => nomatch h), fun _ h => nomatch h⟩
    · rw [hz]; rfl
    · rw [hz]; exact Rd.nil
    · rw [hz]; exact Strs.nil
end Go.Proofs.YtlkiaghpdjbfeaaGreatDoor

namespace Go.Proofs.YtlkiaghpdjbfeaaGreatDoor
open Go.RowKit Go.Maps

set_option maxRecDepth 100000 in
set_option maxHeartbeats 4000000 in
theorem sameAnswer_one (r : TAns) (A A1 B B1 : Option Addr) (c c1 d d1 : Nat) (w : World) (hd : r.data.length ≤ 1000000) (hn : r.names.length ≤ 1000000) (h1 : Rd w w.heap.size A r.data) (h2 : Strs w w.heap.size B (r.names.map ba)) (h3 : Rd w w.heap.size A1 r.data) (h4 : Strs w w.heap.size B1 (r.names.map ba)) :
    Calls Tryz.prog 10 #[.agg (ansC r A c B d), .agg (ansC r A1 c1 B1 d1)] w fun e w' => e = .returned (.bool true) ∧ KF w w' := by
  have kA : ∀ X Y, KF w ((w.alloc X).alloc Y) := fun X Y => ((KF.refl w).alloc X).alloc Y
  have SB := Lib.hid fun X Y => same_is (c1 := c) (c2 := c1) (w := (w.alloc X).alloc Y) rfl rfl (by omega) (h1.keepF (kA X Y) (Nat.le_refl _)) (h3.keepF (kA X Y) (Nat.le_refl _))
  have ST := Lib.hid fun X Y (nq : Nat) => texts_same B B1 r.names.length r.names.length d d1 r.names r.names (((w.alloc X).alloc Y).drewN nq) rfl rfl (by omega) (by omega) ((h2.kept (kA X Y)).drewN nq) ((h4.kept (kA X Y)).drewN nq)
  clear h1 h2 h3 h4
  unfold ansC
  generalize (r.err : Int) = e0 at *
  generalize (r.kind : Int) = e1 at *
  generalize (r.size : Int) = e2 at *
  generalize (r.links : Int) = e3 at *
  simp only [decide_true] at ST
  generalize r.data.length = ld at *
  generalize r.names.length = ln at *
  go_enter Tryz.func10, Tryz.ntmps10
  go_wp2_with fail
  refine ((SB.out _ _).out).mono ?_
  rintro e w1 ⟨rfl, nq, rfl⟩
  go_wp2_with fail
  refine (ST.out _ _ nq).mono ?_
  rintro e w2 ⟨rfl, k2⟩
  go_wp2_with fail
  go_ret
  exact ⟨rfl, KF.trans (Keep.drewN (kA _ _) nq) k2⟩
end Go.Proofs.YtlkiaghpdjbfeaaGreatDoor
