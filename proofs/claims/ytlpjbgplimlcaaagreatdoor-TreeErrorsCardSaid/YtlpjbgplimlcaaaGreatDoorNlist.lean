/-
  The program's list of a node's entries.
-/
import Derived.Test.YtlpjbgplimlcaaaGreatDoorStat
import Derived.Test.YtlpjbgplimlcaaaGreatDoorEnts
import Derived.Deep.LoopGhost
namespace Go.Proofs.YtlpjbgplimlcaaaGreatDoor
open Go.RowKit Go.Maps Go.Sort Go.Shelf

theorem ent_law : Et Tryz.prog 45 62 :=
  ⟨Tryz.underlying45, (Tryz.prog.info? 62).get (by kernel_rfl), .agg #[.string ⟨#[]⟩, .int .i64 0], by kernel_rfl, by kernel_rfl, by kernel_rfl, by kernel_rfl, by kernel_rfl⟩

set_option maxHeartbeats 1000000 in
theorem strSorted_nil (w : World) :
    Calls Tryz.prog 36 #[.func (.func 58) #[] #[.pointer (some ⟨w.heap.size, 0, none⟩)]] (w.alloc (.cells #[.map none] 68)) fun e w' => e = .returned (.slice none 0 0) ∧ KF w w' := by
  have hseq : SeqGives Fence.wide 2 Tryz.prog 58 #[.pointer (some ⟨w.heap.size, 0, none⟩)] encStr (fun ss : List (List UInt8) => ss = []) 0 (w.alloc (.cells #[.map none] 68)) :=
    AnyZ.keys_gives_nil (ρ := Tryz.keys37_ren) { Tryz.keys37 with } Fence.wide _ trivial rfl w.heap.size _ (by simp) (by simp)
  have C := AnyZ.sorted_in Tryz.sorted36 Fence.wide 5 trivial trivial trivial trivial rfl (by omega) (strSorts _) (enters_of Tryz.func57 (by kernel_rfl) rfl) 58 #[.pointer (some ⟨w.heap.size, 0, none⟩)] trivial (enters_of Tryz.func58 (by kernel_rfl) rfl) _ 0 (Nat.zero_le _) (by omega) _ hseq
  refine (callsIn_wide.1 C).mono ?_
  rintro e w' ⟨v, ss, rfl, hS, hrow, hnil, hb⟩
  exact ⟨by rw [hnil.2 hS], KF.trans ((KF.refl w).alloc _) (KF.of_below hb)⟩
theorem TreeAt.look_name1 {w : World} {L : Lay} {N : Nat} {t : Tr} (h : TreeAt w L N t) {n : Nat} (hn : (t n).kind = 1) {x : Txt} (hx : x.length ≤ maxLen) : (Instr.lookup 68 (.map (some (L.eb n))) (.string (ba x)) false).run Tryz.prog w = .ok (.int .i64 (((look (t n).entries x).getD 0 : Nat) : Int)) w := by
  rw [(h.dir n hn).look TreeAt.str_law Tryz.underlying68 (TreeAt.zero_int w) (Go.WideMaps.keyOf_string_mk Tryz.underlying9 (by rw [ba_size]; exact hx))]
  show Result.ok ((dirF (t n).entries (.string x)).getD _) w = _
  rw [dir_look]
  cases look (t n).entries x <;> rfl

/-- Entries in a new row. -/
def Listed (es : Row) (w : World) (e : Ending) (w' : World) : Prop := ∃ A c, e = .returned (.slice A es.length c) ∧ OwnE 62 w' (.slice A es.length c) es ∧ NB w (.slice A es.length c) ∧ KF w w'

set_option maxRecDepth 100000 in
theorem nlist_any (w : World) (L : Lay) (N : Nat) (t : Tr) (a : Nat) (hT : TreeAt w L N t) (g : Good t) (ha : (t a).kind ≠ 0) (hN : N ≤ 1000000) :
    Calls Tryz.prog 31 #[.pointer (some ⟨L.nb a, 0, none⟩)] w (Listed (t a).entries w) := by
  have HT := Lib.hid hT
  have HG := Lib.hid g
  rcases g.two ha with h1 | h2
  · have ce := hT.cell_dir h1
    have HK := Lib.hid (strKeys_any (some (L.eb a)) w)
    have HS := Lib.hid (hT.sorted_dir g hN h1)
    have hel := hT.ents_le g a
    clear hT g
    go_enter Tryz.func31, Tryz.ntmps31
    go_wp2_with fail
    refine HK.out.mono ?_
    rintro e w2 ⟨rfl, rfl⟩
    go_wp2_with fail
    refine HS.out.mono ?_
    rintro e w3 ⟨A, c, rfl, hc, hst, hnew, k3⟩
    have HST := Lib.hid hst
    have H1 := Lib.hid h1
    clear hst hnew h1
    generalize hq : (t a).entries.length = q at *
    have HQ := Lib.hid hq
    clear hq
    go_wp2_with fail
    go_loopg [3, 13] q (fun g s3 i wr => ∃ (k n' c' : Nat) (A' : Option Addr), k ≤ q ∧ q - k ≤ g ∧ s3 = .slice A' n' c' ∧ i = .int .i64 k ∧ OwnE 62 wr (.slice A' n' c') ((t a).entries.take k) ∧ NB w3 (.slice A' n' c') ∧ KF w3 wr)
    case atStart => exact ⟨0, 0, 0, none, by omega, by omega, rfl, rfl, ⟨rfl, .inl ⟨rfl, rfl⟩⟩, NB.nil _, KF.refl _⟩
    case round =>
      obtain ⟨k, n', c', A', hk, hg, rfl, rfl, ho, hnb, kr⟩ := hrel
      rcases Nat.lt_or_ge k q with hlt | hge
      · have hlt' : (k : Int) < (q : Int) := by omega
        have q1 : k < (t a).entries.length := by rw [HQ.out]; exact hlt
        have hat : (t a).entries[k]? = some (t a).entries[k] := List.getElem?_eq_getElem q1
        obtain ⟨b, o, rfl, hbb, hcell⟩ := (HST.out.kept kr) k (ba (t a).entries[k].1) (by rw [List.getElem?_map, hat]; rfl)
        have Tr := HT.out.far (KF.trans k3 kr)
        have cer := Tr.cell_dir H1.out
        have hmem : (t a).entries[k] ∈ (t a).entries := List.getElem_mem q1
        have hnm := (HG.out.entry a _ hmem).1.2.2.1
        have lx := Tr.look_name1 H1.out (x := (t a).entries[k].1) (by simp only [maxLen]; omega)
        rw [look_of_mem (HG.out.rising a) (x := (t a).entries[k].1) (k := (t a).entries[k].2) hmem, Option.getD_some] at lx
        have HTK := Lib.hid (show (t a).entries.take k ++ [(t a).entries[k]] = (t a).entries.take (k + 1) by rw [List.take_succ_eq_append_getElem q1])
        have hlen : ((t a).entries.take k).length = k := by rw [List.length_take]; omega
        generalize (t a).entries[k] = e at *
        clear hat hmem hnm
        go_wp2_with (at_builtin; refine wpList_append_ent _ rfl _ _ _ rfl ent_law (.slice A' n' c') ((t a).entries.take k) rfl (ho.alloc _) (wr.heap.size + 1) (some ⟨wr.heap.size, 0, none⟩) 1 1 [e] rfl rfl (ents_one wr e _) (by rw [hlen]; simp; omega) ?_; intro A4 n4 c4 w4 o4 e4 h4 m4 g4 f4)
        have k4 := (kr.alloc (.cells #[.string (ba e.1), .int .i64 (e.2 : Int)] 62)).own g4 hnb
        go_roundg (q - (k + 1))
        case measure => omega
        case rel =>
          rw [HTK.out] at o4
          refine ⟨k + 1, n4, c4, A4, by omega, by omega, rfl, by go_num, o4, hnb.next (Nat.le_trans kr.size (by simp)) f4, k4⟩
      · obtain rfl : k = q := by omega
        have hlt' : ¬ (k : Int) < (k : Int) := by omega
        go_wp2_with fail
        go_ret
        rw [← HQ.out, List.take_length] at ho
        obtain ⟨A1, c1, e1, _⟩ := ho.shape
        injection e1 with e1 e2 e3
        subst e1 e2 e3
        exact ⟨_, _, rfl, ho, hnb.older k3.size, KF.trans k3 kr⟩
  · have ce := hT.cell_ents ha
    rw [entV, if_neg (by omega)] at ce
    have hes := (g.file a h2).1
    have HK := Lib.hid (strKeys_any none w)
    have HS := Lib.hid (strSorted_nil w)
    clear hT g
    rw [hes]
    go_enter Tryz.func31, Tryz.ntmps31
    go_wp2_with fail
    refine HK.out.mono ?_
    rintro e w2 ⟨rfl, rfl⟩
    go_wp2_with fail
    refine HS.out.mono ?_
    rintro e w3 ⟨rfl, k3⟩
    go_wp2_with fail
    go_loopg [3, 13] 0 (fun g s3 i wr => s3 = .slice none 0 0 ∧ i = .int .i64 0 ∧ wr = w3)
    case atStart => exact ⟨rfl, rfl, rfl⟩
    case round =>
      obtain ⟨rfl, rfl, rfl⟩ := hrel
      go_wp2_with fail
      go_ret
      exact ⟨none, 0, rfl, ⟨rfl, .inl ⟨rfl, rfl⟩⟩, NB.nil _, k3⟩
end Go.Proofs.YtlpjbgplimlcaaaGreatDoor
