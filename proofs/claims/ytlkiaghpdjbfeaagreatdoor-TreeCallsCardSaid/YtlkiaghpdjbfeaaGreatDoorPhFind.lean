/-
  The program's find, findFile, findDirectory.
-/
import Derived.Test.YtlkiaghpdjbfeaaGreatDoorPk1
import Derived.Test.YtlkiaghpdjbfeaaGreatDoorPhJoin
import Derived.Deep.LoopGhost
import Derived.Handy
namespace Go.Proofs.YtlkiaghpdjbfeaaGreatDoor
open Go.RowKit Go.Maps

namespace TreeAt
variable {w w' : World} {L : Lay} {N : Nat} {t : Tr}
theorem cell_kind1 (h : TreeAt w L N t) {n : Nat} (hn : (t n).kind = 1) : w.cell? ⟨L.nb n, 0, none⟩ = some (.int .i64 1) := by rw [h.cell_kind (by omega), hn]; rfl
theorem cell_kind2 (h : TreeAt w L N t) {n : Nat} (hn : (t n).kind = 2) : w.cell? ⟨L.nb n, 0, none⟩ = some (.int .i64 2) := by rw [h.cell_kind (by omega), hn]; rfl
end TreeAt
theorem Good.two {t : Tr} (g : Good t) {n : Nat} (h : (t n).kind ≠ 0) : (t n).kind = 1 ∨ (t n).kind = 2 := by have := g.kinds n; omega
theorem Good.name_le {t : Tr} (g : Good t) {n m : Nat} {x : Txt} (h : look (t n).entries x = some m) : x.length ≤ 16 ∧ m < 64 ∧ (t m).kind ≠ 0 ∧ m ≠ 0 := by
  have h1 := g.entry n _ (look_mem h)
  exact ⟨h1.1.2.2.1, g.lt h1.2.2, h1.2.2, h1.2.1⟩

/-- What the program's find answers. -/
def Finds (t : Tr) (s : Txt) (w : World) (e : Ending) (w' : World) : Prop := KF w w' ∧
  ((∃ k, find t s = .error k ∧ k ≠ 0 ∧ e = .returned (.tuple #[.int .i64 0, .int .i64 (k : Int)])) ∨ ∃ n, find t s = .ok n ∧ (t n).kind ≠ 0 ∧ e = .returned (.tuple #[.int .i64 (n : Int), .int .i64 0]))

set_option maxRecDepth 100000 in
theorem find_any (s : ByteArray) (w : World) (L : Lay) (N : Nat) (t : Tr) (hT : TreeAt w L N t) (g : Good t) (hs : s.size ≤ 1000000) (he : Env w) :
    Calls Tryz.prog 42 #[.pointer (some ⟨L.tb, 0, none⟩), .string s] w (Finds t s.data.toList w) := by
  have C := Lib.hid (split_any s w hs he)
  have HT := Lib.hid hT
  have HG := Lib.hid g
  clear hT g
  go_enter Tryz.func42, Tryz.ntmps42
  go_wp2_with fail
  refine C.out.mono ?_
  rintro e w1 ⟨k1, ⟨hno, rfl⟩ | ⟨ps, A, c, hp, rfl, hc, h9, hst⟩⟩
  · have HN := Lib.hid hno
    clear hno
    go_wp2_with fail
    go_ret2
    exact ⟨k1, .inl ⟨20, by unfold find; rw [HN.out], by decide, rfl⟩⟩
  · have HP := Lib.hid hp
    have HS := Lib.hid hst
    have h8 : ps.length ≤ 8 := (pathM_some hp).2.1
    have HNM := Lib.hid (pathM_some hp).2.2
    clear hp hst
    generalize hl : ps.length = l at *
    have HL := Lib.hid hl
    clear hl
    have T1 := HT.out.far k1
    have hct := T1.cell_tree
    go_wp2_with fail
    go_loopg [8, 23] l (fun g s8 i wr => ∃ k n : Nat, k ≤ l ∧ l - k ≤ g ∧ s8 = .int .i64 n ∧ i = .int .i64 k ∧ wr = w1 ∧ Hid (walk t 0 ps = walk t n (ps.drop k)) ∧ Hid ((t n).kind ≠ 0))
    case atStart => exact ⟨0, 0, by omega, by omega, rfl, rfl, rfl, Lib.hid rfl, Lib.hid (by rw [HG.out.root.1]; decide)⟩
    case round =>
      obtain ⟨k, n, hk, hg, rfl, rfl, rfl, HW, HK⟩ := hrel
      rcases Nat.lt_or_ge k l with hlt | hge
      · have hlt' : (k : Int) < (l : Int) := by omega
        have q1 : k < ps.length := by rw [HL.out]; exact hlt
        obtain ⟨b, o, rfl, hbb, hc0⟩ := HS.out k (ba ps[k]) (by rw [List.getElem?_map, List.getElem?_eq_getElem q1]; rfl)
        have hn64 := HG.out.lt HK.out
        have ln := T1.look_yes (n := n) (by omega) HK.out
        have HD := Lib.hid (show ps.drop k = ps[k] :: ps.drop (k + 1) from List.drop_eq_getElem_cons q1)
        have hnl : ps[k].length ≤ 16 := (HNM.out _ (List.getElem_mem q1)).2.2.1
        rcases HG.out.two HK.out with h1 | h2
        · have ck := T1.cell_kind1 h1
          have ce := T1.cell_dir h1
          have lx := T1.look_name h1 (x := ps[k]) (by simp only [maxLen]; omega)
          rcases hlook : look (t n).entries ps[k] with _ | m
          · rw [hlook] at lx
            have HX := Lib.hid hlook
            have H1 := Lib.hid h1
            clear hlook h1
            simp only [Option.isSome_none, Option.getD_none] at lx
            generalize ba ps[k] = x at hc0 lx
            go_wp2_with fail
            go_ret2
            refine ⟨k1, .inl ⟨21, ?_, by decide, rfl⟩⟩
            unfold find
            rw [HP.out]
            show walk t 0 ps = _
            rw [HW.out, HD.out, walk, if_neg (by rw [H1.out]; decide), HX.out]
          · rw [hlook] at lx
            have HX := Lib.hid hlook
            have H1 := Lib.hid h1
            have HM := Lib.hid (HG.out.name_le hlook).2.2.1
            clear hlook h1
            simp only [Option.isSome_some, Option.getD_some] at lx
            generalize ba ps[k] = x at hc0 lx
            go_wp2_with fail
            go_roundg (l - (k + 1))
            case measure => omega
            case rel =>
              refine ⟨k + 1, m, by omega, by omega, rfl, by go_num, rfl, Lib.hid ?_, HM⟩
              rw [HW.out, HD.out, walk, if_neg (by rw [H1.out]; decide), HX.out]
        · have ck := T1.cell_kind2 h2
          have H2 := Lib.hid h2
          clear h2
          go_wp2_with fail
          go_ret2
          refine ⟨k1, .inl ⟨23, ?_, by decide, rfl⟩⟩
          unfold find
          rw [HP.out]
          show walk t 0 ps = _
          rw [HW.out, HD.out, walk, if_pos (by rw [H2.out]; decide)]
      · obtain rfl : k = l := by omega
        have hlt' : ¬ (k : Int) < (k : Int) := by omega
        go_wp2_with fail
        go_ret2
        refine ⟨k1, .inr ⟨n, ?_, HK.out, rfl⟩⟩
        unfold find
        rw [HP.out]
        show walk t 0 ps = _
        rw [HW.out, List.drop_eq_nil_of_le (by rw [HL.out]; exact Nat.le_refl _), walk]

theorem findFile_dir {t : Tr} {s : Txt} {n : Nat} (h : find t s = .ok n) (hk : (t n).kind = 1) : findFile t s = .error 24 := by
  unfold findFile
  rw [h]
  exact if_pos hk
theorem findFile_file {t : Tr} {s : Txt} {n : Nat} (h : find t s = .ok n) (hk : (t n).kind = 2) : findFile t s = .ok n := by
  unfold findFile
  rw [h]
  exact if_neg (by omega)
theorem findFile_err {t : Tr} {s : Txt} {k : Nat} (h : find t s = .error k) : findFile t s = .error k := by
  unfold findFile
  rw [h]

set_option maxRecDepth 100000 in
theorem findFile_any (s : ByteArray) (w : World) (L : Lay) (N : Nat) (t : Tr) (hT : TreeAt w L N t) (g : Good t) (hs : s.size ≤ 1000000) (he : Env w) :
    Calls Tryz.prog 41 #[.pointer (some ⟨L.tb, 0, none⟩), .string s] w fun e w' => KF w w' ∧
      ((∃ k, findFile t s.data.toList = .error k ∧ k ≠ 0 ∧ e = .returned (.tuple #[.int .i64 0, .int .i64 (k : Int)])) ∨ ∃ n, findFile t s.data.toList = .ok n ∧ (t n).kind = 2 ∧ e = .returned (.tuple #[.int .i64 (n : Int), .int .i64 0])) := by
  have C := Lib.hid (find_any s w L N t hT g hs he)
  have HT := Lib.hid hT
  have HG := Lib.hid g
  clear hT g
  go_enter Tryz.func41, Tryz.ntmps41
  go_wp2_with fail
  refine C.out.mono ?_
  rintro e w1 ⟨k1, ⟨k, hk, hk0, rfl⟩ | ⟨n, hn, hnk, rfl⟩⟩
  · have HK := Lib.hid hk
    clear hk
    have h0 : ((k : Int) == 0) = false := beq_eq_false_iff_ne.2 (by omega)
    go_wp2_with fail
    go_ret2
    exact ⟨k1, .inl ⟨k, findFile_err HK.out, hk0, rfl⟩⟩
  · have T1 := HT.out.far k1
    have hct := T1.cell_tree
    have hn64 := HG.out.lt hnk
    have ln := T1.look_yes (n := n) (by omega) hnk
    have HN := Lib.hid hn
    clear hn
    rcases HG.out.two hnk with h1 | h2
    · have ck := T1.cell_kind1 h1
      have H1 := Lib.hid h1
      clear h1 hnk
      go_wp2_with fail
      go_ret2
      exact ⟨k1, .inl ⟨24, findFile_dir HN.out H1.out, by decide, rfl⟩⟩
    · have ck := T1.cell_kind2 h2
      have H1 := Lib.hid h2
      clear h2 hnk
      go_wp2_with fail
      go_ret2
      exact ⟨k1, .inr ⟨n, findFile_file HN.out H1.out, H1.out, rfl⟩⟩

set_option maxRecDepth 100000 in
theorem findDir_any (s : ByteArray) (w : World) (L : Lay) (N : Nat) (t : Tr) (hT : TreeAt w L N t) (g : Good t) (hs : s.size ≤ 1000000) (he : Env w) :
    Calls Tryz.prog 43 #[.pointer (some ⟨L.tb, 0, none⟩), .string s] w fun e w' => KF w w' ∧
      ((∃ k, (find t s.data.toList = .error k ∨ ∃ n, find t s.data.toList = .ok n ∧ (t n).kind ≠ 1 ∧ k = 23) ∧ k ≠ 0 ∧ e = .returned (.tuple #[.pointer none, .int .i64 (k : Int)])) ∨
        ∃ n, find t s.data.toList = .ok n ∧ (t n).kind = 1 ∧ e = .returned (.tuple #[.pointer (some ⟨L.nb n, 0, none⟩), .int .i64 0])) := by
  have C := Lib.hid (find_any s w L N t hT g hs he)
  have HT := Lib.hid hT
  have HG := Lib.hid g
  clear hT g
  go_enter Tryz.func43, Tryz.ntmps43
  go_wp2_with fail
  refine C.out.mono ?_
  rintro e w1 ⟨k1, ⟨k, hk, hk0, rfl⟩ | ⟨n, hn, hnk, rfl⟩⟩
  · have HK := Lib.hid hk
    clear hk
    have h0 : ((k : Int) != 0) = true := bne_iff_ne.2 (by omega)
    go_wp2_with fail
    go_ret2
    exact ⟨k1, .inl ⟨k, .inl HK.out, hk0, rfl⟩⟩
  · have T1 := HT.out.far k1
    have hct := T1.cell_tree
    have hn64 := HG.out.lt hnk
    have ln := T1.look_yes (n := n) (by omega) hnk
    have HN := Lib.hid hn
    clear hn
    rcases HG.out.two hnk with h1 | h2
    · have ck := T1.cell_kind1 h1
      have H1 := Lib.hid h1
      clear h1 hnk
      go_wp2_with fail
      go_ret2
      exact ⟨k1, .inr ⟨n, HN.out, H1.out, rfl⟩⟩
    · have ck := T1.cell_kind2 h2
      have H1 := Lib.hid h2
      clear h2 hnk
      go_wp2_with fail
      go_ret2
      exact ⟨k1, .inl ⟨23, .inr ⟨n, HN.out, by rw [H1.out]; decide, rfl⟩, by decide, rfl⟩⟩

/-- The directory above a path, and its last name. -/
def upM (t : Tr) (s : Txt) : Except Nat (Nat × Txt) := match pathM s with
  | none => .error 20
  | some [] => .error 20
  | some (x :: r) => match walk t 0 (x :: r).dropLast with
    | .error e => .error e
    | .ok d => if (t d).kind ≠ 1 then .error 23 else .ok (d, (x :: r).getLast (by simp))
theorem upM_no {t : Tr} {s : Txt} (h : pathM s = none ∨ pathM s = some []) : upM t s = .error 20 := by
  unfold upM
  rcases h with h | h <;> rw [h]
theorem upM_some {t : Tr} {s : Txt} {ns : List Txt} {x : Txt} (h : pathM s = some (ns ++ [x])) : upM t s = match walk t 0 ns with | .error e => .error e | .ok d => if (t d).kind ≠ 1 then .error 23 else .ok (d, x) := by
  obtain ⟨a, r, h1, h2, h3⟩ := snoc_parts (ns := ns) (y := x)
  rw [h1] at h
  unfold upM
  rw [h]
  simp only [h2, h3]
theorem find_above {t : Tr} {s : Txt} {ns : List Txt} {x : Txt} (h : pathM s = some (ns ++ [x])) : find t (joinM ns) = walk t 0 ns := by
  unfold find
  rw [pathM_above h]
theorem pathM_cases (s : Txt) : (pathM s = none ∨ pathM s = some []) ∨ ∃ ns x, pathM s = some (ns ++ [x]) := by
  cases h : pathM s with
  | none => exact .inl (.inl rfl)
  | some ps =>
    cases ps with
    | nil => exact .inl (.inr rfl)
    | cons a r =>
      obtain ⟨ns, y, e, _⟩ := last_eq a r
      exact .inr ⟨ns, y, by rw [e]⟩

theorem joinM_size {ns : List Txt} (h8 : ns.length ≤ 8) (h : ∀ p ∈ ns, IsName p) : (ba (joinM ns)).size ≤ 1000000 := by
  rw [ba_size]
  show (47 :: joined ns).length ≤ _
  have := joined_le ns h
  rw [List.length_cons]
  omega

theorem fresh_cell {w w1 : World} {cs : Array Value} {ty : TypeId} (k : KF (w.alloc (.cells cs ty)) w1) (j : Nat) {v : Value} (h : cs[j]? = some v) : w1.cell? ⟨w.heap.size, j, none⟩ = some v := by
  rw [KF.cell k (by simp), World.cell?_alloc_mark]
  exact h
theorem fresh_open {w w1 : World} {cs : Array Value} {ty : TypeId} (k : KF (w.alloc (.cells cs ty)) w1) (j : Nat) : w1.frozen? ⟨w.heap.size, j, none⟩ = false := by
  rw [Keep.frozen k (by simp) (fun h => h)]
  have h := heap_alloc_new w (.cells cs ty)
  unfold World.frozen?
  rw [h]
  simp
theorem fresh_far {w w1 : World} {X : Obj} (k : KF (w.alloc X) w1) : KF w w1 := KF.trans ((KF.refl w).alloc X) k
theorem fresh_two {w w1 : World} {u v : Value} (k : KF w w1) : KF w ((w1.setCell ⟨w.heap.size, 0, none⟩ u).setCell ⟨w.heap.size, 1, none⟩ v) :=
  Keep.setCell (Keep.setCell k (.inl (Nat.le_refl _)) u) (.inl (Nat.le_refl _)) v

/-- What the program's above answers. -/
def Aboves (L : Lay) (t : Tr) (s : Txt) (w : World) (e : Ending) (w' : World) : Prop := KF w w' ∧
  ((∃ k x, upM t s = .error k ∧ k ≠ 0 ∧ e = .returned (.tuple #[.agg #[.pointer none, .string x], .int .i64 (k : Int)])) ∨
    ∃ d x, upM t s = .ok (d, x) ∧ (t d).kind = 1 ∧ IsName x ∧ e = .returned (.tuple #[.agg #[.pointer (some ⟨L.nb d, 0, none⟩), .string (ba x)], .int .i64 0]))

set_option maxRecDepth 100000 in
theorem above_any (s : ByteArray) (w : World) (L : Lay) (N : Nat) (t : Tr) (hT : TreeAt w L N t) (g : Good t) (hs : s.size ≤ 1000000) (he : Env w) :
    Calls Tryz.prog 120 #[.pointer (some ⟨L.tb, 0, none⟩), .string s] w (Aboves L t s.data.toList w) := by
  have HT := Lib.hid hT
  have HG := Lib.hid g
  clear hT g
  have kA : ∀ X, KF w (w.alloc X) := fun X => (KF.refl w).alloc X
  rcases pathM_cases s.data.toList with h | ⟨ns, x, h⟩
  · have HC := Lib.hid fun X => parent_no s (w.alloc X) hs (he.kept (kA X)) h
    have HU := Lib.hid (upM_no (t := t) h)
    clear h
    go_enter Tryz.func120, Tryz.ntmps120
    go_wp2_with fail
    refine (HC.out _).mono ?_
    rintro e w1 ⟨rfl, k1⟩
    have c0 := fresh_cell k1 0 rfl
    have c1 := fresh_cell k1 1 rfl
    have f0 := fresh_open k1 0
    have f1 := fresh_open k1 1
    go_wp2_with fail
    refine bodyPost_ret (v := .tuple #[.agg #[.pointer none, .string ⟨#[]⟩], .int .i64 20]) (by simp [results, Tryz.results120, go_sem, c0, c1]) rfl ?_
    exact ⟨fresh_two (fresh_far k1), .inl ⟨20, _, HU.out, by decide, rfl⟩⟩
  · have HC := Lib.hid fun X => parent_yes s (w.alloc X) ns x hs (he.kept (kA X)) h
    obtain ⟨_, h8, hnm⟩ := pathM_some h
    have HJ := Lib.hid (joinM_size (ns := ns) (by simp at h8; omega) fun p hp => hnm p (by simp [hp]))
    have HX := Lib.hid (hnm x (by simp))
    have HF : Hid (∀ w1, KF w w1 → Calls Tryz.prog 43 #[.pointer (some ⟨L.tb, 0, none⟩), .string (ba (joinM ns))] w1 _) := Lib.hid fun w1 k1 =>
      findDir_any (ba (joinM ns)) w1 L N t (HT.out.far k1) HG.out HJ.out (he.kept k1)
    have e1 : (ba (joinM ns)).data.toList = joinM ns := rfl
    simp only [find_above h] at HF
    have HU := Lib.hid (upM_some (t := t) h)
    clear h h8 hnm e1
    generalize ba (joinM ns) = S0 at HC HF
    generalize hx : ba x = x0 at HC
    have HX0 := Lib.hid hx
    clear hx
    go_enter Tryz.func120, Tryz.ntmps120
    go_wp2_with fail
    refine (HC.out _).mono ?_
    rintro e w1 ⟨rfl, k1⟩
    go_wp2_with fail
    refine (HF.out w1 (fresh_far k1)).mono ?_
    rintro e w2 ⟨k2, ⟨k, hk, hk0, rfl⟩ | ⟨d, hd, hd1, rfl⟩⟩
    · have HK := Lib.hid hk
      have k3 := KF.trans k1 k2
      have c0 := fresh_cell k3 0 rfl
      have c1 := fresh_cell k3 1 rfl
      have f0 := fresh_open k3 0
      have f1 := fresh_open k3 1
      clear hk
      go_wp2_with fail
      refine bodyPost_ret (v := .tuple #[.agg #[.pointer none, .string x0], .int .i64 (k : Int)]) (by simp [results, Tryz.results120, go_sem, c0, c1]) rfl ?_
      refine ⟨fresh_two (fresh_far k3), .inl ⟨k, x0, ?_, hk0, rfl⟩⟩
      rw [HU.out]
      rcases HK.out with h | ⟨n, h, hn, rfl⟩
      · rw [h]
      · rw [h]; exact if_pos hn
    · have HD := Lib.hid hd
      have HD1 := Lib.hid hd1
      have k3 := KF.trans k1 k2
      have c0 := fresh_cell k3 0 rfl
      have c1 := fresh_cell k3 1 rfl
      have f0 := fresh_open k3 0
      have f1 := fresh_open k3 1
      clear hd hd1
      go_wp2_with fail
      refine bodyPost_ret (v := .tuple #[.agg #[.pointer (some ⟨L.nb d, 0, none⟩), .string x0], .int .i64 0]) (by simp [results, Tryz.results120, go_sem, c0, c1]) rfl ?_
      refine ⟨fresh_two (fresh_far k3), .inr ⟨d, x, ?_, HD1.out, HX.out, by rw [HX0.out]⟩⟩
      rw [HU.out, HD.out]
      exact if_neg (by rw [HD1.out]; decide)

theorem place_some {t : Tr} {s : Txt} {ns : List Txt} {x : Txt} (h : pathM s = some (ns ++ [x])) : place t s = match walk t 0 ns with
    | .error e => .error e | .ok d => if (t d).kind ≠ 1 then .error 23 else match look (t d).entries x with | some _ => .error 22 | none => .ok (d, x) := by
  obtain ⟨a, r, h1, h2, h3⟩ := snoc_parts (ns := ns) (y := x)
  rw [h1] at h
  unfold place
  rw [h]
  simp only [h2, h3]
  rcases walk t 0 ns with e | d
  · rfl
  · simp only
    split
    · rfl
    · cases look (t d).entries x <;> rfl
theorem findUp_some {t : Tr} {s : Txt} {ns : List Txt} {x : Txt} (h : pathM s = some (ns ++ [x])) : findUp t s = match walk t 0 ns with
    | .error e => .error e | .ok d => if (t d).kind ≠ 1 then .error 23 else match look (t d).entries x with | none => .error 21 | some a => .ok (a, d, x) := by
  obtain ⟨a, r, h1, h2, h3⟩ := snoc_parts (ns := ns) (y := x)
  have hw := walk_append t 0 ns [x]
  rw [h1] at h hw
  unfold findUp
  rw [h]
  simp only [h2, h3, hw]
  rcases walk t 0 ns with e | d
  · rfl
  · simp only [walk]
    by_cases hk : (t d).kind = 1
    · rw [if_neg (by omega), if_neg (by omega)]
      cases look (t d).entries x <;> rfl
    · rw [if_pos hk, if_pos hk]
theorem up_no {t : Tr} {s : Txt} {k : Nat} (h : upM t s = .error k) : place t s = .error k ∧ findUp t s = .error k := by
  rcases pathM_cases s with hp | ⟨ns, x, hp⟩
  · rw [upM_no hp] at h
    injection h with h
    subst h
    unfold place findUp
    rcases hp with hp | hp <;> rw [hp] <;> exact ⟨rfl, rfl⟩
  · rw [upM_some hp] at h
    rw [place_some hp, findUp_some hp]
    rcases hn : walk t 0 ns with e | d
    · rw [hn] at h
      injection h with h
      rw [h]
      exact ⟨rfl, rfl⟩
    · rw [hn] at h
      simp only at h ⊢
      by_cases hk : (t d).kind ≠ 1
      · rw [if_pos hk] at h
        rw [if_pos hk, if_pos hk]
        exact ⟨by injection h with h; rw [h], by injection h with h; rw [h]⟩
      · rw [if_neg hk] at h
        cases h
theorem up_ok {t : Tr} {s : Txt} {d : Nat} {x : Txt} (h : upM t s = .ok (d, x)) : ∃ ns, pathM s = some (ns ++ [x]) ∧ walk t 0 ns = .ok d ∧ (t d).kind = 1 := by
  rcases pathM_cases s with hp | ⟨ns, y, hp⟩
  · rw [upM_no hp] at h
    cases h
  · rw [upM_some hp] at h
    rcases hn : walk t 0 ns with e | d'
    · rw [hn] at h
      cases h
    · rw [hn] at h
      simp only at h
      split at h
      · cases h
      · next hk =>
        injection h with h
        injection h with h1 h2
        subst h1 h2
        exact ⟨ns, hp, hn, by omega⟩
theorem up_free {t : Tr} {s : Txt} {d : Nat} {x : Txt} (h : upM t s = .ok (d, x)) (hl : look (t d).entries x = none) : place t s = .ok (d, x) ∧ findUp t s = .error 21 := by
  obtain ⟨ns, hp, hw, hk⟩ := up_ok h
  rw [place_some hp, findUp_some hp, hw]
  simp only [hl]
  rw [if_neg (by omega), if_neg (by omega)]
  exact ⟨rfl, rfl⟩
theorem up_taken {t : Tr} {s : Txt} {d a : Nat} {x : Txt} (h : upM t s = .ok (d, x)) (hl : look (t d).entries x = some a) : place t s = .error 22 ∧ findUp t s = .ok (a, d, x) := by
  obtain ⟨ns, hp, hw, hk⟩ := up_ok h
  rw [place_some hp, findUp_some hp, hw]
  simp only [hl]
  rw [if_neg (by omega), if_neg (by omega)]
  exact ⟨rfl, rfl⟩
end Go.Proofs.YtlkiaghpdjbfeaaGreatDoor
