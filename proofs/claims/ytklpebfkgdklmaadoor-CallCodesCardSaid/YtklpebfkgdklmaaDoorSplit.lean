/-
  path.Split: no path, or its names.
-/
import Derived.Test.YtklpebfkgdklmaaDoorAny
namespace Go.Proofs.YtklpebfkgdklmaaDoor
open Go.RowKit

theorem wrong_name (s : ByteArray) (w : World) : Calls Tryd.prog 82 #[.string s] w fun e w' => e = .returned (.bool (!decide (IsName s.data.toList))) ∧ KF w w' := by
  have C := Lib.hid (name_any s w)
  go_enter Tryd.func82, Tryd.ntmps82
  go_wp2_with fail
  refine C.out.mono ?_
  rintro e w1 ⟨rfl, k1⟩
  go_wp2_with fail
  go_ret
  exact ⟨rfl, k1⟩

theorem World.cellAt {w : World} {B n : Nat} {A : Option Addr} {xs : List ByteArray} (h : Strs w B A xs) (hn : n < xs.length) : ∃ b o, A = some ⟨b, o, none⟩ ∧ b < B ∧ w.cell? ⟨b, o + n, none⟩ = some (.string xs[n]) := h n _ (List.getElem?_eq_getElem hn)

set_option maxRecDepth 100000 in
theorem find_wrong (A : Option Addr) (xs : List ByteArray) (n c : Nat) (w : World) (hn : n = xs.length) (hb : n ≤ 1000000) (h : Strs w w.heap.size A xs) :
    Calls Tryd.prog 95 #[.slice A n c, .func (.func 82) #[] #[]] w fun e w' =>
      (∃ z : Int, e = .returned (.int .i64 z) ∧ decide (0 ≤ z) = !decide (∀ x ∈ xs, IsName x.data.toList)) ∧ KF w w' := by
  have HS := Lib.hid h
  clear h
  have HN := Lib.hid hn
  clear hn
  go_enter Tryd.func95, Tryd.ntmps95
  go_wp2_with fail
  go_loopg [5, 8] n (fun g _ i wr => ∃ k : Nat, k ≤ n ∧ n - k ≤ g ∧ i = .int .i64 k ∧ KF w wr ∧ Hid (∀ j, j < k → ∀ x, xs[j]? = some x → IsName x.data.toList))
  case atStart => exact ⟨0, by omega, by omega, rfl, KF.refl _, Lib.hid fun j hj => absurd hj (Nat.not_lt_zero _)⟩
  case round =>
    obtain ⟨k, hk, hg, rfl, kf, HA⟩ := hrel
    rcases Nat.lt_or_ge k n with hlt | hge
    · have hlt' : (k : Int) < (n : Int) := by omega
      have hkx : k < xs.length := by rw [← HN.out]; exact hlt
      obtain ⟨b, o, rfl, hbb, hc⟩ := World.cellAt (HS.out.kept kf) hkx
      have HX := Lib.hid (List.getElem?_eq_getElem hkx)
      generalize xs[k] = x at hc HX
      have HW := Lib.hid (wrong_name x)
      by_cases hname : IsName x.data.toList
      · rw [decide_eq_true hname] at HW
        go_wp2_with fail
        refine (HW.out wr).mono ?_
        rintro e w1 ⟨rfl, k1⟩
        go_wp2_with fail
        go_roundg (n - (k + 1))
        case measure => omega
        case rel =>
          refine ⟨k + 1, by omega, by omega, by go_num, kf.trans k1, Lib.hid fun j hj y hy => ?_⟩
          rcases Nat.lt_or_ge j k with h | h
          · exact HA.out j h y hy
          · obtain rfl : j = k := by omega
            rw [HX.out] at hy
            injection hy with hy
            subst hy
            exact hname
      · rw [decide_eq_false hname] at HW
        go_wp2_with fail
        refine (HW.out wr).mono ?_
        rintro e w1 ⟨rfl, k1⟩
        go_wp2_with fail
        go_ret
        refine ⟨⟨_, rfl, ?_⟩, kf.trans k1⟩
        have hno : decide (∀ x ∈ xs, IsName x.data.toList) = false := decide_eq_false fun h => hname (h x (List.mem_of_getElem? HX.out))
        rw [hno]
        exact decide_eq_true (by omega)
    · obtain rfl : k = n := by omega
      have hlt' : ¬ (k : Int) < (k : Int) := by omega
      go_wp2_with fail
      go_ret
      refine ⟨⟨_, rfl, ?_⟩, kf⟩
      have : ∀ x ∈ xs, IsName x.data.toList := fun x hx => by
        obtain ⟨j, hj, rfl⟩ := List.mem_iff_getElem.1 hx
        exact HA.out j (by rw [HN.out]; exact hj) _ (List.getElem?_eq_getElem hj)
      rw [decide_eq_true this]
      rfl

theorem has_wrong (A : Option Addr) (xs : List ByteArray) (n c : Nat) (w : World) (hn : n = xs.length) (hb : n ≤ 1000000) (h : Strs w w.heap.size A xs) :
    Calls Tryd.prog 84 #[.slice A n c, .func (.func 82) #[] #[]] w fun e w' =>
      e = .returned (.bool (!decide (∀ x ∈ xs, IsName x.data.toList))) ∧ KF w w' := by
  have C := Lib.hid (find_wrong A xs n c w hn hb h)
  clear h hn
  go_enter Tryd.func84, Tryd.ntmps84
  go_wp2_with fail
  refine C.out.mono ?_
  rintro e w1 ⟨⟨z, rfl, hz⟩, k1⟩
  have HZ := Lib.hid hz
  clear hz
  go_wp2_with fail
  go_ret
  refine ⟨?_, k1⟩
  rw [← HZ.out]
  rfl

/-- What a package-level variable of Go's library holds matters to none of these calls; but it holds a number. -/
def Env (w : World) : Prop := ∃ m : Int, w.cell? ⟨1, 0, none⟩ = some (.int .i64 m)
theorem Env.kept {w w' : World} (h : Env w) (k : KF w w') : Env w' := by
  obtain ⟨m, hm⟩ := h
  exact ⟨m, (k.cell (World.block_lt_of_cell? _ _ hm)).trans hm⟩

/-- The row that strings.SplitN lays. -/
theorem Strs.laid (w : World) (xs : List ByteArray) (N : Nat) (t : TypeId) : Strs (w.alloc (.cells (Lib.cellsOf xs N) t)) (w.heap.size + 1) (some ⟨w.heap.size, 0, none⟩) xs := fun j x hj => by
  refine ⟨_, _, rfl, by omega, ?_⟩
  rw [Nat.zero_add, World.cell?_alloc_mark]
  have hlt : j < xs.length := by
    rcases Nat.lt_or_ge j xs.length with h | h
    · exact h
    · rw [List.getElem?_eq_none h] at hj; cases hj
  simp only [Lib.cellsOf, List.getElem?_toArray]
  rw [List.getElem?_append_left (by simpa using hlt), List.getElem?_map, hj]
  rfl
/-- What strings.SplitN gives, as lists. -/
theorem splitB_lists (k : Nat) (s : ByteArray) : Lib.splitB ⟨#[47]⟩ 0 k s = (Lib.splitK [47] 0 k s.data.toList).map ba := by
  have := Lib.splitB_data ⟨#[47]⟩ 0 k s
  have h2 := congrArg (List.map ba) this
  rw [List.map_map] at h2
  have e : (ba ∘ fun x : ByteArray => x.data.toList) = id := by funext x; exact ba_data x
  rw [e, List.map_id] at h2
  exact h2

theorem prefix_slash (r : Txt) : Lib.hasPrefix (47 :: r) [47] = true := by simp [Lib.hasPrefix]
theorem trim_slash (r : Txt) : Lib.trimPrefix (47 :: r) [47] = r := by simp [Lib.trimPrefix, Lib.hasPrefix]
theorem prefix_other {l : Txt} (h : ∀ r, l ≠ 47 :: r) : Lib.hasPrefix l [47] = false := by
  cases l with
  | nil => rfl
  | cons b r =>
    have hb : b ≠ 47 := fun e => h r (by rw [e])
    show [47].isPrefixOf (b :: r) = false
    rw [List.isPrefixOf, beq_eq_false_iff_ne.2 hb.symm]
    rfl

/-- What path.Split answers. -/
def Splits (l : Txt) (w : World) (e : Ending) (w' : World) : Prop := KF w w' ∧
  ((pathM l = none ∧ e = .returned (.tuple #[.slice none 0 0, .int .i64 20])) ∨
   ∃ ps A c, pathM l = some ps ∧ e = .returned (.tuple #[.slice A ps.length c, .int .i64 0]) ∧ ps.length ≤ c ∧ c ≤ 9 ∧ Strs w' w'.heap.size A (ps.map ba))

set_option maxRecDepth 100000 in
theorem split_root (w : World) : Calls Tryd.prog 58 #[.string ⟨#[47]⟩] w (Splits [47] w) := by
  go_enter Tryd.func58, Tryd.ntmps58
  go_wp2_with fail
  go_ret2
  exact ⟨KF.refl _, Or.inr ⟨[], none, 0, rfl, rfl, by simp, by omega, Strs.nil⟩⟩
set_option maxRecDepth 100000 in
theorem split_bare (s : ByteArray) (w : World) (h : ∀ r, s.data.toList ≠ 47 :: r) : Calls Tryd.prog 58 #[.string s] w (Splits s.data.toList w) := by
  have hp := prefix_other h
  have hn : (s.toList == [47]) = false := beq_eq_false_iff_ne.2 (by rw [Lib.toList_data]; exact h [])
  have hm : pathM s.data.toList = none := by
    cases hl : s.data.toList with
    | nil => rfl
    | cons b r => rw [pathM, if_pos (fun e => h r (by rw [hl, e]))]
  have HM := Lib.hid hm
  have C := Lib.hid (Tryd.strings_CutPrefix s ⟨#[47]⟩ w)
  have hp' : Lib.hasPrefix s.data.toList (ByteArray.mk #[47]).data.toList = false := hp
  rw [hp'] at C
  clear h hp hp' hm
  go_enter Tryd.func58, Tryd.ntmps58
  go_wp2_with fail
  refine C.out.mono ?_
  rintro e w1 ⟨rfl, rfl⟩
  go_wp2_with fail
  go_ret2
  exact ⟨KF.refl _, Or.inl ⟨HM.out, rfl⟩⟩

set_option maxRecDepth 100000 in
theorem split_led (r : Txt) (w : World) (hr : r ≠ []) (hs : r.length ≤ 1000000) (he : Env w) : Calls Tryd.prog 58 #[.string (ba (47 :: r))] w (Splits (47 :: r) w) := by
  obtain ⟨m, hm⟩ := he
  have C := Lib.hid (Tryd.strings_CutPrefix (ba (47 :: r)) ⟨#[47]⟩ w)
  have hp' : Lib.hasPrefix (ba (47 :: r)).data.toList (ByteArray.mk #[47]).data.toList = true := prefix_slash r
  have ht' : Lib.trimPrefix (ba (47 :: r)).data.toList (ByteArray.mk #[47]).data.toList = r := trim_slash r
  rw [hp', ht'] at C
  have D := Tryd.strings_SplitN (ba r) ⟨#[47]⟩ 9 m w (by rw [ba_size]; omega) hm (by decide) (by omega) (by omega)
  rw [splitB_lists, ba_size] at D
  have HD := Lib.hid D
  clear D
  have hn : ((ba (47 :: r)).toList == [47]) = false := beq_eq_false_iff_ne.2 (by
    rw [Lib.toList_data]
    intro h
    have h' : (47 :: r : Txt) = [47] := h
    injection h' with _ h'
    exact hr h')
  obtain ⟨q1, q2⟩ := split9 r
  have hrl : (ba r).data.toList = r := rfl
  rw [hrl] at HD
  have HR := Lib.hid hr
  clear hp' ht' hrl hr
  generalize ba (47 :: r) = S0 at hn C ⊢
  generalize Lib.splitK [47] 0 (min 9 (r.length + 1) - 1) r = q at q1 q2 HD
  have hNm : min 9 (r.length + 1) ≤ 9 := by omega
  have hNp : (pieces r).length ≤ r.length + 1 := pieces_length_le r
  rcases Nat.lt_or_ge 8 (pieces r).length with h8 | h8
  · have hq9 := q2 h8
    have hm : pathM (47 :: r) = none := by
      rw [pathM, if_neg (by simp), if_neg HR.out, if_neg (fun h => by omega)]
    have HM := Lib.hid hm
    have hl : (q.map ba).length = 9 := by rw [List.length_map]; exact hq9
    generalize q.map ba = xs at hl HD
    clear q1 q2 hm
    go_enter Tryd.func58, Tryd.ntmps58
    go_wp2_with fail
    refine C.out.mono ?_
    rintro e w1 ⟨rfl, rfl⟩
    go_wp2_with fail
    refine HD.out.mono ?_
    rintro e w2 ⟨rfl, rfl⟩
    rw [hl]
    go_wp2_with fail
    go_ret2
    exact ⟨KF.of_below ((Below.refl _ _).alloc (Nat.le_refl _) _), Or.inl ⟨HM.out, rfl⟩⟩
  · have hq := q1 h8
    have hl : (q.map ba).length = (pieces r).length := by rw [List.length_map, hq]
    have hS := fun (w0 : World) => Strs.laid w0 (q.map ba) (min 9 (r.length + 1)) 9
    have hw := fun w0 (c0 : Nat) (hst : Strs w0 w0.heap.size (some ⟨w.heap.size, 0, none⟩) (q.map ba)) => has_wrong (some ⟨w.heap.size, 0, none⟩) (q.map ba) (q.map ba).length c0 w0 rfl (by omega) hst
    have hall : decide (∀ x ∈ q.map ba, IsName x.data.toList) = decide (∀ p ∈ pieces r, IsName p) := by
      rw [hq]
      congr 1
      simp
    rw [hall] at hw
    have HS := Lib.hid hS
    have HW := Lib.hid hw
    have HQ := Lib.hid hq
    clear hS hw hall hq
    have hn8 : (q.map ba).length ≤ 8 := by omega
    have hd8 : decide ((8 : Int) < ((q.map ba).length : Int)) = false := decide_eq_false (by omega)
    have HL := Lib.hid hl
    clear hl
    generalize hx : q.map ba = xs at HS HW HD hn8 hd8 HL
    have HX := Lib.hid hx
    clear hx
    go_enter Tryd.func58, Tryd.ntmps58
    go_wp2_with fail
    refine C.out.mono ?_
    rintro e w1 ⟨rfl, rfl⟩
    go_wp2_with fail
    refine HD.out.mono ?_
    rintro e w2 ⟨rfl, rfl⟩
    have kA : KF w1 (w1.alloc (.cells (Lib.cellsOf xs (min 9 (r.length + 1))) 9)) := KF.of_below ((Below.refl _ _).alloc (Nat.le_refl _) _)
    have sA : Strs (w1.alloc (.cells (Lib.cellsOf xs (min 9 (r.length + 1))) 9)) (w1.alloc (.cells (Lib.cellsOf xs (min 9 (r.length + 1))) 9)).heap.size (some ⟨w1.heap.size, 0, none⟩) xs := (HS.out w1).more (by simp)
    have hsz : w1.heap.size = w1.heap.size := rfl
    generalize w1.alloc (.cells (Lib.cellsOf xs (min 9 (r.length + 1))) 9) = w2 at kA sA
    have SA := Lib.hid sA
    clear sA
    by_cases hall : ∀ p ∈ pieces r, IsName p
    · rw [decide_eq_true hall] at HW
      have HM := Lib.hid (show pathM (47 :: r) = some (pieces r) by rw [pathM, if_neg (by simp), if_neg HR.out, if_pos ⟨h8, hall⟩])
      go_wp2_with fail
      refine (HW.out _ _ SA.out).mono ?_
      rintro e w3 ⟨rfl, k3⟩
      go_wp2_with fail
      go_ret2
      refine ⟨kA.trans k3, Or.inr ⟨pieces r, some ⟨w1.heap.size, 0, none⟩, min 9 (r.length + 1), HM.out, ?_, ?_, hNm, ?_⟩⟩
      · rw [← HL.out]; rfl
      · omega
      · rw [← HQ.out, HX.out]
        exact SA.out.kept k3
    · rw [decide_eq_false hall] at HW
      have HM := Lib.hid (show pathM (47 :: r) = none by rw [pathM, if_neg (by simp), if_neg HR.out, if_neg (fun h => hall h.2)])
      go_wp2_with fail
      refine (HW.out _ _ SA.out).mono ?_
      rintro e w3 ⟨rfl, k3⟩
      go_wp2_with fail
      go_ret2
      exact ⟨kA.trans k3, Or.inl ⟨HM.out, rfl⟩⟩
theorem split_any (s : ByteArray) (w : World) (hs : s.size ≤ 1000000) (he : Env w) : Calls Tryd.prog 58 #[.string s] w (Splits s.data.toList w) := by
  rw [size_len] at hs
  rw [← ba_data s]
  generalize s.data.toList = l at hs
  match l with
  | [] => exact split_bare (ba []) w (fun r h => by cases h)
  | b :: r =>
    by_cases hb : b = 47
    · subst hb
      by_cases hr : r = []
      · subst hr; exact split_root w
      · exact split_led r w hr (by simp at hs; omega) he
    · exact split_bare (ba (b :: r)) w (fun r' h => hb (by injection h))
end Go.Proofs.YtklpebfkgdklmaaDoor
