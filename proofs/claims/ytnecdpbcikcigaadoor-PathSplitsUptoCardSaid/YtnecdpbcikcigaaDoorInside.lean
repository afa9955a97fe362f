/-
  THE WALK of PathInside; the document's answer: Inside.
-/
import Derived.Test.YtnecdpbcikcigaaDoorRSplit
import Derived.Test.YtnecdpbcikcigaaDoorParents
namespace Go.Proofs.YtnecdpbcikcigaaDoor
open Go.RowKit

theorem take_step {xs ys : List Txt} {k : Nat} (h : xs.take k = ys.take k) (q1 : k < xs.length) (q2 : k < ys.length) (he : xs[k] = ys[k]) : xs.take (k + 1) = ys.take (k + 1) := take_texts h q1 q2 he

set_option maxRecDepth 100000 in
theorem rinside_any (s t : ByteArray) (w : World) (hs : s.size ≤ 1000) (ht : t.size ≤ 1000) :
    Calls Tryd.prog 19 #[.string s, .string t] w fun e w' => e = .returned (.bool (insideM s.data.toList t.data.toList)) ∧ KF w w' := by
  have C := Lib.hid (rsplit_any s w hs)
  have D : Hid (∀ w1, Calls Tryd.prog 10 #[.string t] w1 (RSplits t.data.toList w1)) := Lib.hid fun w1 => rsplit_any t w1 ht
  go_enter Tryd.func19, Tryd.ntmps19
  go_wp2_with fail
  refine C.out.mono ?_
  rintro e w1 ⟨k1, ⟨hno, A, n, c, rfl⟩ | ⟨xs, A, c, hp, rfl, hc, hcm, hst⟩⟩
  · have HM := Lib.hid (insideM_none (s := s.data.toList) (o := t.data.toList) (Or.inl hno))
    go_wp2_with fail
    refine (D.out _).mono ?_
    rintro e w2 ⟨k2, ⟨hno', A', n', c', rfl⟩ | ⟨ys, A', c', hp', rfl, hc', hcm', hst'⟩⟩
    all_goals (go_wp2_with fail; go_ret; exact ⟨by rw [HM.out]; rfl, k1.trans k2⟩)
  · go_wp2_with fail
    refine (D.out _).mono ?_
    rintro e w2 ⟨k2, ⟨hno', A', n', c', rfl⟩ | ⟨ys, A', c', hp', rfl, hc', hcm', hst'⟩⟩
    · have HM := Lib.hid (insideM_none (s := s.data.toList) (o := t.data.toList) (Or.inr hno'))
      go_wp2_with fail
      go_ret
      exact ⟨by rw [HM.out]; rfl, k1.trans k2⟩
    · have HM := Lib.hid (insideM_some hp hp')
      have h8 := (pathM_some hp).2.1
      have h8' := (pathM_some hp').2.1
      have HS := Lib.hid (hst.kept k2)
      have HS' := Lib.hid hst'
      clear hp hp' hst hst'
      by_cases hl : ys.length < xs.length
      · have hgt : decide ((xs.length : Int) ≤ (ys.length : Int)) = false := decide_eq_false (by omega)
        generalize hx : xs.length = n at *
        generalize hy : ys.length = m at *
        have HX := Lib.hid hx
        have HY := Lib.hid hy
        clear hx hy
        go_wp2_with fail
        go_loopg [9] m (fun g i wr => ∃ k nq : Nat, k ≤ m ∧ m - k ≤ g ∧ i = .int .i64 k ∧ wr = w2.drewN nq ∧ Hid (xs.take k = ys.take k))
        case atStart => exact ⟨0, 0, by omega, by omega, rfl, rfl, Lib.hid rfl⟩
        case round =>
          obtain ⟨k, nq, hk, hg, rfl, rfl, HT⟩ := hrel
          rcases Nat.lt_or_ge k m with hlt | hge
          · have hlt' : (k : Int) < (m : Int) := by omega
            have hlt2 : (k : Int) < (n : Int) := by omega
            have q1 : k < xs.length := by rw [HX.out]; omega
            have q2 : k < ys.length := by rw [HY.out]; exact hlt
            obtain ⟨b, o, rfl, hbb, hc1⟩ := World.cellAt HS.out (n := k) (by rw [List.length_map]; exact q1)
            obtain ⟨b', o', rfl, hbb', hc2⟩ := World.cellAt HS'.out (n := k) (by rw [List.length_map]; exact q2)
            rw [List.getElem_map] at hc1 hc2
            by_cases he : xs[k] = ys[k]
            · have HE := Lib.hid (take_step HT.out q1 q2 he)
              rw [he] at hc1
              generalize ba ys[k] = x at hc1 hc2
              go_wp2
              go_quiet (fail)
              go_wp2
              go_roundg (m - (k + 1))
              case measure => omega
              case rel => exact ⟨k + 1, _, by omega, by omega, by go_num, rfl, HE.out⟩
            · have hbb : ((ba xs[k]).toList == (ba ys[k]).toList) = false := by
                rw [Lib.toList_data, Lib.toList_data]
                exact beq_eq_false_iff_ne.2 he
              have HD := Lib.hid (show decide (m < n ∧ xs.take m = ys) = false by
                rw [decide_eq_false_iff_not]
                rintro ⟨_, h⟩
                apply he
                have h1 : (xs.take m)[k]? = ys[k]? := by rw [h]
                rw [List.getElem?_take, if_pos hlt, List.getElem?_eq_getElem q1, List.getElem?_eq_getElem q2] at h1
                exact Option.some.inj h1)
              generalize ba xs[k] = x at hc1 hbb
              generalize ba ys[k] = y at hc2 hbb
              go_wp2
              go_quiet (fail)
              go_wp2
              go_ret
              exact ⟨by rw [HM.out, HD.out]; rfl, ((k1.trans k2).drewN _).drewN _⟩
          · obtain rfl : k = m := by omega
            have HD := Lib.hid (show decide (k < n ∧ xs.take k = ys) = true by
              have h := HT.out
              rw [List.take_of_length_le (l := ys) (by rw [HY.out]; exact Nat.le_refl _)] at h
              exact decide_eq_true ⟨hl, h⟩)
            have hlt' : ¬ (k : Int) < (k : Int) := by omega
            go_wp2
            go_ret
            exact ⟨by rw [HM.out, HD.out]; rfl, (k1.trans k2).drewN _⟩
      · have hgt : decide ((xs.length : Int) ≤ (ys.length : Int)) = true := decide_eq_true (by omega)
        have HD := Lib.hid (show decide (ys.length < xs.length ∧ xs.take ys.length = ys) = false from decide_eq_false fun h => hl h.1)
        go_wp2_with fail
        go_ret
        exact ⟨by rw [HM.out, HD.out]; rfl, k1.trans k2⟩

theorem parent_any (s : ByteArray) (w : World) (hs : s.size ≤ 1000) (he : Env w) :
    Calls Tryd.prog 11 #[.string s] w fun e w' => KF w w' ∧ (((pathM s.data.toList = none ∨ pathM s.data.toList = some []) ∧ e = .returned (.tuple #[.string ⟨#[]⟩, .string ⟨#[]⟩, .int .i64 20])) ∨
      ∃ ps p, pathM s.data.toList = some (ps ++ [p]) ∧ e = .returned (.tuple #[.string (ba (joinM ps)), .string (ba p), .int .i64 0])) := by
  cases h : pathM s.data.toList with
  | none => exact (parent_no s w (by omega) he (Or.inl h)).mono fun e w' ⟨he, hk⟩ => ⟨hk, Or.inl ⟨Or.inl rfl, he⟩⟩
  | some ns =>
    rcases List.eq_nil_or_concat ns with rfl | ⟨ps, p, rfl⟩
    · exact (parent_no s w (by omega) he (Or.inr h)).mono fun e w' ⟨he, hk⟩ => ⟨hk, Or.inl ⟨Or.inr rfl, he⟩⟩
    · rw [List.concat_eq_append] at h ⊢
      exact (parent_yes s w ps p (by omega) he h).mono fun e w' ⟨he, hk⟩ => ⟨hk, Or.inr ⟨ps, p, rfl, he⟩⟩

theorem joinM_le (ps : List Txt) (p : Txt) {l : Txt} (h : pathM l = some (ps ++ [p])) : (ba (joinM ps)).size ≤ 1000 := by
  obtain ⟨_, h8, hn⟩ := pathM_some h
  have := joined_le ps fun q hq => hn q (by simp [hq])
  rw [ba_size, List.length_cons]
  simp at h8
  omega

set_option maxRecDepth 100000 in
theorem inside_small (s t : ByteArray) (w : World) (hs : s.size ≤ 1000) (ht : t.size ≤ 1000) (he : Env w) : Calls Tryd.prog 4 #[.string s, .string t] w fun e w' => e = .returned (.bool true) ∧ KF w w' := by
  have W0 := Lib.hid (speaks_any w he)
  have hd : decide ((1000 : Int) < (s.size : Int)) = false := decide_eq_false (by omega)
  have hd2 : decide ((1000 : Int) < (t.size : Int)) = false := decide_eq_false (by omega)
  have HE := Lib.hid he
  clear he
  have I1 := Lib.hid (fun w1 k1 => inside_any s t w1 (by omega) (by omega) (HE.out.kept (w' := w1) k1))
  have R1 := Lib.hid (fun w1 => rinside_any s t w1 hs ht)
  have I2 := fun w1 k1 => inside_any s s w1 (by omega) (by omega) (HE.out.kept (w' := w1) k1)
  rw [insideM_self] at I2
  have J2 := Lib.hid I2
  have P1 := Lib.hid (fun w1 k1 => parent_any s w1 hs (HE.out.kept (w' := w1) k1))
  have IA : Hid (∀ ps p, pathM s.data.toList = some (ps ++ [p]) → ∀ w1, KF w w1 → Calls Tryd.prog 18 #[.string s, .string (ba (joinM ps))] w1 fun e w' => e = .returned (.bool true) ∧ KF w1 w') := Lib.hid fun ps p h w1 k1 => by
    have := inside_any s (ba (joinM ps)) w1 (by omega) (by have := joinM_le ps p h; omega) (HE.out.kept k1)
    rw [show insideM s.data.toList (ba (joinM ps)).data.toList = true from insideM_above h] at this
    exact this
  have IB : Hid (∀ ps p, pathM s.data.toList = some (ps ++ [p]) → ∀ w1, KF w w1 → Calls Tryd.prog 18 #[.string (ba (joinM ps)), .string t] w1 fun e w' => e = .returned (.bool (insideM (joinM ps) t.data.toList)) ∧ KF w1 w') := Lib.hid fun ps p h w1 k1 => by
    have := inside_any (ba (joinM ps)) t w1 (by have := joinM_le ps p h; omega) (by omega) (HE.out.kept k1)
    exact this
  clear I2
  go_enter Tryd.func4, Tryd.ntmps4
  go_wp2_with fail
  refine W0.out.mono ?_
  rintro e w1 ⟨rfl, k1⟩
  go_wp2_with fail
  refine (I1.out _ k1).mono ?_
  rintro e w2 ⟨rfl, k2⟩
  have k2 := k1.trans k2
  go_wp2_with fail
  refine (R1.out _).mono ?_
  rintro e w3 ⟨rfl, k3⟩
  have k3 := k2.trans k3
  have IT := Lib.hid (fun ps p h => insideM_through (s := s.data.toList) (o := t.data.toList) (ps := ps) (p := p) h)
  generalize insideM s.data.toList t.data.toList = B at I1 IT ⊢
  go_wp2_with fail
  refine (J2.out _ k3).mono ?_
  rintro e w4 ⟨rfl, k4⟩
  have k4 := k3.trans k4
  go_wp2_with fail
  refine (P1.out _ k4).mono ?_
  rintro e w5 ⟨k5, ⟨_, rfl⟩ | ⟨ps, p, hp, rfl⟩⟩
  · go_wp2_with fail
    go_ret
    exact ⟨rfl, k4.trans k5⟩
  · have k5 := k4.trans k5
    have A1 := Lib.hid (IA.out ps p hp)
    have A2 := Lib.hid (IB.out ps p hp)
    have A3 := Lib.hid (IT.out ps p hp)
    clear IA IB IT hp
    generalize insideM (joinM ps) t.data.toList = B2 at A2 A3
    generalize ba (joinM ps) = U at A1 A2 ⊢
    go_wp2_with fail
    refine (A1.out _ k5).mono ?_
    rintro e w6 ⟨rfl, k6⟩
    have k6 := k5.trans k6
    go_wp2_with fail
    refine (A2.out _ k6).mono ?_
    rintro e w7 ⟨rfl, k7⟩
    have k7 := k6.trans k7
    cases B2 with
    | false =>
      go_wp2_with fail
      go_ret
      exact ⟨rfl, k7⟩
    | true =>
      have hB := A3.out rfl
      subst hB
      go_wp2_with fail
      refine (I1.out _ k7).mono ?_
      rintro e w8 ⟨rfl, k8⟩
      go_wp2_with fail
      go_ret
      exact ⟨rfl, k7.trans k8⟩
theorem inside_walk (s t : ByteArray) (w : World) (he : Env w) : Calls Tryd.prog 4 #[.string s, .string t] w fun e w' => e = .returned (.bool true) ∧ KF w w' := by
  have W0 := Lib.hid (speaks_any w he)
  rcases Nat.lt_or_ge 1000 s.size with hbig | hsm
  · have hd : decide ((1000 : Int) < (s.size : Int)) = true := decide_eq_true (by omega)
    go_enter Tryd.func4, Tryd.ntmps4
    go_wp2_with fail
    refine W0.out.mono ?_
    rintro e w1 ⟨rfl, k1⟩
    go_wp2_with fail
    go_ret
    exact ⟨rfl, k1⟩
  · rcases Nat.lt_or_ge 1000 t.size with hbig | hsm2
    · have hd : decide ((1000 : Int) < (s.size : Int)) = false := decide_eq_false (by omega)
      have hd2 : decide ((1000 : Int) < (t.size : Int)) = true := decide_eq_true (by omega)
      go_enter Tryd.func4, Tryd.ntmps4
      go_wp2_with fail
      refine W0.out.mono ?_
      rintro e w1 ⟨rfl, k1⟩
      go_wp2_with fail
      go_ret
      exact ⟨rfl, k1⟩
    · exact inside_small s t w hsm hsm2 he
end Go.Proofs.YtnecdpbcikcigaaDoor
