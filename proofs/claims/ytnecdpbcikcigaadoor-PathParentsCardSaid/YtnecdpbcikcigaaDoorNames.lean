/-
  THE WALK of PathNames; the statements' helper that tells the document's example.
-/
import Derived.Test.YtnecdpbcikcigaaDoorJoin
namespace Go.Proofs.YtnecdpbcikcigaaDoor
open Go.RowKit

set_option maxRecDepth 100000 in
theorem speaks_any (w : World) (he : Env w) : Calls Tryd.prog 8 #[] w fun e w' => e = .returned (.bool true) ∧ KF w w' := by
  have P := Lib.hid (parent_yes ⟨#[47, 97, 47, 98]⟩ w [[97]] [98] (by decide) he (by decide))
  have e1 : ba (joinM [[97]]) = ⟨#[47, 97]⟩ := rfl
  have e2 : ba [98] = ⟨#[98]⟩ := rfl
  rw [e1, e2] at P
  have J : Hid (∀ w1, Calls Tryd.prog 16 #[.slice none 0 0] w1 fun e w' => e = .returned (.string ⟨#[47]⟩) ∧ KF w1 w') := Lib.hid fun w1 => join_any none [] 0 0 w1 rfl (Nat.le_refl _) (by decide) (by decide) Strs.nil
  go_enter Tryd.func8, Tryd.ntmps8
  go_wp2_with fail
  refine P.out.mono ?_
  rintro e w1 ⟨rfl, k1⟩
  go_wp2_with fail
  refine (J.out _).mono ?_
  rintro e w2 ⟨rfl, k2⟩
  go_wp2_with fail
  go_ret
  exact ⟨rfl, k1.trans k2⟩

theorem data_lead (s : ByteArray) (l : Txt) : ((ba l) ++ s).data.toList = l ++ s.data.toList := by simp [ByteArray.data_append]
theorem size_lead (s : ByteArray) (l : Txt) : ((ba l) ++ s).size = l.length + s.size := by rw [size_len, data_lead, List.length_append, size_len]

theorem single_no {l : Txt} (hn : ¬ IsName l) {ps : List Txt} (h : pathM (47 :: l) = some ps) : ps.length ≠ 1 := fun h1 => by
  obtain ⟨hj, _, ha⟩ := pathM_some h
  match ps, h1 with
  | [p], _ =>
    rw [joinM, joined, Lib.join_one] at hj
    injection hj with _ hj
    subst hj
    exact hn (ha l (by simp))
theorem single_yes {l : Txt} (hn : IsName l) : pathM (47 :: l) = some [l] := by
  have := pathM_joinM (names := [l]) (by simp) (by simpa using hn)
  rw [joinM, joined, Lib.join_one] at this
  exact this
theorem double_no {l : Txt} (hn : ¬ IsName l) {ps : List Txt} (h : pathM (47 :: 97 :: 47 :: l) = some ps) : ps.length ≠ 2 := fun h1 => by
  have h' := h
  rw [pathM, if_neg (by simp), if_neg (by simp)] at h
  have hp : pieces (97 :: 47 :: l) = [97] :: pieces l := pieces_cut (p := [97]) (by decide) l
  split at h
  · injection h with h
    obtain ⟨_, _, ha⟩ := pathM_some h'
    subst h
    rw [hp] at h1 ha
    have hl : (pieces l).length = 1 := by simpa using h1
    match hq : pieces l, hl with
    | [q], _ =>
      have := joined_pieces l
      rw [hq, joined, Lib.join_one] at this
      subst this
      exact hn (ha q (by rw [hq]; simp))
  · cases h
theorem double_yes {l : Txt} (hn : IsName l) : pathM (47 :: 97 :: 47 :: l) = some [[97], l] := by
  have := pathM_joinM (names := [[97], l]) (by simp) (by
    intro n hn'
    simp at hn'
    rcases hn' with rfl | rfl
    · decide
    · exact hn)
  rw [joinM, joined_cons_cons, joined, Lib.join_one] at this
  exact this

theorem one_yes (s : ByteArray) (w : World) (hs : s.size ≤ 1000) (he : Env w) (hn : IsName s.data.toList) :
    Calls Tryd.prog 9 #[.string (⟨#[47]⟩ ++ s)] w fun e w' => KF w w' ∧ ∃ b o c, e = .returned (.tuple #[.slice (some ⟨b, o, none⟩) 1 c, .int .i64 0]) ∧ 1 ≤ c ∧ b < w'.heap.size ∧ w'.cell? ⟨b, o, none⟩ = some (.string s) := by
  have C := split_any (ba [47] ++ s) w (by rw [size_lead]; simp; omega) he
  rw [data_lead] at C
  refine C.mono fun e w' ⟨k, h⟩ => ⟨k, ?_⟩
  rcases h with ⟨h, _⟩ | ⟨ps, A, c, h, he, hc, _, hst⟩
  · rw [List.singleton_append, single_yes hn] at h; cases h
  · rw [List.singleton_append, single_yes hn] at h
    injection h with h
    subst h
    obtain ⟨b, o, rfl, hb⟩ := hst.head (by simp)
    refine ⟨b, o, c, he, hc, hb, ?_⟩
    have := hst.at_ (j := 0) (x := ba s.data.toList) rfl
    rw [ba_data] at this
    exact this
theorem one_no (s : ByteArray) (w : World) (hs : s.size ≤ 1000) (he : Env w) (hn : ¬ IsName s.data.toList) :
    Calls Tryd.prog 9 #[.string (⟨#[47]⟩ ++ s)] w fun e w' => KF w w' ∧ ∃ (A : Option Addr) (n c : Nat) (z : Int), e = .returned (.tuple #[.slice A n c, .int .i64 z]) ∧ ((z == 0) = false ∨ (z = 0 ∧ ((n : Int) == 1) = false)) := by
  have C := split_any (ba [47] ++ s) w (by rw [size_lead]; simp; omega) he
  rw [data_lead] at C
  refine C.mono fun e w' ⟨k, h⟩ => ⟨k, ?_⟩
  rcases h with ⟨h, he⟩ | ⟨ps, A, c, h, he, hc, _, hst⟩
  · exact ⟨_, _, _, _, he, Or.inl rfl⟩
  · have := single_no hn h
    exact ⟨_, _, _, _, he, Or.inr ⟨rfl, beq_eq_false_iff_ne.2 (by omega)⟩⟩
theorem two_yes (s : ByteArray) (w : World) (hs : s.size ≤ 1000) (he : Env w) (hn : IsName s.data.toList) :
    Calls Tryd.prog 9 #[.string (⟨#[47, 97, 47]⟩ ++ s)] w fun e w' => KF w w' ∧ ∃ b o c, e = .returned (.tuple #[.slice (some ⟨b, o, none⟩) 2 c, .int .i64 0]) ∧ 2 ≤ c ∧ w'.cell? ⟨b, o + 1, none⟩ = some (.string s) := by
  have C := split_any (ba [47, 97, 47] ++ s) w (by rw [size_lead]; simp; omega) he
  rw [data_lead] at C
  refine C.mono fun e w' ⟨k, h⟩ => ⟨k, ?_⟩
  rcases h with ⟨h, _⟩ | ⟨ps, A, c, h, he, hc, _, hst⟩
  · rw [List.cons_append, List.cons_append, List.singleton_append, double_yes hn] at h; cases h
  · rw [List.cons_append, List.cons_append, List.singleton_append, double_yes hn] at h
    injection h with h
    subst h
    obtain ⟨b, o, rfl, hb⟩ := hst.head (by simp)
    refine ⟨b, o, c, he, hc, ?_⟩
    have := hst.at_ (j := 1) (x := ba s.data.toList) rfl
    rw [ba_data] at this
    exact this
theorem two_no (s : ByteArray) (w : World) (hs : s.size ≤ 1000) (he : Env w) (hn : ¬ IsName s.data.toList) :
    Calls Tryd.prog 9 #[.string (⟨#[47, 97, 47]⟩ ++ s)] w fun e w' => KF w w' ∧ ∃ (A : Option Addr) (n c : Nat) (z : Int), e = .returned (.tuple #[.slice A n c, .int .i64 z]) ∧ ((z == 0) = false ∨ (z = 0 ∧ ((n : Int) == 2) = false)) := by
  have C := split_any (ba [47, 97, 47] ++ s) w (by rw [size_lead]; simp; omega) he
  rw [data_lead] at C
  refine C.mono fun e w' ⟨k, h⟩ => ⟨k, ?_⟩
  rcases h with ⟨h, he⟩ | ⟨ps, A, c, h, he, hc, _, hst⟩
  · exact ⟨_, _, _, _, he, Or.inl rfl⟩
  · have := double_no hn h
    exact ⟨_, _, _, _, he, Or.inr ⟨rfl, beq_eq_false_iff_ne.2 (by omega)⟩⟩
theorem bad_name (s : ByteArray) (w : World) (h : 47 ∈ s.data.toList) : Calls Tryd.prog 14 #[.string s] w fun e w' => e = .returned (.bool false) ∧ KF w w' := by
  have := name_any s w
  rw [decide_eq_false (fun hn : IsName s.data.toList => (hn.1 47 h).1 rfl)] at this
  exact this
theorem behind_name (s : ByteArray) (w : World) : Calls Tryd.prog 14 #[.string (s ++ ⟨#[47]⟩)] w fun e w' => e = .returned (.bool false) ∧ KF w w' := bad_name _ w (by simp [ByteArray.data_append])
theorem ahead_name (s : ByteArray) (w : World) : Calls Tryd.prog 14 #[.string (⟨#[47]⟩ ++ s)] w fun e w' => e = .returned (.bool false) ∧ KF w w' := bad_name _ w (by simp [ByteArray.data_append])
theorem no_name (l : Txt) (w : World) (h : ¬ IsName l) : Calls Tryd.prog 14 #[.string (ba l)] w fun e w' => e = .returned (.bool false) ∧ KF w w' := by
  have := name_any (ba l) w
  rw [decide_eq_false h] at this
  exact this

set_option maxRecDepth 100000 in
theorem names_walk (s : ByteArray) (w : World) (he : Env w) : Calls Tryd.prog 7 #[.string s] w fun e w' => e = .returned (.bool true) ∧ KF w w' := by
  have W0 := Lib.hid (speaks_any w he)
  rcases Nat.lt_or_ge 300 s.size with hbig | hsm
  · have hd : decide ((300 : Int) < (s.size : Int)) = true := decide_eq_true (by omega)
    go_enter Tryd.func7, Tryd.ntmps7
    go_wp2_with fail
    refine W0.out.mono ?_
    rintro e w1 ⟨rfl, k1⟩
    go_wp2_with fail
    go_ret
    exact ⟨rfl, k1⟩
  · have hd : decide ((300 : Int) < (s.size : Int)) = false := decide_eq_false (by omega)
    have NA := Lib.hid (fun w1 => name_any s w1)
    have N1 := Lib.hid (fun w1 => behind_name s w1)
    have N2 := Lib.hid (fun w1 => ahead_name s w1)
    have N3 : Hid (∀ w1, Calls Tryd.prog 14 #[.string ⟨#[46]⟩] w1 fun e w' => e = .returned (.bool false) ∧ KF w1 w') := Lib.hid fun w1 => no_name [46] w1 (by decide)
    have N4 : Hid (∀ w1, Calls Tryd.prog 14 #[.string ⟨#[46, 46]⟩] w1 fun e w' => e = .returned (.bool false) ∧ KF w1 w') := Lib.hid fun w1 => no_name [46, 46] w1 (by decide)
    have N5 : Hid (∀ w1, Calls Tryd.prog 14 #[.string ⟨#[]⟩] w1 fun e w' => e = .returned (.bool false) ∧ KF w1 w') := Lib.hid fun w1 => no_name [] w1 (by decide)
    have HE := Lib.hid he
    clear he
    by_cases hn : IsName s.data.toList
    · rw [decide_eq_true hn] at NA
      have S1 := Lib.hid (fun w1 k1 => one_yes s w1 (by omega) (HE.out.kept (w' := w1) k1) hn)
      have S2 := Lib.hid (fun w1 k1 => two_yes s w1 (by omega) (HE.out.kept (w' := w1) k1) hn)
      go_enter Tryd.func7, Tryd.ntmps7
      go_wp2_with fail
      refine W0.out.mono ?_
      rintro e w1 ⟨rfl, k1⟩
      go_wp2_with fail
      refine (NA.out _).mono ?_
      rintro e w2 ⟨rfl, k2⟩
      have k2 := k1.trans k2
      go_wp2_with fail
      refine (S1.out _ k2).mono ?_
      rintro e w3 ⟨k3, b3, o3, c3, rfl, h3, hb3, hc3⟩
      have k3' := k2.trans k3
      go_wp2_with fail
      refine (S2.out _ k3').mono ?_
      rintro e w4 ⟨k4, b4, o4, c4, rfl, h4, hc4⟩
      have hc3' : w4.cell? ⟨b3, o3, none⟩ = some (.string s) := (k4.cell hb3).trans hc3
      have k4' := k3'.trans k4
      go_wp2_with fail
      refine (N1.out _).mono ?_
      rintro e w5 ⟨rfl, k5⟩
      go_wp2_with fail
      refine (N2.out _).mono ?_
      rintro e w6 ⟨rfl, k6⟩
      go_wp2_with fail
      refine (N3.out _).mono ?_
      rintro e w7 ⟨rfl, k7⟩
      go_wp2_with fail
      refine (N4.out _).mono ?_
      rintro e w8 ⟨rfl, k8⟩
      go_wp2_with fail
      refine (N5.out _).mono ?_
      rintro e w9 ⟨rfl, k9⟩
      go_wp2_with fail
      go_ret
      exact ⟨rfl, ((((k4'.trans k5).trans k6).trans k7).trans k8).trans k9⟩
    · rw [decide_eq_false hn] at NA
      have S1 := Lib.hid (fun w1 k1 => one_no s w1 (by omega) (HE.out.kept (w' := w1) k1) hn)
      have S2 := Lib.hid (fun w1 k1 => two_no s w1 (by omega) (HE.out.kept (w' := w1) k1) hn)
      go_enter Tryd.func7, Tryd.ntmps7
      go_wp2_with fail
      refine W0.out.mono ?_
      rintro e w1 ⟨rfl, k1⟩
      go_wp2_with fail
      refine (NA.out _).mono ?_
      rintro e w2 ⟨rfl, k2⟩
      have k2 := k1.trans k2
      go_wp2_with fail
      refine (S1.out _ k2).mono ?_
      rintro e w3 ⟨k3, A3, n3, c3, z3, rfl, hz3⟩
      have k3' := k2.trans k3
      go_wp2_with fail
      refine (S2.out _ k3').mono ?_
      rintro e w4 ⟨k4, A4, n4, c4, z4, rfl, hz4⟩
      have k4' := k3'.trans k4
      rcases hz3 with hz3 | ⟨rfl, hz3⟩ <;> rcases hz4 with hz4 | ⟨rfl, hz4⟩
      all_goals
        go_wp2_with fail
        refine (N1.out _).mono ?_
        rintro e w5 ⟨rfl, k5⟩
        go_wp2_with fail
        refine (N2.out _).mono ?_
        rintro e w6 ⟨rfl, k6⟩
        go_wp2_with fail
        refine (N3.out _).mono ?_
        rintro e w7 ⟨rfl, k7⟩
        go_wp2_with fail
        refine (N4.out _).mono ?_
        rintro e w8 ⟨rfl, k8⟩
        go_wp2_with fail
        refine (N5.out _).mono ?_
        rintro e w9 ⟨rfl, k9⟩
        go_wp2_with fail
        go_ret
        exact ⟨rfl, ((((k4'.trans k5).trans k6).trans k7).trans k8).trans k9⟩
end Go.Proofs.YtnecdpbcikcigaaDoor
