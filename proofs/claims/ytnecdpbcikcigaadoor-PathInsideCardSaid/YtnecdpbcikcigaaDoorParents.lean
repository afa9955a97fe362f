/-
  THE WALK of PathParents.
-/
import Derived.Test.YtnecdpbcikcigaaDoorNames
namespace Go.Proofs.YtnecdpbcikcigaaDoor
open Go.RowKit

theorem inside_no (s t : ByteArray) (w : World) (hs : s.size ≤ 1000000) (ht : t.size ≤ 1000000) (he : Env w) (h : pathM s.data.toList = none ∨ pathM t.data.toList = none) :
    Calls Tryd.prog 18 #[.string s, .string t] w fun e w' => e = .returned (.bool false) ∧ KF w w' := by
  have := inside_any s t w hs ht he
  rw [insideM_none h] at this
  exact this

/-- What the path of the first names is. -/
theorem above_def (ps : List Txt) (p : Txt) (hps : ps ≠ []) : joinM (ps ++ [p]) = joinM ps ++ 47 :: p := by
  induction ps with
  | nil => exact absurd rfl hps
  | cons a q ih =>
    cases q with
    | nil =>
      show joinM (a :: [p]) = _
      rw [joinM, joined_cons_cons, joinM, joined, joined, Lib.join_one, Lib.join_one]
      rfl
    | cons b r =>
      have := ih (by simp)
      simp only [joinM, List.cons_append] at this ⊢
      rw [joined_cons_cons, joined_cons_cons]
      injection this with _ this
      rw [this, List.append_assoc]
      rfl
theorem joinM_one (p : Txt) : joinM [p] = 47 :: p := by rw [joinM, joined, Lib.join_one]
theorem joinM_ne (ps : List Txt) (h : ps ≠ []) (hn : ∀ p ∈ ps, IsName p) : joinM ps ≠ [47] := fun e => by
  rw [joinM] at e
  injection e with _ e
  exact joined_ne h hn e

theorem insideM_first {s : Txt} {ns : List Txt} (h : pathM s = some ns) {k : Nat} (hk : k < ns.length) : insideM s (joinM (ns.take k)) = true := by
  obtain ⟨_, h8, hn⟩ := pathM_some h
  have hk' : pathM (joinM (ns.take k)) = some (ns.take k) := pathM_joinM (by rw [List.length_take]; omega) fun n hn' => hn n (List.mem_of_mem_take hn')
  rw [insideM_some h hk']
  refine decide_eq_true ⟨by rw [List.length_take]; omega, ?_⟩
  rw [List.length_take, Nat.min_eq_left (by omega)]

set_option maxRecDepth 100000 in
theorem parents_small (s : ByteArray) (w : World) (hs : s.size ≤ 1000) (he : Env w) : Calls Tryd.prog 6 #[.string s] w fun e w' => e = .returned (.bool true) ∧ KF w w' := by
  have W0 := Lib.hid (speaks_any w he)
  have hd : decide ((1000 : Int) < (s.size : Int)) = false := decide_eq_false (by omega)
  have HE := Lib.hid he
  clear he
  cases hp : pathM s.data.toList with
  | none =>
    have S1 := Lib.hid (fun w1 k1 => split_any s w1 (by omega) (HE.out.kept (w' := w1) k1))
    have I1 := Lib.hid (fun w1 k1 => inside_no s ⟨#[47]⟩ w1 (by omega) (by decide) (HE.out.kept (w' := w1) k1) (Or.inl hp))
    have I2 := Lib.hid (fun w1 k1 => inside_no ⟨#[47, 97]⟩ s w1 (by decide) (by omega) (HE.out.kept (w' := w1) k1) (Or.inr hp))
    have HP := Lib.hid hp
    clear hp
    go_enter Tryd.func6, Tryd.ntmps6
    go_wp2_with fail
    refine W0.out.mono ?_
    rintro e w1 ⟨rfl, k1⟩
    go_wp2_with fail
    refine (S1.out _ k1).mono ?_
    rintro e w2 ⟨k2, ⟨_, rfl⟩ | ⟨ps, A, c, h, _⟩⟩
    · have k2 := k1.trans k2
      go_wp2_with fail
      refine (I1.out _ k2).mono ?_
      rintro e w3 ⟨rfl, k3⟩
      have k3 := k2.trans k3
      go_wp2_with fail
      refine (I2.out _ k3).mono ?_
      rintro e w4 ⟨rfl, k4⟩
      go_wp2_with fail
      go_ret
      exact ⟨rfl, k3.trans k4⟩
    · rw [HP.out] at h; cases h
  | some ns =>
    obtain ⟨hj, h8, hn⟩ := pathM_some hp
    have S1 := Lib.hid (fun w1 k1 => split_any s w1 (by omega) (HE.out.kept (w' := w1) k1))
    have HP := Lib.hid hp
    have HJ := Lib.hid hj
    have HN := Lib.hid hn
    clear hp hj hn
    go_enter Tryd.func6, Tryd.ntmps6
    go_wp2_with fail
    refine W0.out.mono ?_
    rintro e w1 ⟨rfl, k1⟩
    go_wp2_with fail
    refine (S1.out _ k1).mono ?_
    rintro e w2 ⟨k2, ⟨h, _⟩ | ⟨ps, A, c, h, rfl, hc, _, hst⟩⟩
    · rw [HP.out] at h; cases h
    · rw [HP.out] at h
      injection h with h
      subst h
      have k2 := k1.trans k2
      have HS := Lib.hid hst
      have HSJ : Hid (s = ba (joinM ns)) := Lib.hid (by rw [← HJ.out, ba_data])
      clear hst k1
      go_wp2_with fail
      go_loopg [5, 6] ns.length (fun g s5 s6 wr => ∃ k : Nat, k ≤ ns.length ∧ k ≤ g ∧ s5 = .string (ba (joinM (ns.take k))) ∧ s6 = .int .i64 ((k : Int) - 1) ∧ KF w2 wr)
      case atStart => exact ⟨ns.length, Nat.le_refl _, Nat.le_refl _, by rw [List.take_length, ← HSJ.out], rfl, KF.refl _⟩
      case round =>
        obtain ⟨k, hk, hg, rfl, hs6, kr⟩ := hrel
        rcases k with _ | j
        · have e1 : (((0 : Nat) : Int) - 1) = -1 := rfl
          rw [e1] at hs6
          subst hs6
          have e2 : ba (joinM (ns.take 0)) = ⟨#[47]⟩ := rfl
          rw [e2]
          have P0 := Lib.hid (parent_no ⟨#[47]⟩ wr (by decide) (HE.out.kept (k2.trans kr)) (Or.inr rfl))
          go_wp2_with fail
          refine P0.out.mono ?_
          rintro e w3 ⟨rfl, k3⟩
          go_wp2_with fail
          go_ret
          exact ⟨rfl, (k2.trans kr).trans k3⟩
        · have e1 : (((j + 1 : Nat) : Int) - 1) = (j : Int) := by omega
          rw [e1] at hs6
          subst hs6
          have hj : j < ns.length := by omega
          have hsplit : ns.take (j + 1) = ns.take j ++ [ns[j]] := by rw [List.take_add_one, List.getElem?_eq_getElem hj]; rfl
          have hnm : ∀ p ∈ ns.take (j + 1), IsName p := fun p hp => HN.out p (List.mem_of_mem_take hp)
          have hpath : pathM (ba (joinM (ns.take (j + 1)))).data.toList = some (ns.take j ++ [ns[j]]) := by
            show pathM (joinM (ns.take (j + 1))) = _
            rw [pathM_joinM (by rw [List.length_take]; omega) hnm, hsplit]
          have hl1 := joined_le (ns.take (j + 1)) hnm
          have hl0 := joined_le (ns.take j) fun p hp => HN.out p (List.mem_of_mem_take hp)
          have hlx := (HN.out ns[j] (List.getElem_mem hj)).2.2.1
          rw [List.length_take] at hl0 hl1
          have z1 : (ba (joinM (ns.take (j + 1)))).size ≤ 1000 := by rw [ba_size, List.length_cons]; omega
          have z0 : (ba (joinM (ns.take j))).size ≤ 1000 := by rw [ba_size, List.length_cons]; omega
          have zx : (ba ns[j]).size ≤ 1000 := by rw [ba_size]; omega
          have PY := Lib.hid (parent_yes (ba (joinM (ns.take (j + 1)))) wr (ns.take j) ns[j] (by omega) (HE.out.kept (k2.trans kr)) hpath)
          have IN : Hid (∀ w1, KF w w1 → Calls Tryd.prog 18 #[.string s, .string (ba (joinM (ns.take j)))] w1 fun e w' => e = .returned (.bool true) ∧ KF w1 w') := Lib.hid fun w1 k1 => by
            have := inside_any s (ba (joinM (ns.take j))) w1 (by omega) (by omega) (HE.out.kept k1)
            rw [show insideM s.data.toList (ba (joinM (ns.take j))).data.toList = true from insideM_first HP.out hj] at this
            exact this
          obtain ⟨b, o, hA, hb, hcell⟩ := World.cellAt (n := j) HS.out (by rw [List.length_map]; exact hj)
          subst hA
          have hcell2 : (ns.map ba)[j]'(by rw [List.length_map]; exact hj) = ba ns[j] := by simp
          rw [hcell2] at hcell
          have hback : (j = 0 → ba (joinM (ns.take j)) = ⟨#[47]⟩ ∧ ⟨#[47]⟩ ++ ba ns[j] = ba (joinM (ns.take (j + 1)))) ∧ (j ≠ 0 → ((ba (joinM (ns.take j))).toList == [47]) = false ∧ ba (joinM (ns.take j)) ++ ⟨#[47]⟩ ++ ba ns[j] = ba (joinM (ns.take (j + 1)))) := by
            constructor
            · intro h0
              subst h0
              refine ⟨rfl, ?_⟩
              apply ba_ext.1
              rw [hsplit]
              show _ = joinM [ns[0]]
              rw [joinM_one]
              simp [ByteArray.data_append]
            · intro h0
              have hne : ns.take j ≠ [] := fun h => by
                have := congrArg List.length h
                rw [List.length_take, List.length_nil] at this
                omega
              refine ⟨beq_eq_false_iff_ne.2 ?_, ?_⟩
              · rw [Lib.toList_data]
                exact joinM_ne _ hne fun p hp => HN.out p (List.mem_of_mem_take hp)
              · apply ba_ext.1
                rw [hsplit]
                show _ = joinM (ns.take j ++ [ns[j]])
                rw [above_def _ _ hne]
                simp [ByteArray.data_append]
          have HB := Lib.hid hback
          clear hback hcell2 hl1 hl0 hlx hpath hnm hsplit
          have kw := k2.trans kr
          have hcr : wr.cell? ⟨b, o + j, none⟩ = some (.string (ba ns[j])) := (kr.cell hb).trans hcell
          have hbr : b < wr.heap.size := Nat.lt_of_lt_of_le hb kr.size
          clear hcell S1 W0 HSJ HJ HP
          generalize hU : ba (joinM (ns.take j)) = U at PY IN HB z0
          generalize hV : ba (joinM (ns.take (j + 1))) = V at PY HB z1 ⊢
          generalize hX : ba ns[j] = X at PY HB zx hcr
          have HU := Lib.hid hU
          clear hU hV hX
          rcases Nat.eq_zero_or_pos j with h0 | h0
          · obtain ⟨q1, q2⟩ := HB.out.1 h0
            clear HB h0
            subst q1 q2
            go_wp2_with fail
            refine PY.out.mono ?_
            rintro e w3 ⟨rfl, k3⟩
            have hc3 : w3.cell? ⟨b, o + j, none⟩ = some (.string X) := (k3.cell hbr).trans hcr
            have k3 := kr.trans k3
            go_wp2_with fail
            refine (IN.out _ (k2.trans k3)).mono ?_
            rintro e w4 ⟨rfl, k4⟩
            have k4 := k3.trans k4
            go_wp2_with fail
            go_roundg j
            case measure => omega
            case rel => exact ⟨j, by omega, Nat.le_refl _, by rw [HU.out], rfl, k4⟩
          · obtain ⟨q1, q2⟩ := HB.out.2 (by omega)
            clear HB
            subst q2
            go_wp2_with fail
            refine PY.out.mono ?_
            rintro e w3 ⟨rfl, k3⟩
            have hc3 : w3.cell? ⟨b, o + j, none⟩ = some (.string X) := (k3.cell hbr).trans hcr
            have k3 := kr.trans k3
            go_wp2_with fail
            refine (IN.out _ (k2.trans k3)).mono ?_
            rintro e w4 ⟨rfl, k4⟩
            have k4 := k3.trans k4
            go_wp2_with fail
            go_roundg j
            case measure => omega
            case rel => exact ⟨j, by omega, Nat.le_refl _, by rw [HU.out], rfl, k4⟩
theorem parents_walk (s : ByteArray) (w : World) (he : Env w) : Calls Tryd.prog 6 #[.string s] w fun e w' => e = .returned (.bool true) ∧ KF w w' := by
  rcases Nat.lt_or_ge 1000 s.size with hbig | hsm
  · have W0 := Lib.hid (speaks_any w he)
    have hd : decide ((1000 : Int) < (s.size : Int)) = true := decide_eq_true (by omega)
    go_enter Tryd.func6, Tryd.ntmps6
    go_wp2_with fail
    refine W0.out.mono ?_
    rintro e w1 ⟨rfl, k1⟩
    go_wp2_with fail
    go_ret
    exact ⟨rfl, k1⟩
  · exact parents_small s w hsm he
end Go.Proofs.YtnecdpbcikcigaaDoor
