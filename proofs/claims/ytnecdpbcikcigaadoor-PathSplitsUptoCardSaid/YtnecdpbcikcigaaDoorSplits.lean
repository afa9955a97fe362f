/-
  THE WALK of PathSplits, where the names that came in have at most two million bytes together.
-/
import Derived.Test.YtnecdpbcikcigaaDoorRJoin
namespace Go.Proofs.YtnecdpbcikcigaaDoor
open Go.RowKit

theorem eqb_self (b : Bool) : (b == b) = true := by cases b <;> rfl

set_option maxRecDepth 100000 in
set_option maxHeartbeats 1000000 in
theorem splits_small (s : ByteArray) (A0 : Option Addr) (nps : List Txt) (n0 c0 : Nat) (w : World) (hs : s.size ≤ 1000) (hn : n0 = nps.length) (hn30 : n0 ≤ 30) (hb : total nps ≤ 2000000) (h : Strs w w.heap.size A0 (nps.map ba)) (he : Env w) :
    Calls Tryd.prog 3 #[.string s, .slice A0 n0 c0] w fun e w' => e = .returned (.bool true) ∧ KF w w' := by
  have W0 := Lib.hid (speaks_any w he)
  have hd : decide ((1000 : Int) < (s.size : Int)) = false := decide_eq_false (by omega)
  have hd2 : decide ((30 : Int) < (n0 : Int)) = false := decide_eq_false (by omega)
  have HE := Lib.hid he
  have HS := Lib.hid h
  have HN := Lib.hid hn
  have HNN : Hid (n0 = (nps.map ba).length) := Lib.hid (by rw [List.length_map]; exact hn)
  have NA := Lib.hid (fun w1 => name_any s w1)
  have RA := Lib.hid (fun w1 => rname_any s w1 (by omega))
  have hle : nps.length ≤ 30 := by omega
  have hjt := joined_total nps
  have hR : ba (joinM nps) = ⟨#[47]⟩ ++ ba (joined nps) := by
    apply ba_ext.1
    simp [ByteArray.data_append]
  have zJ : (ba (joined nps)).size ≤ 3000000 := by rw [ba_size]; omega
  have JC0 : ∀ (w1 : World) (A : Option Addr) (n c : Nat), n = nps.length → n ≤ c → Strs w1 w1.heap.size A (nps.map ba) → Calls Tryd.prog 16 #[.slice A n c] w1 fun e w' => e = .returned (.string (ba (joinM nps))) ∧ KF w1 w' :=
    fun w1 A n c h1 h2 h3 => join_any A nps n c w1 h1 h2 (by omega) (by omega) h3
  rw [hR] at JC0
  have JC := Lib.hid JC0
  have LC := Lib.hid (fun w1 (k1 : KF w w1) => lawjoin_any A0 nps n0 c0 w1 hn hb (by omega) (h.kept k1))
  clear JC0 hR hjt h hn he
  generalize ba (joined nps) = Jn at zJ JC LC
  generalize hB : decide (IsName s.data.toList) = B at NA RA
  clear hB
  have hBB := eqb_self B
  cases hp : pathM s.data.toList with
  | none =>
    have SP : Hid (∀ w1, KF w w1 → Calls Tryd.prog 9 #[.string s] w1 fun e w' => e = .returned (.tuple #[.slice none 0 0, .int .i64 20]) ∧ KF w1 w') := Lib.hid fun w1 k1 =>
      (split_any s w1 (by omega) (HE.out.kept k1)).mono fun e w' ⟨k, hh⟩ => by
        rcases hh with ⟨_, he⟩ | ⟨ps, A, c, hq, _⟩
        · exact ⟨he, k⟩
        · rw [hp] at hq; cases hq
    have RS : Hid (∀ w1, Calls Tryd.prog 10 #[.string s] w1 fun e w' => (∃ A n c, e = .returned (.tuple #[.slice A n c, .bool false])) ∧ KF w1 w') := Lib.hid fun w1 =>
      (rsplit_any s w1 hs).mono fun e w' ⟨k, hh⟩ => by
        rcases hh with ⟨_, he⟩ | ⟨ps, A, c, hq, _⟩
        · exact ⟨he, k⟩
        · rw [hp] at hq; cases hq
    have PN := Lib.hid (fun w1 k1 => parent_no s w1 (by omega) (HE.out.kept (w' := w1) k1) (Or.inl hp))
    clear hp
    go_enter Tryd.func3, Tryd.ntmps3
    go_wp2_with fail
    refine W0.out.mono ?_
    rintro e w1 ⟨rfl, k1⟩
    go_wp2_with fail
    refine (SP.out _ k1).mono ?_
    rintro e w2 ⟨rfl, k2⟩
    have k2 := k1.trans k2
    go_wp2_with fail
    refine (RS.out _).mono ?_
    rintro e w3 ⟨⟨A3, n3, c3, rfl⟩, k3⟩
    have k3 := k2.trans k3
    go_wp2_with fail
    refine (PN.out _ k3).mono ?_
    rintro e w4 ⟨rfl, k4⟩
    have k4 := k3.trans k4
    go_wp2_with fail
    refine (NA.out _).mono ?_
    rintro e w5 ⟨rfl, k5⟩
    have k5 := k4.trans k5
    go_wp2_with fail
    refine (RA.out _).mono ?_
    rintro e w6 ⟨rfl, k6⟩
    have k6 := k5.trans k6
    go_wp2_with (at_builtin; refine wpList_append_want _ rfl _ _ _ rfl strsT (.slice (some ⟨w6.heap.size, 0, none⟩) 0 0) [] rfl (OwnT.empty _ _) w.heap.size A0 _ c0 (nps.map ba) rfl HNN.out (HS.out.keep (Nat.le_refl _) (k6.alloc _)) (by simp; omega) ?_; intro A4 n4 c4 w7 o4 e4 h4 m4 g4 f4)
    have k7 : KF w w7 := (k6.alloc (.cells #[] 9)).own g4 (NB.new k6.size _ _)
    have e4 := e4.out
    rw [List.nil_append, List.length_map] at e4
    rw [List.nil_append] at o4
    obtain ⟨A5, c5, q5, _, _, hs5, _⟩ := o4.shape
    injection q5 with q5 _ q6
    subst q5 q6
    have J7 := Lib.hid (JC.out w7 A4 n4 c4 e4 h4 hs5)
    have L7 := Lib.hid (LC.out w7 k7)
    have E4 := Lib.hid e4
    clear e4 hs5 o4 g4 f4
    go_wp2_with fail
    refine J7.out.mono ?_
    rintro e w8 ⟨rfl, k8⟩
    have k8 := k7.trans k8
    have L8 := Lib.hid (LC.out w8 k8)
    go_wp2_with fail
    refine L8.out.mono ?_
    rintro e w9 ⟨rfl, k9⟩
    go_wp2_with fail
    go_ret
    exact ⟨rfl, k8.trans k9⟩
  | some ns =>
    obtain ⟨hj, h8, hnm⟩ := pathM_some hp
    have SP : Hid (∀ w1, KF w w1 → Calls Tryd.prog 9 #[.string s] w1 fun e w' => (∃ A c, e = .returned (.tuple #[.slice A ns.length c, .int .i64 0]) ∧ ns.length ≤ c ∧ Strs w' w'.heap.size A (ns.map ba)) ∧ KF w1 w') := Lib.hid fun w1 k1 =>
      (split_any s w1 (by omega) (HE.out.kept k1)).mono fun e w' ⟨k, hh⟩ => by
        rcases hh with ⟨hq, _⟩ | ⟨ps, A, c, hq, he, hc, _, hst⟩
        · rw [hp] at hq; cases hq
        · rw [hp] at hq
          injection hq with hq
          subst hq
          exact ⟨⟨A, c, he, hc, hst⟩, k⟩
    have RS : Hid (∀ w1, Calls Tryd.prog 10 #[.string s] w1 fun e w' => (∃ A c, e = .returned (.tuple #[.slice A ns.length c, .bool true]) ∧ ns.length ≤ c ∧ c ≤ 9223372036854775807 ∧ Strs w' w'.heap.size A (ns.map ba)) ∧ KF w1 w') := Lib.hid fun w1 =>
      (rsplit_any s w1 hs).mono fun e w' ⟨k, hh⟩ => by
        rcases hh with ⟨hq, _⟩ | ⟨ps, A, c, hq, he, hc, hcm, hst⟩
        · rw [hp] at hq; cases hq
        · rw [hp] at hq
          injection hq with hq
          subst hq
          exact ⟨⟨A, c, he, hc, hcm, hst⟩, k⟩
    have SM0 : ∀ (w1 : World) (A A' : Option Addr) (c c' : Nat), Strs w1 w1.heap.size A (ns.map ba) → Strs w1 w1.heap.size A' (ns.map ba) → Calls Tryd.prog 12 #[.slice A ns.length c, .slice A' ns.length c'] w1 fun e w' => e = .returned (.bool true) ∧ KF w1 w' := fun w1 A A' c c' h1 h2 => by
      have := same_any A A' ns.length ns.length c c' ns ns w1 rfl rfl (by omega) (by omega) h1 h2
      rw [decide_eq_true rfl] at this
      exact this
    have SM := Lib.hid SM0
    clear SM0 hj
    rcases List.eq_nil_or_concat ns with hns | ⟨qs, p, hns⟩
    · subst hns
      have PN := Lib.hid (fun w1 k1 => parent_no s w1 (by omega) (HE.out.kept (w' := w1) k1) (Or.inr hp))
      clear hp hnm
      go_enter Tryd.func3, Tryd.ntmps3
      go_wp2_with fail
      refine W0.out.mono ?_
      rintro e w1 ⟨rfl, k1⟩
      go_wp2_with fail
      refine (SP.out _ k1).mono ?_
      rintro e w2 ⟨⟨A2, c2, rfl, hc2, hst2⟩, k2⟩
      have k2' := k1.trans k2
      go_wp2_with fail
      refine (RS.out _).mono ?_
      rintro e w3 ⟨⟨A3, c3, rfl, hc3, hcm3, hst3⟩, k3⟩
      have k3' := k2'.trans k3
      go_wp2_with fail
      refine (PN.out _ k3').mono ?_
      rintro e w4 ⟨rfl, k4⟩
      have M4 := Lib.hid (SM.out w4 A2 A3 c2 c3 (hst2.kept (k3.trans k4)) (hst3.kept k4))
      clear hst2 hst3
      have k4 := k3'.trans k4
      go_wp2_with fail
      refine M4.out.mono ?_
      rintro e w4b ⟨rfl, k4b⟩
      have k4 := k4.trans k4b
      go_wp2_with fail
      refine (NA.out _).mono ?_
      rintro e w5 ⟨rfl, k5⟩
      have k5 := k4.trans k5
      go_wp2_with fail
      refine (RA.out _).mono ?_
      rintro e w6 ⟨rfl, k6⟩
      have k6 := k5.trans k6
      go_wp2_with (at_builtin; refine wpList_append_want _ rfl _ _ _ rfl strsT (.slice (some ⟨w6.heap.size, 0, none⟩) 0 0) [] rfl (OwnT.empty _ _) w.heap.size A0 _ c0 (nps.map ba) rfl HNN.out (HS.out.keep (Nat.le_refl _) (k6.alloc _)) (by simp; omega) ?_; intro A4 n4 c4 w7 o4 e4 h4 m4 g4 f4)
      have k7 : KF w w7 := (k6.alloc (.cells #[] 9)).own g4 (NB.new k6.size _ _)
      have e4 := e4.out
      rw [List.nil_append, List.length_map] at e4
      rw [List.nil_append] at o4
      obtain ⟨A5, c5, q5, _, _, hs5, _⟩ := o4.shape
      injection q5 with q5 _ q6
      subst q5 q6
      have J7 := Lib.hid (JC.out w7 A4 n4 c4 e4 h4 hs5)
      have L7 := Lib.hid (LC.out w7 k7)
      have E4 := Lib.hid e4
      clear e4 hs5 o4 g4 f4
      go_wp2_with fail
      refine J7.out.mono ?_
      rintro e w8 ⟨rfl, k8⟩
      have k8 := k7.trans k8
      have L8 := Lib.hid (LC.out w8 k8)
      go_wp2_with fail
      refine L8.out.mono ?_
      rintro e w9 ⟨rfl, k9⟩
      go_wp2_with fail
      go_ret
      exact ⟨rfl, k8.trans k9⟩
    · subst hns
      rw [List.concat_eq_append] at hp SP RS SM hnm h8
      have PY := Lib.hid (fun w1 k1 => parent_yes s w1 qs p (by omega) (HE.out.kept (w' := w1) k1) hp)
      have hqt := joined_le qs fun q hq => hnm q (by simp [hq])
      have hlen : (qs ++ [p]).length = qs.length + 1 := by simp
      rw [hlen] at SP RS SM h8
      have hqq : total qs ≤ 2000000 := by
        have := led_length qs
        rcases List.eq_nil_or_concat qs with h0 | ⟨a, b, h0⟩
        · rw [h0]; simp [total, Lib.lens]
        · have hne : qs ≠ [] := by rw [h0, List.concat_eq_append]; simp
          have h2 := led_joinM hne
          rw [h2, joinM, List.length_cons] at this
          omega
      have RJ : Hid (∀ (w1 : World) (A : Option Addr) (c : Nat), Strs w1 w1.heap.size A ((qs ++ [p]).map ba) → Calls Tryd.prog 13 #[.slice A qs.length c] w1 fun e w' => e = .returned (.string (ba (joinM qs))) ∧ KF w1 w') := Lib.hid fun w1 A c h1 => by
        have hst' : Strs w1 w1.heap.size A (qs.map ba) := by
          have := h1.take qs.length
          rw [← List.map_take, List.take_left] at this
          exact this
        exact rjoin_any A qs qs.length c w1 rfl hqq (by omega) hst'
      have CL : Hid (∀ (w1 : World) (A : Option Addr), Strs w1 w1.heap.size A ((qs ++ [p]).map ba) → ∃ b o, A = some ⟨b, o, none⟩ ∧ w1.cell? ⟨b, o + qs.length, none⟩ = some (.string (ba p))) := Lib.hid fun w1 A h1 => by
        obtain ⟨b, o, rfl, _⟩ := h1.head (by simp)
        exact ⟨b, o, rfl, h1.at_ (by simp)⟩
      have e0 : (((qs.length + 1 : Nat) : Int) == 0) = false := beq_eq_false_iff_ne.2 (by omega)
      have e1 : ((qs.length + 1 : Nat) : Int) - 1 = (qs.length : Int) := by omega
      clear hp hnm hqt hqq hlen
      generalize ba (joinM qs) = U at PY RJ
      generalize ba p = X at PY CL
      generalize (qs ++ [p]).map ba = xs at SP RS SM RJ CL
      generalize qs.length = m at *
      go_enter Tryd.func3, Tryd.ntmps3
      go_wp2_with fail
      refine W0.out.mono ?_
      rintro e w1 ⟨rfl, k1⟩
      go_wp2_with fail
      refine (SP.out _ k1).mono ?_
      rintro e w2 ⟨⟨A2, c2, rfl, hc2, hst2⟩, k2⟩
      have k2' := k1.trans k2
      go_wp2_with fail
      refine (RS.out _).mono ?_
      rintro e w3 ⟨⟨A3, c3, rfl, hc3, hcm3, hst3⟩, k3⟩
      have k3' := k2'.trans k3
      go_wp2_with fail
      refine (PY.out _ k3').mono ?_
      rintro e w4 ⟨rfl, k4⟩
      have M4 := Lib.hid (SM.out w4 A2 A3 c2 c3 (hst2.kept (k3.trans k4)) (hst3.kept k4))
      have HS3 := Lib.hid (hst3.kept k4)
      clear hst2 hst3
      have k4 := k3'.trans k4
      go_wp2_with fail
      refine M4.out.mono ?_
      rintro e w4b ⟨rfl, k4b⟩
      have R4 := Lib.hid (RJ.out w4b A3 c3 (HS3.out.kept k4b))
      have k4' := k4.trans k4b
      go_wp2_with fail
      refine R4.out.mono ?_
      rintro e w4c ⟨rfl, k4c⟩
      obtain ⟨b3, o3, rfl, hc3'⟩ := CL.out w4c A3 ((HS3.out.kept k4b).kept k4c)
      have k4 := k4'.trans k4c
      go_wp2_with fail
      refine (NA.out _).mono ?_
      rintro e w5 ⟨rfl, k5⟩
      have k5 := k4.trans k5
      go_wp2_with fail
      refine (RA.out _).mono ?_
      rintro e w6 ⟨rfl, k6⟩
      have k6 := k5.trans k6
      go_wp2_with (at_builtin; refine wpList_append_want _ rfl _ _ _ rfl strsT (.slice (some ⟨w6.heap.size, 0, none⟩) 0 0) [] rfl (OwnT.empty _ _) w.heap.size A0 _ c0 (nps.map ba) rfl HNN.out (HS.out.keep (Nat.le_refl _) (k6.alloc _)) (by simp; omega) ?_; intro A4 n4 c4 w7 o4 e4 h4 m4 g4 f4)
      have k7 : KF w w7 := (k6.alloc (.cells #[] 9)).own g4 (NB.new k6.size _ _)
      have e4 := e4.out
      rw [List.nil_append, List.length_map] at e4
      rw [List.nil_append] at o4
      obtain ⟨A5, c5, q5, _, _, hs5, _⟩ := o4.shape
      injection q5 with q5 _ q6
      subst q5 q6
      have J7 := Lib.hid (JC.out w7 A4 n4 c4 e4 h4 hs5)
      have L7 := Lib.hid (LC.out w7 k7)
      have E4 := Lib.hid e4
      clear e4 hs5 o4 g4 f4
      go_wp2_with fail
      refine J7.out.mono ?_
      rintro e w8 ⟨rfl, k8⟩
      have k8 := k7.trans k8
      have L8 := Lib.hid (LC.out w8 k8)
      go_wp2_with fail
      refine L8.out.mono ?_
      rintro e w9 ⟨rfl, k9⟩
      go_wp2_with fail
      go_ret
      exact ⟨rfl, k8.trans k9⟩

theorem splits_walk (s : ByteArray) (A0 : Option Addr) (nps : List Txt) (n0 c0 : Nat) (w : World) (hn : n0 = nps.length) (hb : total nps ≤ 2000000) (h : Strs w w.heap.size A0 (nps.map ba)) (he : Env w) :
    Calls Tryd.prog 3 #[.string s, .slice A0 n0 c0] w fun e w' => e = .returned (.bool true) ∧ KF w w' := by
  have W0 := Lib.hid (speaks_any w he)
  rcases Nat.lt_or_ge 1000 s.size with hbig | hsm
  · have hd : decide ((1000 : Int) < (s.size : Int)) = true := decide_eq_true (by omega)
    clear h hn
    go_enter Tryd.func3, Tryd.ntmps3
    go_wp2_with fail
    refine W0.out.mono ?_
    rintro e w1 ⟨rfl, k1⟩
    go_wp2_with fail
    go_ret
    exact ⟨rfl, k1⟩
  · rcases Nat.lt_or_ge 30 n0 with hbig | hsm2
    · have hd : decide ((1000 : Int) < (s.size : Int)) = false := decide_eq_false (by omega)
      have hd2 : decide ((30 : Int) < (n0 : Int)) = true := decide_eq_true (by omega)
      clear h hn
      go_enter Tryd.func3, Tryd.ntmps3
      go_wp2_with fail
      refine W0.out.mono ?_
      rintro e w1 ⟨rfl, k1⟩
      go_wp2_with fail
      go_ret
      exact ⟨rfl, k1⟩
    · exact splits_small s A0 nps n0 c0 w hsm hn hsm2 hb h he
end Go.Proofs.YtnecdpbcikcigaaDoor
