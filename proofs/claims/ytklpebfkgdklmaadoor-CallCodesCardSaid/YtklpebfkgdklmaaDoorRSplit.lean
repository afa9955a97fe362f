/-
  The document's answer on a path's names: Split.
-/
import Derived.Test.YtklpebfkgdklmaaDoorTexts
import Derived.Test.YtklpebfkgdklmaaDoorRefPath
namespace Go.Proofs.YtklpebfkgdklmaaDoor
open Go.RowKit

set_option maxRecDepth 100000 in
theorem strsT : St Tryd.prog 26 9 := ⟨Tryd.underlying26, _, rfl, rfl, rfl, rfl⟩
/-- What the document's Split answers. -/
def RSplits (l : Txt) (w : World) (e : Ending) (w' : World) : Prop := KF w w' ∧
  ((pathM l = none ∧ ∃ A n c, e = .returned (.tuple #[.slice A n c, .bool false])) ∨
   ∃ ps A c, pathM l = some ps ∧ e = .returned (.tuple #[.slice A ps.length c, .bool true]) ∧ ps.length ≤ c ∧ c ≤ 9223372036854775807 ∧ Strs w' w'.heap.size A (ps.map ba))

/-- How far the document's Split is: what is laid is the first pieces; the piece that it is in has no slash up to here. -/
def Going (l r : Txt) (out : List Txt) (f i : Nat) : Prop := f ≤ i ∧ out ++ pieces (l.drop f) = pieces r ∧ ∀ j, f ≤ j → j < i → l[j]? ≠ some 47
theorem Going.more {l r : Txt} {out : List Txt} {f i : Nat} (h : Going l r out f i) (hi : l[i]? ≠ some 47) : Going l r out f (i + 1) :=
  ⟨by have := h.1; omega, h.2.1, fun j hf hj => by
    rcases Nat.lt_or_ge j i with h' | h'
    · exact h.2.2 j hf h'
    · obtain rfl : j = i := by omega
      exact hi⟩
theorem Going.piece {l r : Txt} {out : List Txt} {f i : Nat} (h : Going l r out f i) : ∀ b ∈ (l.drop f).take (i - f), b ≠ 47 := fun b hb e => by
  subst e
  obtain ⟨j, hj, hj'⟩ := List.mem_iff_getElem.1 hb
  rw [List.getElem_take, List.getElem_drop] at hj'
  have hj2 : j < i - f := by
    rw [List.length_take] at hj; omega
  refine h.2.2 (f + j) (by omega) (by omega) ?_
  rw [← hj']
  exact List.getElem?_eq_getElem _
theorem Going.cut {l r : Txt} {out : List Txt} {f i : Nat} (h : Going l r out f i) (hi : l[i]? = some 47) : Going l r (out ++ [(l.drop f).take (i - f)]) (i + 1) (i + 1) := by
  refine ⟨Nat.le_refl _, ?_, fun j h1 h2 => by omega⟩
  have hlt : i < l.length := by
    rcases Nat.lt_or_ge i l.length with h' | h'
    · exact h'
    · rw [List.getElem?_eq_none h'] at hi; cases hi
  have hfi := h.1
  have e : l.drop f = (l.drop f).take (i - f) ++ 47 :: l.drop (i + 1) := by
    have h1 : (l.drop f).drop (i - f) = l.drop i := by rw [List.drop_drop]; congr 1; omega
    have h2 : l.drop i = 47 :: l.drop (i + 1) := by
      rw [List.getElem?_eq_getElem hlt] at hi
      injection hi with hi
      rw [List.drop_eq_getElem_cons hlt, hi]
    rw [← h2, ← h1, List.take_append_drop]
  rw [← h.2.1, List.append_assoc]
  congr 1
  have := pieces_cut h.piece (l.drop (i + 1))
  rw [← e] at this
  rw [this]
  rfl
theorem Going.end {l r : Txt} {out : List Txt} {f : Nat} (h : Going l r out f l.length) : out ++ [(l.drop f).take (l.length - f)] = pieces r := by
  have hp := h.piece
  have e : (l.drop f).take (l.length - f) = l.drop f := List.take_of_length_le (by rw [List.length_drop]; exact Nat.le_refl _)
  rw [e] at hp ⊢
  rw [← h.2.1, pieces_whole hp]

theorem extract_ba (s : ByteArray) (f i : Nat) : s.extract f i = ba ((s.data.toList.drop f).take (i - f)) := by
  apply ba_ext.1
  rw [Lib.extract_data]
theorem piece_le (l : Txt) : ∀ p ∈ pieces l, p.length ≤ l.length := by
  induction l with
  | nil => simp [pieces]
  | cons c r ih =>
    intro p hp
    by_cases h : c = 47
    · subst h
      rw [pieces_slash, List.mem_cons] at hp
      rcases hp with rfl | hp
      · simp
      · have := ih p hp; simp; omega
    · obtain ⟨x, q, hr⟩ : ∃ x q, pieces r = x :: q := by
        cases hh : pieces r with
        | nil => exact absurd hh (pieces_ne r)
        | cons x q => exact ⟨x, q, rfl⟩
      rw [pieces_byte h hr, List.mem_cons] at hp
      rcases hp with rfl | hp
      · have := ih x (by rw [hr]; simp); simp; omega
      · have := ih p (by rw [hr]; simp [hp]); simp; omega
set_option maxRecDepth 100000 in
theorem rsplit_root (w : World) : Calls Tryd.prog 40 #[.string ⟨#[47]⟩] w (RSplits [47] w) := by
  go_enter Tryd.func40, Tryd.ntmps40
  go_wp2_with fail
  go_ret2
  exact ⟨KF.of_below ((Below.refl _ _).alloc (Nat.le_refl _) _), Or.inr ⟨[], _, _, rfl, rfl, by simp, by omega, Strs.nil⟩⟩
set_option maxRecDepth 100000 in
theorem rsplit_bare (s : ByteArray) (w : World) (h : ∀ r, s.data.toList ≠ 47 :: r) : Calls Tryd.prog 40 #[.string s] w (RSplits s.data.toList w) := by
  have hn : (s.toList == [47]) = false := beq_eq_false_iff_ne.2 (by rw [Lib.toList_data]; exact h [])
  have hm : pathM s.data.toList = none := by
    cases hl : s.data.toList with
    | nil => rfl
    | cons b r => rw [pathM, if_pos (fun e => h r (by rw [hl, e]))]
  have HM := Lib.hid hm
  rcases Nat.eq_zero_or_pos s.size with h0 | h0
  · have e0 : ((s.size : Int) == 0) = true := by rw [h0]; rfl
    have H0 := Lib.hid h0
    clear h hm h0
    go_enter Tryd.func40, Tryd.ntmps40
    go_wp2_with fail
    go_ret2
    exact ⟨KF.of_below ((Below.refl _ _).alloc (Nat.le_refl _) _), Or.inl ⟨HM.out, _, _, _, rfl⟩⟩
  · have e0 : ((s.size : Int) == 0) = false := beq_eq_false_iff_ne.2 (by omega)
    have hlt' : (0 : Int) < (s.size : Int) := by omega
    have hb : (((s[0]'h0).toNat : Int) == 47) = false := by
      rw [beq_eq_false_iff_ne]
      intro e
      have e2 : (s[0]'h0) = 47 := UInt8.toNat_inj.1 (by simpa using (by omega : (s[0]'h0).toNat = 47))
      have := Lib.data_getElem? s 0 h0
      rw [e2] at this
      cases hl : s.data.toList with
      | nil => rw [hl] at this; cases this
      | cons b r =>
        rw [hl] at this
        injection this with this
        exact h r (by rw [hl, this])
    clear h hm
    go_enter Tryd.func40, Tryd.ntmps40
    go_wp2_with fail
    go_ret2
    exact ⟨KF.of_below ((Below.refl _ _).alloc (Nat.le_refl _) _), Or.inl ⟨HM.out, _, _, _, rfl⟩⟩

set_option maxRecDepth 100000 in
theorem rsplit_led (r : Txt) (w : World) (hr : r ≠ []) (hs : r.length ≤ 1000) : Calls Tryd.prog 40 #[.string (ba (47 :: r))] w (RSplits (47 :: r) w) := by
  have hn : ((ba (47 :: r)).toList == [47]) = false := beq_eq_false_iff_ne.2 (by
    rw [Lib.toList_data]
    intro h
    have h' : (47 :: r : Txt) = [47] := h
    injection h' with _ h'
    exact hr h')
  have hsz : (ba (47 :: r)).size = r.length + 1 := ba_size _
  have hL : (ba (47 :: r)).data.toList = 47 :: r := rfl
  have HR := Lib.hid hr
  clear hr
  generalize ba (47 :: r) = s at *
  have h0 : 0 < s.size := by omega
  have hb : (s[0]'h0) = 47 := by
    have := Lib.data_getElem? s 0 h0
    rw [hL] at this
    injection this with this
    exact this.symm
  have e0 : ((s.size : Int) == 0) = false := beq_eq_false_iff_ne.2 (by omega)
  have hlt' : (0 : Int) < (s.size : Int) := by omega
  have HL := Lib.hid hL
  have HZ := Lib.hid hsz
  have h1000 : s.size ≤ 1001 := by omega
  clear hL hsz
  go_enter Tryd.func40, Tryd.ntmps40
  go_wp2_with fail
  go_loopg [4, 5, 6] (s.size + 1) (fun g s4 s5 s6 wr => ∃ (out : List Txt) (f i : Nat) (A : Option Addr) (n c : Nat), s4 = .slice A n c ∧ s5 = .int .i64 f ∧ s6 = .int .i64 i ∧ OwnT 9 wr (.slice A n c) (out.map ba) ∧ NB w (.slice A n c) ∧ KF w wr ∧ out.length ≤ i ∧ s.size + 1 - i ≤ g ∧ ((i ≤ s.size ∧ Going (47 :: r) r out f i) ∨ (i = s.size + 1 ∧ out = pieces r)))
  case atStart =>
    exact ⟨[], 1, 1, _, 0, 0, rfl, rfl, rfl, OwnT.empty _ _, NB.new (Nat.le_refl _) _ _, KF.of_below ((Below.refl _ _).alloc (Nat.le_refl _) _), by simp, by omega, Or.inl ⟨by omega, Nat.le_refl _, rfl, fun j h1 h2 => by omega⟩⟩
  case round =>
    obtain ⟨out, f, i, A, n, c, rfl, rfl, rfl, ho, hnb, kr, hoi, hg, ⟨hi, hgo⟩ | ⟨hi, hout⟩⟩ := hrel
    · have hfi := hgo.1
      have HG := Lib.hid hgo
      clear hgo
      have hle : (i : Int) ≤ (s.size : Int) := by omega
      rcases Nat.lt_or_ge i s.size with hlt | hge
      · have hlt' : (i : Int) < (s.size : Int) := by omega
        have hne : ((i : Int) == (s.size : Int)) = false := beq_eq_false_iff_ne.2 (by omega)
        have hget := Lib.data_getElem? s i hlt
        rw [HL.out] at hget
        by_cases hx : (s[i]'hlt) = 47
        · rw [hx] at hget
          have HC := Lib.hid (HG.out.cut hget)
          clear HG hget
          have HX := Lib.hid (extract_ba s f i)
          rw [HL.out] at HX
          go_wp2_with (at_builtin; refine wpList_append_str _ rfl _ _ _ rfl strsT (.slice A n c) (out.map ba) rfl (ho.alloc _) (wr.heap.size + 1) (some ⟨wr.heap.size, 0, none⟩) 1 1 [s.extract f i] rfl rfl (strs_one wr _ _) (by simp; omega) ?_; intro A4 n4 c4 w4 o4 e4 h4 m4 g4 f4)
          have k4 := (kr.alloc (.cells #[.string (s.extract f i)] 9)).own g4 hnb
          go_roundg (s.size + 1 - (i + 1))
          case measure => omega
          case rel =>
            refine ⟨out ++ [((47 :: r).drop f).take (i - f)], i + 1, i + 1, A4, n4, c4, rfl, by go_num, by go_num, ?_, hnb.next (Nat.le_trans kr.size (by simp)) f4, k4, by simp; omega, by omega, Or.inl ⟨by omega, HC.out⟩⟩
            rw [List.map_append]
            rw [HX.out] at o4
            exact o4
        · have hxb : (((s[i]'hlt).toNat : Int) == 47) = false := by
            rw [beq_eq_false_iff_ne]
            intro e
            exact hx (UInt8.toNat_inj.1 (by simpa using (by omega : (s[i]'hlt).toNat = 47)))
          have HC := Lib.hid (HG.out.more (by rw [hget]; intro e; injection e with e; exact hx e))
          clear HG hget
          go_wp2_with fail
          go_roundg (s.size + 1 - (i + 1))
          case measure => omega
          case rel => exact ⟨out, f, i + 1, A, n, c, rfl, rfl, by go_num, ho, hnb, kr, by omega, by omega, Or.inl ⟨by omega, HC.out⟩⟩
      · have his : i = s.size := by omega
        have hne : ((i : Int) == (s.size : Int)) = true := by rw [his]; exact beq_self_eq_true _
        have HC := Lib.hid (show out ++ [((47 :: r).drop f).take (i - f)] = pieces r from by
          have hll : (47 :: r : Txt).length = i := by rw [← HL.out, ← size_len, his]
          have hgo := HG.out
          rw [← hll] at hgo ⊢
          exact hgo.end)
        have HI := Lib.hid his
        clear his HG
        have HX := Lib.hid (extract_ba s f i)
        rw [HL.out] at HX
        go_wp2_with (at_builtin; refine wpList_append_str _ rfl _ _ _ rfl strsT (.slice A n c) (out.map ba) rfl (ho.alloc _) (wr.heap.size + 1) (some ⟨wr.heap.size, 0, none⟩) 1 1 [s.extract f i] rfl rfl (strs_one wr _ _) (by simp; omega) ?_; intro A4 n4 c4 w4 o4 e4 h4 m4 g4 f4)
        have k4 := (kr.alloc (.cells #[.string (s.extract f i)] 9)).own g4 hnb
        go_roundg 0
        case measure => omega
        case rel =>
          refine ⟨out ++ [((47 :: r).drop f).take (i - f)], i + 1, i + 1, A4, n4, c4, rfl, by go_num, by go_num, ?_, hnb.next (Nat.le_trans kr.size (by simp)) f4, k4, by simp; omega, by have := HI.out; omega, Or.inr ⟨by have := HI.out; omega, HC.out⟩⟩
          rw [List.map_append]
          rw [HX.out] at o4
          exact o4
    · have hle : ¬ ((i : Int) ≤ (s.size : Int)) := by omega
      subst hout
      obtain ⟨A1, c1, e1, hc1, hm1, hst, _⟩ := ho.shape
      injection e1 with e1 e2 e3
      rw [List.length_map] at e2 hc1
      subst e1 e3
      have HN := Lib.hid e2
      have HS := Lib.hid hst
      simp only [maxLen] at hm1
      have hn1000 : n ≤ 1001 := by
        have := pieces_length_le r
        omega
      have hnc : n ≤ c := by omega
      clear hst ho hnb e2
      obtain ⟨w1, hw1⟩ : ∃ w1 : World, w1 = wr := ⟨_, rfl⟩
      subst hw1
      go_wp2_with fail
      go_loopg [7] n (fun g i wq => ∃ k : Nat, k ≤ n ∧ n - k ≤ g ∧ i = .int .i64 k ∧ KF w1 wq ∧ Hid (∀ p ∈ (pieces r).take k, IsName p))
      case atStart => exact ⟨0, by omega, by omega, rfl, KF.refl _, Lib.hid (by simp)⟩
      case round =>
        obtain ⟨k, hk, hg2, rfl, kq, HA⟩ := hrel
        rcases Nat.lt_or_ge k n with hlt | hge
        · have hlt' : (k : Int) < (n : Int) := by omega
          have q1 : k < (pieces r).length := by rw [← HN.out]; exact hlt
          obtain ⟨b, o, rfl, hbb, hcell⟩ := World.cellAt (HS.out.kept kq) (n := k) (by rw [List.length_map]; exact q1)
          rw [List.getElem_map] at hcell
          have hin := List.getElem_mem q1
          have hjp := joined_pieces r
          have hpl : ((pieces r)[k]).length ≤ 1000 := by
            have := piece_le r _ hin
            omega
          have R := rname_any (ba (pieces r)[k]) wr (by rw [ba_size]; omega)
          have hbd : (ba (pieces r)[k]).data.toList = (pieces r)[k] := rfl
          rw [hbd] at R
          by_cases hname : IsName (pieces r)[k]
          · rw [decide_eq_true hname] at R
            have HX := Lib.hid (show ∀ p ∈ (pieces r).take (k + 1), IsName p by
              intro p hp
              rw [List.take_add_one, List.getElem?_eq_getElem q1, List.mem_append] at hp
              rcases hp with hp | hp
              · exact HA.out p hp
              · rw [Option.toList_some, List.mem_singleton] at hp
                rw [hp]
                exact hname)
            have HR2 := Lib.hid R
            clear R hname hbd hin hjp hpl
            generalize ba (pieces r)[k] = x at hcell HR2
            go_wp2_with fail
            refine HR2.out.mono ?_
            rintro e w2 ⟨rfl, k2⟩
            go_wp2_with fail
            go_roundg (n - (k + 1))
            case measure => omega
            case rel => exact ⟨k + 1, by omega, by omega, by go_num, kq.trans k2, HX⟩
          · rw [decide_eq_false hname] at R
            have HM := Lib.hid (show pathM (47 :: r) = none by rw [pathM, if_neg (by simp), if_neg HR.out, if_neg (fun h => hname (h.2 _ hin))])
            have HR2 := Lib.hid R
            clear R hname hbd hin hjp hpl
            generalize ba (pieces r)[k] = x at hcell HR2
            go_wp2_with fail
            refine HR2.out.mono ?_
            rintro e w2 ⟨rfl, k2⟩
            go_wp2_with fail
            go_ret2
            exact ⟨((kr.trans kq).trans k2).trans (KF.of_below ((Below.refl _ _).alloc (Nat.le_refl _) _)), Or.inl ⟨HM.out, _, _, _, rfl⟩⟩
        · obtain rfl : k = n := by omega
          have hlt' : ¬ (k : Int) < (k : Int) := by omega
          have hall : ∀ p ∈ pieces r, IsName p := by
            have := HA.out
            rw [HN.out, List.take_length] at this
            exact this
          rcases Nat.lt_or_ge 8 k with h8 | h8
          · have hd : decide ((8 : Int) < (k : Int)) = true := decide_eq_true (by omega)
            have HM := Lib.hid (show pathM (47 :: r) = none by rw [pathM, if_neg (by simp), if_neg HR.out, if_neg (fun h => by have := h.1; have := HN.out; omega)])
            clear hall
            go_wp2_with fail
            go_ret2
            exact ⟨(kr.trans kq).trans (KF.of_below ((Below.refl _ _).alloc (Nat.le_refl _) _)), Or.inl ⟨HM.out, _, _, _, rfl⟩⟩
          · have hd : decide ((8 : Int) < (k : Int)) = false := decide_eq_false (by omega)
            have HM := Lib.hid (show pathM (47 :: r) = some (pieces r) by rw [pathM, if_neg (by simp), if_neg HR.out, if_pos ⟨by have := HN.out; omega, hall⟩])
            clear hall
            go_wp2_with fail
            go_ret2
            refine ⟨kr.trans kq, Or.inr ⟨pieces r, A, c, HM.out, ?_, by have := HN.out; omega, by omega, HS.out.kept kq⟩⟩
            rw [← HN.out]
            rfl
theorem rsplit_any (s : ByteArray) (w : World) (hs : s.size ≤ 1000) : Calls Tryd.prog 40 #[.string s] w (RSplits s.data.toList w) := by
  rw [size_len] at hs
  rw [← ba_data s]
  generalize s.data.toList = l at hs
  match l with
  | [] => exact rsplit_bare (ba []) w (fun r h => by cases h)
  | b :: r =>
    by_cases hb : b = 47
    · subst hb
      by_cases hr : r = []
      · subst hr; exact rsplit_root w
      · exact rsplit_led r w hr (by simp at hs; omega)
    · exact rsplit_bare (ba (b :: r)) w (fun r' h => hb (by injection h))
end Go.Proofs.YtklpebfkgdklmaaDoor
