/-
  path.Join, path.Parent, path.Inside.
-/
import Derived.Test.YtlkiaghpdjbfeaaGreatDoorPk3
import Derived.Handy
namespace Go.Proofs.YtlkiaghpdjbfeaaGreatDoor
open Go.RowKit

theorem map_data (ps : List Txt) : (ps.map ba).map (·.data.toList) = ps := by
  rw [List.map_map]
  have e : ((fun x : ByteArray => x.data.toList) ∘ ba) = id := by funext x; rfl
  rw [e, List.map_id]

theorem join_any (A : Option Addr) (ps : List Txt) (n c : Nat) (w : World) (hn : n = ps.length) (hnc : n ≤ c) (hb : (joined ps).length ≤ 1000000000) (hb2 : n ≤ 1000000) (h : Strs w w.heap.size A (ps.map ba)) :
    Calls Tryz.prog 171 #[.slice A n c] w fun e w' => e = .returned (.string (ba (joinM ps))) ∧ KF w w' := by
  have C : Calls Tryz.prog 182 #[.slice A n c, .string ⟨#[47]⟩] w fun e w' => e = .returned (.string (ba (joined ps))) ∧ KF w w' := by
    cases ps with
    | nil =>
      subst hn
      exact (Tryz.strings_Join_none A c ⟨#[47]⟩ w).mono fun e w' ⟨he, hw⟩ => ⟨he, hw ▸ KF.refl _⟩
    | cons p q =>
      obtain ⟨b, o, rfl, hbb⟩ := h.head (by simp)
      have J := Tryz.strings_Join b o c ((p :: q).map ba) ⟨#[47]⟩ w (fun j x hx => h.at_ hx) hbb (by rw [List.length_map]; omega) (by rw [List.length_map]; omega) (by rw [map_data]; show (joined (p :: q)).length ≤ _; omega)
      rw [map_data, List.length_map, ← hn] at J
      exact J.mono fun e w' ⟨he, hw⟩ => ⟨he, KF.of_below hw⟩
  have HC := Lib.hid C
  clear C h
  have hsz : (ba (joined ps)).size ≤ 1000000000 := by rw [ba_size]; exact hb
  have hE : (ByteArray.mk #[47]) ++ ba (joined ps) = ba (joinM ps) := by
    apply ba_ext.1
    simp [ByteArray.data_append]
  have HE := Lib.hid hE
  clear hE
  generalize ba (joined ps) = J at HC HE hsz
  generalize ba (joinM ps) = R at HE ⊢
  clear hb hn hb2 hnc
  go_enter Tryz.func171, Tryz.ntmps171
  go_wp2_with fail
  refine HC.out.mono ?_
  rintro e w1 ⟨rfl, k1⟩
  go_wp2_with fail
  go_ret
  exact ⟨by rw [← HE.out]; rfl, k1⟩

theorem parent_no (s : ByteArray) (w : World) (hs : s.size ≤ 1000000) (he : Env w) (h : pathM s.data.toList = none ∨ pathM s.data.toList = some []) :
    Calls Tryz.prog 154 #[.string s] w fun e w' => e = .returned (.tuple #[.string ⟨#[]⟩, .string ⟨#[]⟩, .int .i64 20]) ∧ KF w w' := by
  have C := Lib.hid (split_any s w hs he)
  go_enter Tryz.func154, Tryz.ntmps154
  go_wp2_with fail
  refine C.out.mono ?_
  rintro e w1 ⟨k1, ⟨_, rfl⟩ | ⟨ps, A, c, hp, rfl, hc, _, _⟩⟩
  · go_wp2_with fail
    go_returns
    exact ⟨rfl, k1⟩
  · have : ps = [] := by
      rcases h with h | h <;> rw [h] at hp
      · cases hp
      · injection hp with hp; exact hp.symm
    subst this
    go_wp2_with fail
    go_returns
    exact ⟨rfl, k1⟩

theorem joined_le (ps : List Txt) (h : ∀ p ∈ ps, IsName p) : (joined ps).length ≤ 17 * ps.length := by
  induction ps with
  | nil => simp [joined, Lib.join, List.intercalate]
  | cons p q ih =>
    have hp := (h p (by simp)).2.2.1
    cases q with
    | nil => rw [joined, Lib.join_one]; simp; omega
    | cons y r =>
      have := ih fun n hn => h n (List.mem_cons_of_mem p hn)
      rw [joined_cons_cons, List.length_append, List.length_cons]
      simp only [List.length_cons] at this ⊢
      omega

set_option maxRecDepth 100000 in
set_option maxHeartbeats 4000000 in
theorem parent_yes (s : ByteArray) (w : World) (ps : List Txt) (p : Txt) (hs : s.size ≤ 1000000) (he : Env w) (h : pathM s.data.toList = some (ps ++ [p])) :
    Calls Tryz.prog 154 #[.string s] w fun e w' => e = .returned (.tuple #[.string (ba (joinM ps)), .string (ba p), .int .i64 0]) ∧ KF w w' := by
  have C := Lib.hid (split_any s w hs he)
  have HP := Lib.hid h
  clear h
  go_enter Tryz.func154, Tryz.ntmps154
  go_wp2_with fail
  refine C.out.mono ?_
  rintro e w1 ⟨k1, ⟨hno, _⟩ | ⟨qs, A, c, hp, rfl, hc, h9, hst⟩⟩
  · rw [HP.out] at hno; cases hno
  · rw [HP.out] at hp
    injection hp with hp
    subst hp
    obtain ⟨_, h8, hnm⟩ := pathM_some HP.out
    have hlen : (ps ++ [p]).length = ps.length + 1 := by simp
    rw [hlen] at hc h8 ⊢
    have hjl := joined_le ps fun q hq => hnm q (by simp [hq])
    obtain ⟨b, o, rfl, hbb⟩ := hst.head (by simp)
    have hcell : w1.cell? ⟨b, o + ps.length, none⟩ = some (.string (ba p)) := hst.at_ (by simp)
    have hst' : Strs w1 w1.heap.size (some ⟨b, o, none⟩) (ps.map ba) := by
      have := hst.take ps.length
      rw [← List.map_take, List.take_left] at this
      exact this
    have HJ : Hid (∀ w2, KF w1 w2 → Calls Tryz.prog 171 #[.slice (some ⟨b, o, none⟩) ps.length c] w2 fun e w' => e = .returned (.string (ba (joinM ps))) ∧ KF w1 w' ∧ w'.cell? ⟨b, o + ps.length, none⟩ = some (.string (ba p))) := Lib.hid fun w2 k2 =>
      (join_any _ ps _ c w2 rfl (by omega) (by omega) (by omega) (hst'.kept k2)).mono fun e w' ⟨he, hw⟩ => ⟨he, k2.trans hw, ((k2.trans hw).cell hbb).trans hcell⟩
    have e0 : (((ps.length + 1 : Nat) : Int) == 0) = false := beq_eq_false_iff_ne.2 (by omega)
    have e1 : ((ps.length + 1 : Nat) : Int) - 1 = (ps.length : Int) := by omega
    clear hst hst' hjl hnm
    generalize hR : ba (joinM ps) = R at HJ
    generalize hx : ba p = x at HJ hcell
    generalize hn : ps.length = n at *
    have HR := Lib.hid hR
    have HX := Lib.hid hx
    have HN := Lib.hid hn
    clear hR hx hn hlen
    go_upto_region 5 with fail
    go_cut [2, 3, 4] (fun s2 s3 s4 wx => s2 = .string R ∧ s3 = .string x ∧ s4 = .int .i64 0 ∧ KF w1 wx)
    case first =>
      go_region_with (go_at_call 171; refine (HJ.out _ ?_).mono ?_; (first | exact KF.refl _ | exact (KF.refl _).drew | exact (KF.refl _).drewN _); rintro e w2 ⟨rfl, k2, hc2⟩)
      all_goals (go_wp2_with fail; go_meet; exact ⟨rfl, rfl, rfl, by (first | exact k2 | exact k2.drew | exact k2.drewN _)⟩)
    case rest =>
      obtain ⟨rfl, rfl, rfl, kc⟩ := hcut
      go_wp2_with fail
      go_returns
      rw [HR.out, HX.out]
      exact ⟨rfl, k1.trans kc⟩

/-- What path.Inside tells. -/
theorem equal_any (A A' : Option Addr) (n c c' : Nat) (as1 bs : List Txt) (w : World) (hn : n ≤ as1.length) (ha : as1.length ≤ 1000000) (hb : bs.length ≤ 1000000) (h : Strs w w.heap.size A (as1.map ba)) (h' : Strs w w.heap.size A' (bs.map ba)) :
    Calls Tryz.prog 121 #[.slice A n c, .slice A' bs.length c'] w fun e w' => e = .returned (.bool (decide (as1.take n = bs))) ∧ KF w w' := by
  by_cases hl : n = bs.length
  · by_cases h0 : n = 0
    · subst h0
      refine (Tryz.slices_Equal_string_empty A A' c bs.length c' w (by omega)).mono fun e w' ⟨he, hw⟩ => ⟨?_, hw ▸ KF.refl _⟩
      rw [he]
      congr 3
      have : bs = [] := List.eq_nil_of_length_eq_zero hl.symm
      subst this
      simp
    · obtain ⟨b, o, rfl, hbb⟩ := h.head (by rw [List.length_map]; omega)
      obtain ⟨b', o', rfl, hbb'⟩ := h'.head (by rw [List.length_map]; omega)
      have E := Tryz.slices_Equal_string b o n c b' o' bs.length c' (as1.map ba) (bs.map ba) w (by rw [List.length_map]; exact hn) (by rw [List.length_map]; omega) (by omega) (by omega)
        (fun j hj => h.at_ (by rw [List.getElem?_eq_getElem hj, List.getD, List.getElem?_eq_getElem hj]; rfl)) (fun j hj => h'.at_ (by rw [List.getElem?_eq_getElem hj, List.getD, List.getElem?_eq_getElem hj]; rfl))
      refine E.mono fun e w' ⟨he, q, hw⟩ => ⟨?_, hw ▸ (KF.refl _).drewN q⟩
      rw [he]
      congr 2
      rw [← List.map_take, ← List.map_take]
      have e2 : bs.take bs.length = bs := List.take_length
      rw [e2]
      apply decide_eq_decide.2
      constructor
      · intro hh
        have := congrArg (List.map fun x : ByteArray => x.data.toList) hh
        rw [map_data, map_data] at this
        exact this
      · intro hh
        rw [hh]
  · refine (Tryz.slices_Equal_string_lens A A' n c bs.length c' w hl).mono fun e w' ⟨he, hw⟩ => ⟨?_, hw ▸ KF.refl _⟩
    rw [he, decide_eq_false]
    intro hh
    have := congrArg List.length hh
    rw [List.length_take] at this
    omega

set_option maxRecDepth 100000 in
theorem inside_any (s t : ByteArray) (w : World) (hs : s.size ≤ 1000000) (ht : t.size ≤ 1000000) (he : Env w) :
    Calls Tryz.prog 90 #[.string s, .string t] w fun e w' => e = .returned (.bool (insideM s.data.toList t.data.toList)) ∧ KF w w' := by
  have C := Lib.hid (split_any s w hs he)
  have D : Hid (∀ w1, KF w w1 → Calls Tryz.prog 83 #[.string t] w1 (Splits t.data.toList w1)) := Lib.hid fun w1 k => split_any t w1 ht (he.kept k)
  go_enter Tryz.func90, Tryz.ntmps90
  go_wp2_with fail
  refine C.out.mono ?_
  rintro e w1 ⟨k1, ⟨hno, rfl⟩ | ⟨as1, A, c, hp, rfl, hc, h9, hst⟩⟩
  · have HM := Lib.hid (insideM_none (s := s.data.toList) (o := t.data.toList) (Or.inl hno))
    go_wp2_with fail
    refine (D.out _ k1).mono ?_
    rintro e w2 ⟨k2, ⟨hno', rfl⟩ | ⟨bs, A', c', hp', rfl, hc', h9', hst'⟩⟩
    all_goals (go_wp2_with fail; go_ret; exact ⟨by rw [HM.out]; rfl, k1.trans k2⟩)
  · go_wp2_with fail
    refine (D.out _ k1).mono ?_
    rintro e w2 ⟨k2, ⟨hno', rfl⟩ | ⟨bs, A', c', hp', rfl, hc', h9', hst'⟩⟩
    · have HM := Lib.hid (insideM_none (s := s.data.toList) (o := t.data.toList) (Or.inr hno'))
      go_wp2_with fail
      go_ret
      exact ⟨by rw [HM.out]; rfl, k1.trans k2⟩
    · have HM := Lib.hid (insideM_some hp hp')
      have h8 := (pathM_some hp).2.1
      have h8' := (pathM_some hp').2.1
      by_cases hl : bs.length < as1.length
      · have hgt : decide ((bs.length : Int) < (as1.length : Int)) = true := decide_eq_true (by omega)
        have E := Lib.hid (equal_any A A' bs.length c c' as1 bs w2 (by omega) (by omega) (by omega) (hst.kept k2) hst')
        clear hp hp' hst hst'
        go_wp2_with fail
        refine E.out.mono ?_
        rintro e w3 ⟨rfl, k3⟩
        go_wp2_with fail
        go_ret
        refine ⟨?_, (k1.trans k2).trans k3⟩
        rw [HM.out]
        have : decide (bs.length < as1.length ∧ as1.take bs.length = bs) = decide (as1.take bs.length = bs) := decide_eq_decide.2 ⟨fun h => h.2, fun h => ⟨hl, h⟩⟩
        rw [this]
        rfl
      · have hgt : decide ((bs.length : Int) < (as1.length : Int)) = false := decide_eq_false (by omega)
        clear hp hp' hst hst'
        go_wp2_with fail
        go_ret
        refine ⟨?_, k1.trans k2⟩
        rw [HM.out, decide_eq_false fun h => hl h.1]
        rfl
end Go.Proofs.YtlkiaghpdjbfeaaGreatDoor
