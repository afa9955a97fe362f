/-
  The reference's Up and Place.
-/
import Derived.Test.YtlkiaghpdjbfeaaGreatDoorPk4
import Derived.Deep.CutRange
import Derived.Deep.DeepCutAuto
import Derived.Deep.RegionWith
namespace Go.Proofs.YtlkiaghpdjbfeaaGreatDoor
open Go.RowKit
variable {Zp : Nat → Prop}

set_option maxRecDepth 100000 in
set_option maxHeartbeats 2000000 in
theorem rup_yes (s : ByteArray) (w : World) (ps : List Txt) (p : Txt) (hs : s.size ≤ 1000) (h : pathM s.data.toList = some (ps ++ [p])) :
    Calls Tryz.prog 55 #[.string s] w fun e w' => e = .returned (.tuple #[.string (ba (joinM ps)), .string (ba p), .int .i64 0]) ∧ KF w w' := by
  have C := Lib.hid (rsplit_any s w hs)
  have HP := Lib.hid h
  clear h
  go_enter Tryz.func55, Tryz.ntmps55
  go_wp2_with fail
  refine C.out.mono ?_
  rintro e w1 ⟨k1, ⟨hno, _⟩ | ⟨qs, A, c, hp, rfl, hc, h9, hst⟩⟩
  · rw [HP.out] at hno; cases hno
  · rw [HP.out] at hp
    injection hp with hp
    subst hp
    obtain ⟨_, h8, hnm⟩ := pathM_some HP.out
    have hlen : (ps ++ [p]).length = ps.length + 1 := by simp
    rw [hlen] at hc h8 ⊢
    have hjl := joined_le ps fun q hq => hnm q (by simp [hq])
    obtain ⟨b, o, rfl, hbb⟩ := hst.head (by simp)
    have hcell : w1.cell? ⟨b, o + ps.length, none⟩ = some (.string (ba p)) := hst.at_ (by simp)
    have hst' : Strs w1 w1.heap.size (some ⟨b, o, none⟩) (ps.map ba) := by
      have := hst.take ps.length
      rw [← List.map_take, List.take_left] at this
      exact this
    have htot : total ps ≤ 2000000 := by
      have hm : ∀ q : List Txt, (∀ x ∈ q, x.length ≤ 16) → total q ≤ 16 * q.length := fun q => by
        induction q with
        | nil => intro _; simp [total, Lib.lens]
        | cons a r ih =>
          intro hx
          rw [total_cons, List.length_cons]
          have := ih (fun x hxr => hx x (by simp [hxr]))
          have := hx a (by simp)
          omega
      have := hm ps (fun x hx => (hnm x (by simp [hx])).2.2.1)
      omega
    have HJ : Hid (∀ w2, KF w1 w2 → Calls Tryz.prog 94 #[.slice (some ⟨b, o, none⟩) ps.length c] w2 fun e w' => e = .returned (.string (ba (joinM ps))) ∧ KF w1 w' ∧ w'.cell? ⟨b, o + ps.length, none⟩ = some (.string (ba p))) := Lib.hid fun w2 k2 =>
      (rjoin_any _ ps _ c w2 rfl htot (by omega) (hst'.kept k2)).mono fun e w' ⟨he, hw⟩ => ⟨he, k2.trans hw, ((k2.trans hw).cell hbb).trans hcell⟩
    have e0 : (((ps.length + 1 : Nat) : Int) == 0) = false := beq_eq_false_iff_ne.2 (by omega)
    have e1 : ((ps.length + 1 : Nat) : Int) - 1 = (ps.length : Int) := by omega
    clear hst hst' hjl hnm htot
    generalize hR : ba (joinM ps) = R at HJ
    generalize hx : ba p = x at HJ hcell
    generalize hn : ps.length = n at *
    have HR := Lib.hid hR
    have HX := Lib.hid hx
    have HN := Lib.hid hn
    clear hR hx hn hlen
    go_upto_region 5 with fail
    go_cut [2, 3, 4] (fun s2 s3 s4 wx => s2 = .string R ∧ s3 = .string x ∧ s4 = .int .i64 0 ∧ KF w1 wx)
    case first =>
      go_region_with (go_at_call 94; refine (HJ.out _ ?_).mono ?_; (first | exact KF.refl _ | exact (KF.refl _).drew | exact (KF.refl _).drewN _); rintro e w2 ⟨rfl, k2, hc2⟩)
      all_goals (go_wp2_with fail; go_meet; exact ⟨rfl, rfl, rfl, by (first | exact k2 | exact k2.drew | exact k2.drewN _)⟩)
    case rest =>
      obtain ⟨rfl, rfl, rfl, kc⟩ := hcut
      go_wp2_with fail
      go_returns
      rw [HR.out, HX.out]
      exact ⟨rfl, k1.trans kc⟩
set_option maxRecDepth 100000 in
theorem rup_no (s : ByteArray) (w : World) (hs : s.size ≤ 1000) (h : pathM s.data.toList = none ∨ pathM s.data.toList = some []) :
    Calls Tryz.prog 55 #[.string s] w fun e w' => e = .returned (.tuple #[.string ⟨#[]⟩, .string ⟨#[]⟩, .int .i64 20]) ∧ KF w w' := by
  have C := Lib.hid (rsplit_any s w hs)
  have HP := Lib.hid h
  clear h
  go_enter Tryz.func55, Tryz.ntmps55
  go_wp2_with fail
  refine C.out.mono ?_
  rintro e w1 ⟨k1, ⟨hno, A, n, c, rfl⟩ | ⟨qs, A, c, hp, rfl, hc, h9, hst⟩⟩
  · clear hno
    go_wp2_with fail
    go_returns
    exact ⟨rfl, k1⟩
  · have hq : qs = [] := by
      rcases HP.out with h | h
      · rw [h] at hp; cases hp
      · rw [h] at hp; injection hp with hp; exact hp.symm
    subst hq
    clear hp hst
    simp only [List.length_nil] at hc ⊢
    have e0 : (((0 : Nat) : Int) == 0) = true := rfl
    go_wp2_with fail
    go_returns
    exact ⟨rfl, k1⟩
/-- What the reference's Place answers. -/
def RPlaces (t : Tr) (s : Txt) (w : World) (e : Ending) (w' : World) : Prop := KF w w' ∧
  ((∃ k, place t s = .error k ∧ k ≠ 0 ∧ e = .returned (.tuple #[.int .i64 0, .string ⟨#[]⟩, .int .i64 (k : Int)])) ∨ ∃ d x, place t s = .ok (d, x) ∧ d < 64 ∧ e = .returned (.tuple #[.int .i64 (d : Int), .string (ba x), .int .i64 0]))
set_option maxRecDepth 100000 in
set_option maxHeartbeats 2000000 in
theorem rplace_any (s : ByteArray) (w : World) (g : Nat) (t : Tr) (hT : RefAt Zp w g t) (G : Good t) (hb : Small t) (hs : s.size ≤ 1000) :
    Calls Tryz.prog 53 #[.pointer (some ⟨g, 0, none⟩), .string s] w (RPlaces t s.data.toList w) := by
  rcases pathM_cases s.data.toList with hp | ⟨ns, x, hp⟩
  · have C := Lib.hid (rup_no s w hs hp)
    have HP := Lib.hid (show place t s.data.toList = .error 20 by unfold place; rcases hp with hp | hp <;> rw [hp])
    clear hp hT G hb
    go_enter Tryz.func53, Tryz.ntmps53
    go_wp2_with fail
    refine C.out.mono ?_
    rintro e w1 ⟨rfl, k1⟩
    go_wp2_with fail
    go_returns
    exact ⟨k1, .inl ⟨20, HP.out, by decide, rfl⟩⟩
  · have C := Lib.hid (rup_yes s w ns x hs hp)
    have HP := Lib.hid (place_some (t := t) hp)
    obtain ⟨_, h8, hnm⟩ := pathM_some hp
    have hsz : (ba (joinM ns)).size ≤ 1000 := by
      rw [ba_size]
      show (47 :: joined ns).length ≤ _
      have := joined_le ns fun q hq => hnm q (by simp [hq])
      rw [List.length_append, List.length_cons, List.length_nil] at h8
      rw [List.length_cons]
      omega
    have HF : Hid (∀ W, KF w W → Calls Tryz.prog 56 #[.pointer (some ⟨g, 0, none⟩), .string (ba (joinM ns))] W (Finds t (joinM ns) W)) := Lib.hid fun W k => rfind_any _ W g t (hT.kept k) G hb hsz
    have FA := Lib.hid (find_above (t := t) hp)
    have HE : Hid (∀ (W : World) (d : Nat), KF w W → d < 64 → Calls Tryz.prog 92 #[.pointer (some ⟨g, 0, none⟩), .int .i64 d, .string (ba x)] W fun e w' => e = .returned (.int .i64 (lookI (look (t d).entries x))) ∧ KF W w') := Lib.hid fun W d k hd => rentry_any W g t d x (hT.kept k) hd (hb d)
    have HK : Hid (∀ (W : World) (d : Nat), KF w W → d < 64 → W.cell? ⟨g, d * 5 + 1, none⟩ = some (.int .i64 ((t d).kind : Int))) := Lib.hid fun W d k hd => ((hT.kept k).node d hd).kind
    have HG := Lib.hid G
    clear hT G hb hnm h8 hsz hp
    obtain ⟨J, hJ⟩ : ∃ J, ba (joinM ns) = J := ⟨_, rfl⟩
    obtain ⟨X, hX⟩ : ∃ X, ba x = X := ⟨_, rfl⟩
    rw [hJ, hX] at C
    rw [hJ] at HF
    rw [hX] at HE
    have HX := Lib.hid hX
    clear hJ hX
    go_enter Tryz.func53, Tryz.ntmps53
    go_wp2_with fail
    refine C.out.mono ?_
    rintro e w1 ⟨rfl, k1⟩
    go_wp2_with fail
    refine (HF.out w1 k1).mono ?_
    rintro e w2 ⟨k2, ⟨k, hk, hk0, rfl⟩ | ⟨d, hd, hkd, rfl⟩⟩
    · rw [FA.out] at hk
      have HK1 := Lib.hid hk
      have k0 : ((k : Int) != 0) = true := by simp; omega
      have HK0 := Lib.hid hk0
      clear hk hk0
      go_wp2_with fail
      go_returns
      refine ⟨KF.trans k1 k2, .inl ⟨k, ?_, HK0.out, rfl⟩⟩
      rw [HP.out, HK1.out]
    · rw [FA.out] at hd
      have hd64 : d < 64 := HG.out.lt hkd
      have hd64' : (d : Int) < 64 := by omega
      have ck := HK.out w2 d (KF.trans k1 k2) hd64
      have HD := Lib.hid hd
      clear hd
      rcases HG.out.two hkd with h1 | h2
      · rw [h1] at ck
        have H1 := Lib.hid h1
        have C2 := HE.out w2 d (KF.trans k1 k2) hd64
        clear h1 hkd
        rcases hl : look (t d).entries x with _ | m
        · rw [hl] at C2
          have HL := Lib.hid hl
          have C3 : Hid (Calls Tryz.prog 92 #[.pointer (some ⟨g, 0, none⟩), .int .i64 d, .string X] w2 fun e w' => e = .returned (.int .i64 (-1)) ∧ KF w2 w') := Lib.hid C2
          clear hl C2
          go_wp2_with fail
          refine C3.out.mono ?_
          rintro e w3 ⟨rfl, k3⟩
          go_wp2_with fail
          go_returns
          refine ⟨KF.trans k1 (KF.trans k2 k3), .inr ⟨d, x, ?_, hd64, by rw [HX.out]; rfl⟩⟩
          rw [HP.out, HD.out]
          simp only [HL.out]
          rw [if_neg (by rw [H1.out]; decide)]
        · rw [hl] at C2
          have HL := Lib.hid hl
          have C3 : Hid (Calls Tryz.prog 92 #[.pointer (some ⟨g, 0, none⟩), .int .i64 d, .string X] w2 fun e w' => e = .returned (.int .i64 m) ∧ KF w2 w') := Lib.hid C2
          have hm0 : (0 : Int) ≤ (m : Int) := by omega
          clear hl C2
          go_wp2_with fail
          refine C3.out.mono ?_
          rintro e w3 ⟨rfl, k3⟩
          go_wp2_with fail
          go_returns
          refine ⟨KF.trans k1 (KF.trans k2 k3), .inl ⟨22, ?_, by decide, rfl⟩⟩
          rw [HP.out, HD.out]
          simp only [HL.out]
          rw [if_neg (by rw [H1.out]; decide)]
      · rw [h2] at ck
        have H2 := Lib.hid h2
        clear h2
        go_wp2_with fail
        go_returns
        refine ⟨KF.trans k1 k2, .inl ⟨23, ?_, by decide, rfl⟩⟩
        rw [HP.out, HD.out]
        exact if_pos (by rw [H2.out]; decide)
end Go.Proofs.YtlkiaghpdjbfeaaGreatDoor
