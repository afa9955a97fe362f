/-
  WALKS: the reference's reader: Bytes.
-/
import Derived.Test.YtklpebfkgdklmaaDoorRefR
import Derived.Deep.RegionHeld3
namespace Go.Proofs.YtklpebfkgdklmaaDoor
open Go.RowKit

/-- Bytes that the reference's reader gives. -/
def BytesF (w : World) (g : Nat) (l : Txt) (s' : List UInt8 × Bool) (e : Ending) (w' : World) : Prop :=
  ∃ A1 n1 c1, e = .returned (.slice A1 n1 c1) ∧ Hid (n1 = l.length) ∧ Rd w' w'.heap.size A1 l ∧ n1 ≤ c1 ∧ RfE w' g s' ∧ Keep (fun k => k = g) w w'
def BytesA (w : World) (g : Nat) (A : Option Addr) (c : Nat) (L : List UInt8) (l : Txt) (s' : List UInt8 × Bool) (e : Ending) (w' : World) : Prop :=
  ∃ A1 n1 c1, e = .returned (.slice A1 n1 c1) ∧ Hid (n1 = l.length) ∧ Rd w' w'.heap.size A1 l ∧ n1 ≤ c1 ∧ RfA w' g A c L s' ∧ Keep (fun k => k = g) w w'
theorem RfA.kept {w w' : World} {g : Nat} {A : Option Addr} {c : Nat} {L : List UInt8} {s : List UInt8 × Bool} (h : RfA w g A c L s) (k : KF w w') : RfA w' g A c L s := by
  obtain ⟨a, h, hs⟩ := h
  exact ⟨a, h.kept k, hs⟩
theorem RfE.kept {w w' : World} {g : Nat} {s : List UInt8 × Bool} (h : RfE w g s) (k : KF w w') : RfE w' g s := by
  obtain ⟨A, c, L, a, h, hs⟩ := h
  exact ⟨A, c, L, a, h.kept k, hs⟩
set_option maxHeartbeats 1000000 in
theorem rbytes_A (g : Nat) (A : Option Addr) (c : Nat) (L : List UInt8) (s : List UInt8 × Bool) (most : Int) (w : World) (h : RfA w g A c L s) (hm : 0 ≤ most) :
    Calls Tryd.prog 49 #[.pointer (some ⟨g, 0, none⟩), .int .i64 most] w (BytesA w g A c L (byV most s) (byS most s)) := by
  have C := Lib.hid (rcount_A g A c L s most w h hm)
  have HV : Hid (byV most s = tkL (cntV most s) (cntS most s).1 (cntS most s).2) := Lib.hid rfl
  have HS : Hid (byS most s = tk (cntV most s) (cntS most s)) := Lib.hid rfl
  have hV := cntV_lt most s
  generalize byV most s = bv at *
  generalize byS most s = bs at *
  generalize cntV most s = V at *
  generalize cntS most s = s1 at *
  clear h
  go_enter Tryd.func49, Tryd.ntmps49
  go_wp2_with fail
  refine C.out.mono ?_
  rintro e w1 ⟨rfl, hr, hk⟩
  obtain ⟨a, h, hs⟩ := hr
  obtain ⟨l, bad⟩ := s1
  have h0 := h.cell0
  have h1 := h.cell1
  have h2 := h.cell2
  have hf1 := h.free 1
  have hf2 := h.free 2
  have hle := h.le
  have hfew := h.few
  have hcap := h.cap
  simp only [maxLen] at hcap
  have HF := Lib.hid h
  clear h C
  have BAD : Hid (bv = [] → bs = ([], true) → ∀ nq, BytesA w g A c L bv bs (.returned (.slice (some ⟨w1.heap.size, 0, none⟩) 0 0)) (((w1.drewN nq).setCell ⟨g, 2, none⟩ (.bool true)).alloc (.cells #[] 5))) := Lib.hid fun e1 e2 nq => by
    subst e1 e2
    have k1 : KF ((w1.drewN nq).setCell ⟨g, 2, none⟩ (.bool true)) (((w1.drewN nq).setCell ⟨g, 2, none⟩ (.bool true)).alloc (.cells #[] 5)) := (KF.refl _).alloc _
    exact ⟨_, 0, 0, rfl, rfl, Rd.nil, Nat.le_refl _, RfA.kept ⟨a, (HF.out.drewN nq).wrong, rfl⟩ k1, ((hk.drewN nq).setCell (.inr rfl) _).alloc _⟩
  have hz : ((w1.setCell ⟨g, 2, none⟩ (.bool true))).heap.size = w1.heap.size := by simp [World.setCell]
  cases bad
  · have hl : l = L.drop a := hs
    subst hl
    clear hs
    generalize hln : L.length = ln at *
    have HLN := Lib.hid hln
    clear hln
    by_cases hlt : ln - a < V
    · have d1 : decide ((ln : Int) - (a : Int) < (V : Int)) = true := by simp; omega
      obtain ⟨e1, e2⟩ := tk_few (n := V) (l := L.drop a) (by simp [HLN.out]; omega)
      have HB := Lib.hid (BAD.out (HV.out.trans e1) (HS.out.trans e2))
      clear e1 e2 BAD
      go_wp2
      go_quiet (fail)
      go_wp2
      go_ret
      exact HB.out nq
    · have d1 : decide ((ln : Int) - (a : Int) < (V : Int)) = false := by simp; omega
      obtain ⟨e1, e2⟩ := tk_some (n := V) (l := L.drop a) (by simp [HLN.out]; omega)
      have HV2 := Lib.hid (HV.out.trans e1)
      have HS2 := Lib.hid (HS.out.trans e2)
      clear e1 e2 BAD
      go_wp2
      go_quiet (fail)
      go_upto_region 5 with fail
      have hac : a ≤ c := by omega
      have hav : a + V ≤ c := by omega
      have hgl := HF.out.lt
      obtain ⟨e, he⟩ : ∃ e, a + V = e := ⟨_, rfl⟩
      have hae : a ≤ e := by omega
      have hec : e ≤ c := by omega
      have HEV : Hid (e - a = V) := Lib.hid (by omega)
      have HZ : Hid (c = a → 0 = V ∧ e = a) := Lib.hid fun h => ⟨by omega, by omega⟩
      have HVB : Hid (([] : List UInt8).length + V ≤ 70368744177664) := Lib.hid (by simp; omega)
      have FIN : Hid (∀ A4 n4 c4 w4, KF w1 w4 → Own 5 w4 (.slice A4 n4 c4) ([] ++ bv) → Hid (n4 = ([] ++ bv).length) → n4 ≤ c4 → BytesA w g A c L bv bs (.returned (.slice A4 n4 c4)) (w4.setCell ⟨g, 1, none⟩ (.int .i64 e))) := Lib.hid fun A4 n4 c4 w4 k4 o4 e4 h4 => by
        have R4 := HF.out.kept k4
        have hrd : Rd w4 w4.heap.size A4 bv := by simpa using o4.rd
        have hz4 : (w4.setCell ⟨g, 1, none⟩ (.int .i64 e)).heap.size = w4.heap.size := by simp [World.setCell]
        refine ⟨A4, n4, c4, rfl, Lib.hid (by simpa using e4.out), ?_, h4, ⟨e, ?_, ?_⟩, (hk.trans k4 (fun _ _ h => h.elim)).setCell (.inr rfl) _⟩
        · rw [hz4]
          exact hrd.store R4.block Rf.no 1 _
        · rw [HS2.out]
          exact R4.on (by rw [HLN.out]; omega)
        · rw [HS2.out]
          simp only [List.drop_drop]
          rw [he]
          simp
      have hV4 : V ≤ 35184372088832 := by omega
      have HBL : Hid (bv.length = V) := Lib.hid (by rw [HV2.out, List.length_take, List.length_drop, HLN.out]; omega)
      have hw1 : IntKind.i64.wrap ((a : Int) + (V : Int)) = (e : Int) := by rw [IntKind.wrap_i64]; omega
      have hw2 : wrap64 ((a : Int) + (V : Int)) = (e : Int) := by rw [IntWalk.wrap64_in _ ⟨by omega, by omega⟩]; omega
      have HO : Hid (∀ k, Own 5 ((w1.drewN k).alloc (.cells #[] 5)) (.slice (some ⟨w1.heap.size, 0, none⟩) 0 0) []) := Lib.hid fun k => Own.lit 5 (w1.drewN k) [] (by decide)
      have HRD : Hid (∀ k, Rd ((w1.drewN k).alloc (.cells #[] 5)) w1.heap.size (if c = a then A else A.map (·.add a)) bv) := Lib.hid fun k => by
        rw [HV2.out]
        exact (((HF.out.rd.cut (k := a) (by rw [HLN.out]; omega)).take V).drewN k).alloc (Nat.le_refl _) _
      have HC : Hid (∀ k W4, ((w1.drewN k).alloc (.cells #[] 5)).grownBy W4 (Value.slice (some ⟨w1.heap.size, 0, none⟩) 0 0).ownBlock → KF w1 W4 ∧ W4.cell? ⟨g, 0, none⟩ = some (.slice A ln c) ∧ W4.cell? ⟨g, 1, none⟩ = some (.int .i64 a) ∧ W4.frozen? ⟨g, 1, none⟩ = false) := Lib.hid fun k W4 hgr => by
        have kk : KF w1 W4 := Keep.own (((KF.refl w1).drewN k).alloc (.cells #[] 5)) hgr (NB.new (Nat.le_refl _) 0 0)
        exact ⟨kk, (Keep.cell kk (p := ⟨g, 0, none⟩) hgl (fun h => h)).trans h0, (Keep.cell kk (p := ⟨g, 1, none⟩) hgl (fun h => h)).trans h1, (Keep.frozen kk (p := ⟨g, 1, none⟩) hgl (fun h => h)).trans hf1⟩
      clear HV HS hlt d1 hz hV he hav
      by_cases hca : c = a
      · rw [if_pos hca] at HRD
        have HV0 : Hid (0 = V) := Lib.hid (HZ.out hca).1
        have hea := (HZ.out hca).2
        subst hea
        subst hca
        go_region_held3 (fun W => W.cell? ⟨g, 0, none⟩ = some (.slice A ln c) ∧ W.cell? ⟨g, 1, none⟩ = some (.int .i64 c)) (go_keep)
          (first | (refine step_append_u8 _ rfl _ _ _ rfl bytesT (.slice (some ⟨w1.heap.size, 0, none⟩) 0 0) [] rfl (HO.out _) w1.heap.size _ _ _ bv rfl (by rw [HBL.out]; first | exact HEV.out | exact HV0.out) (HRD.out _) (by rw [HBL.out]; exact HVB.out) ?_; intro A4 n4 c4 w4 o4 e4 h4 m4 g4 f4; obtain ⟨k4, s0, s1, s2⟩ := HC.out _ _ g4))
        clear HC HO HRD HBL HEV h0 h1 h2 hf1 hf2
        go_wp2
        go_ret
        exact FIN.out A4 n4 c4 w4 k4 o4 e4 h4
      · rw [if_neg hca] at HRD
        have HV0 : Hid (V = V) := Lib.hid rfl
        go_region_held3 (fun W => W.cell? ⟨g, 0, none⟩ = some (.slice A ln c) ∧ W.cell? ⟨g, 1, none⟩ = some (.int .i64 a)) (go_keep)
          (first | (refine step_append_u8 _ rfl _ _ _ rfl bytesT (.slice (some ⟨w1.heap.size, 0, none⟩) 0 0) [] rfl (HO.out _) w1.heap.size _ _ _ bv rfl (by rw [HBL.out]; first | exact HEV.out | exact HV0.out) (HRD.out _) (by rw [HBL.out]; exact HVB.out) ?_; intro A4 n4 c4 w4 o4 e4 h4 m4 g4 f4; obtain ⟨k4, s0, s1, s2⟩ := HC.out _ _ g4))
        clear HC HO HRD HBL HEV h0 h1 h2 hf1 hf2
        go_wp2
        go_ret
        exact FIN.out A4 n4 c4 w4 k4 o4 e4 h4
  · obtain ⟨e1, e2⟩ := tk_bad V l
    have HB := Lib.hid (BAD.out (HV.out.trans e1) (HS.out.trans e2))
    clear e1 e2 BAD
    go_wp2
    go_quiet (fail)
    go_wp2
    go_ret
    exact HB.out nq

theorem rbytes_any (g : Nat) (s : List UInt8 × Bool) (most : Int) (w : World) (h : RfE w g s) (hm : 0 ≤ most) :
    Calls Tryd.prog 49 #[.pointer (some ⟨g, 0, none⟩), .int .i64 most] w (BytesF w g (byV most s) (byS most s)) := by
  obtain ⟨A, c, L, h⟩ := h
  refine (rbytes_A g A c L s most w h hm).mono ?_
  rintro e w' ⟨A1, n1, c1, h1, h2, h3, h4, h5, h6⟩
  exact ⟨A1, n1, c1, h1, h2, h3, h4, ⟨A, c, L, h5⟩, h6⟩
end Go.Proofs.YtklpebfkgdklmaaDoor
