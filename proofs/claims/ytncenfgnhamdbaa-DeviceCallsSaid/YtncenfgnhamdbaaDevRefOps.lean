/-
  WALKS of the document's Append, Sync, Wipe.
-/
import Derived.Test.YtncenfgnhamdbaaDevRefAt
namespace Go.Proofs.Ytncenfgnhamdbaa
open Go.RowKit

section
variable {w : World} {g gp n c : Nat} {qs : List QV} {R : List RPg}
theorem RAt.gp_ne (h : RAt w g (.slice (some ⟨gp, 0, none⟩) n c) qs R) : gp ≠ g := fun e => h.row_ne (by rw [← e]; rfl)
/-- A page is stored over. -/
theorem RAt.set (h : RAt w g (.slice (some ⟨gp, 0, none⟩) n c) qs R) (j : Nat) (hj : j < R.length) (q' : QV) (r' : RPg) (h1 : q'.st = r'.st) (h2 : q'.lasts = r'.lasts) (ho : Own 5 w q'.e1 r'.by_) (hs : r'.by_.length ≤ 1000) :
    RAt (((w.setCell ⟨gp, j * 3, none⟩ q'.e0).setCell ⟨gp, j * 3 + 1, none⟩ q'.e1).setCell ⟨gp, j * 3 + 2, none⟩ q'.e2) g (.slice (some ⟨gp, 0, none⟩) n c) (qs.set j q') (R.set j r') ∧
      Keep (fun i => gp = i) w (((w.setCell ⟨gp, j * 3, none⟩ q'.e0).setCell ⟨gp, j * 3 + 1, none⟩ q'.e1).setCell ⟨gp, j * 3 + 2, none⟩ q'.e2) := by
  have k1 : Keep (fun i => gp = i) w (((w.setCell ⟨gp, j * 3, none⟩ q'.e0).setCell ⟨gp, j * 3 + 1, none⟩ q'.e1).setCell ⟨gp, j * 3 + 2, none⟩ q'.e2) :=
    Keep.setCell (S := fun i => gp = i) (Keep.setCell (S := fun i => gp = i) (Keep.setCell (S := fun i => gp = i) (Keep.refl _ w) (p := ⟨gp, j * 3, none⟩) (.inr rfl) _) (p := ⟨gp, j * 3 + 1, none⟩) (.inr rfl) _) (p := ⟨gp, j * 3 + 2, none⟩) (.inr rfl) _
  have hS : ∀ q ∈ qs, ∀ i, q.e1.ownBlock = some i → ¬ gp = i := fun q hq i hi e => h.held_S q hq i hi (.inr (by rw [← e]; rfl))
  have hjl : j < qs.length := by rw [h.held.1]; exact hj
  refine ⟨⟨(k1.block g h.lt h.gp_ne).trans h.dev, OwnC.set3 h.row j q', ⟨by rw [List.length_set, List.length_set, h.held.1], fun i q r hq hr => ?_⟩, by rw [List.length_set]; exact h.few, fun r hr => ?_⟩, k1⟩
  · rw [List.getElem?_set] at hq hr
    by_cases e : j = i
    · rw [if_pos e, if_pos hjl] at hq
      rw [if_pos e, if_pos hj] at hr
      injection hq with hq
      injection hr with hr
      subst hq hr
      refine ⟨h1, h2, ho.kept k1 (fun i hi e => ?_)⟩
      subst e
      obtain ⟨cs, e'⟩ := h.row.cells_ (i := gp) rfl
      exact ho.ne_ e' (by decide) hi
    · rw [if_neg e] at hq hr
      exact (h.held.kept k1 hS).2 i q r hq hr
  · rcases List.mem_or_eq_of_mem_set hr with hr | rfl
    · exact h.short r hr
    · exact hs
/-- Whether a page lasts is stored over. -/
theorem RAt.setL (h : RAt w g (.slice (some ⟨gp, 0, none⟩) n c) qs R) (j : Nat) {q : QV} {r : RPg} (hq : qs[j]? = some q) (hr : R[j]? = some r) (b : Bool) :
    RAt (w.setCell ⟨gp, j * 3 + 2, none⟩ (.bool b)) g (.slice (some ⟨gp, 0, none⟩) n c) (qs.set j { q with lasts := b }) (R.set j { r with lasts := b }) ∧ Keep (fun i => gp = i) w (w.setCell ⟨gp, j * 3 + 2, none⟩ (.bool b)) := by
  have k1 : Keep (fun i => gp = i) w (w.setCell ⟨gp, j * 3 + 2, none⟩ (.bool b)) := Keep.setCell (S := fun i => gp = i) (Keep.refl _ w) (p := ⟨gp, j * 3 + 2, none⟩) (.inr rfl) _
  have hS : ∀ q ∈ qs, ∀ i, q.e1.ownBlock = some i → ¬ gp = i := fun q hq i hi e => h.held_S q hq i hi (.inr (by rw [← e]; rfl))
  have hjl : j < qs.length := (List.getElem?_eq_some_iff.1 hq).1
  have hj : j < R.length := (List.getElem?_eq_some_iff.1 hr).1
  obtain ⟨h1, h2, h3⟩ := h.held.2 j q r hq hr
  refine ⟨⟨(k1.block g h.lt h.gp_ne).trans h.dev, OwnC.set3_last (e0 := QV.e0) (e1 := QV.e1) (e2 := QV.e2) h.row j { q with lasts := b } (fun y hy => ?_), ⟨by rw [List.length_set, List.length_set, h.held.1], fun i q2 r2 hq2 hr2 => ?_⟩, by rw [List.length_set]; exact h.few, fun r2 hr2 => ?_⟩, k1⟩
  · rw [hq] at hy
    injection hy with hy
    subst hy
    exact ⟨rfl, rfl⟩
  · rw [List.getElem?_set] at hq2 hr2
    by_cases e : j = i
    · rw [if_pos e, if_pos hjl] at hq2
      rw [if_pos e, if_pos hj] at hr2
      injection hq2 with hq2
      injection hr2 with hr2
      subst hq2 hr2
      exact ⟨h1, rfl, h3.kept k1 (hS q (List.mem_of_getElem? hq))⟩
    · rw [if_neg e] at hq2 hr2
      exact (h.held.kept k1 hS).2 i q2 r2 hq2 hr2
  · rcases List.mem_or_eq_of_mem_set hr2 with hr2 | rfl
    · exact h.short r2 hr2
    · exact h.short r (List.mem_of_getElem? hr)
end
def RDid (w : World) (g : Nat) (v : Value) (qs : List QV) (R' : List RPg) (r : Value) (e : Ending) (w' : World) : Prop := e = .returned r ∧ ∃ v' qs', RLeft w g v qs R' v' qs' w'
set_option maxHeartbeats 1000000 in
theorem rappend8 {g : Nat} {v : Value} {qs : List QV} {R : List RPg} (A : Option Addr) (b : List UInt8) (n c : Nat) (w : World) (h : RAt w g v qs R) (hn : n = b.length) (hb : b.length ≤ 1000) (hr : Rd w w.heap.size A b) :
    Calls Try.prog 10 #[.pointer (some ⟨g, 0, none⟩), .slice A n c] w (if endR R R.length = R.length then RDid w g v qs R (.int .i64 4) else RDid w g v qs (R.set (endR R R.length) ⟨1, b, false⟩) (.int .i64 0)) := by
  have CN := Lib.hid (rnext8 w h)
  have hle : endR R R.length ≤ R.length := by
    have : ∀ k, endR R k ≤ k := fun k => by
      induction k with
      | zero => exact Nat.le_refl _
      | succ k ih => unfold endR; split <;> omega
    exact this _
  obtain ⟨A0, c0, rfl, hc1, hc2, hA⟩ := h.shape
  have hcell := h.cell
  have hfew := h.few
  by_cases hfull : endR R R.length = R.length
  · rw [if_pos hfull]
    have FIN : Hid (RDid w g (.slice A0 R.length c0) qs R (.int .i64 4) (.returned (.int .i64 4)) w) := Lib.hid ⟨rfl, _, _, RLeft.refl h⟩
    generalize RDid w g (.slice A0 R.length c0) qs R (.int .i64 4) = Q at *
    rw [hfull] at CN
    clear h hr hfull hle hA
    generalize R.length = l at *
    go_enter Try.func10, Try.ntmps10
    go_wp2_with fail
    refine CN.out.mono ?_
    rintro e w1 ⟨rfl, rfl⟩
    go_wp2_with fail
    exact FIN.out
  · rw [if_neg hfull]
    obtain ⟨gp, rfl⟩ := hA (by omega)
    obtain ⟨k, hk⟩ : ∃ k, endR R R.length = k := ⟨_, rfl⟩
    rw [hk] at CN hle hfull ⊢
    have hkl : k < R.length := by omega
    have hgne := h.gp_ne
    have hgpl : gp < w.heap.size := h.foot_lt (.inr (.inl rfl))
    obtain ⟨q, hq, z1, z2, z3, n0, n1, n2⟩ := h.at_ (List.getElem?_eq_getElem hkl)
    have HF := Lib.hid fun W (kk : KF w W) => show W.cell? ⟨g, 0, none⟩ = some (.slice (some ⟨gp, 0, none⟩) R.length c0) ∧ (∀ j, W.frozen? ⟨gp, j, none⟩ = false) ∧ W.cell? ⟨gp, k * 3, none⟩ = some (.int .i64 (q.st : Int)) ∧ W.cell? ⟨gp, k * 3 + 1, none⟩ = some (.slice q.A q.n q.c) ∧ W.cell? ⟨gp, k * 3 + 2, none⟩ = some (.bool q.lasts) from
      ⟨(h.far kk).cell, fun j => (h.far kk).row.frozenAt j, (kk.cell (p := ⟨gp, k * 3, none⟩) hgpl).trans n0, (kk.cell (p := ⟨gp, k * 3 + 1, none⟩) hgpl).trans n1, (kk.cell (p := ⟨gp, k * 3 + 2, none⟩) hgpl).trans n2⟩
    have HRD : Hid (Rd (w.alloc (.cells #[] 5)) w.heap.size A b) := Lib.hid (hr.alloc (Nat.le_refl _) _)
    have OL : Hid (Own 5 (w.alloc (.cells #[] 5)) (.slice (some ⟨w.heap.size, 0, none⟩) 0 0) []) := Lib.hid (Own.lit 5 w [] (by decide))
    have HN := Lib.hid hn
    have FIN : Hid (∀ W A4 n4 c4, KF w W → Own 5 W (.slice A4 n4 c4) b → NB w (.slice A4 n4 c4) → RDid w g (.slice (some ⟨gp, 0, none⟩) R.length c0) qs (R.set k ⟨1, b, false⟩) (.int .i64 0) (.returned (.int .i64 0)) (((W.setCell ⟨gp, k * 3, none⟩ (.int .i64 1)).setCell ⟨gp, k * 3 + 1, none⟩ (.slice A4 n4 c4)).setCell ⟨gp, k * 3 + 2, none⟩ (.bool false))) := Lib.hid fun W A4 n4 c4 kk o nb => by
      obtain ⟨hs, hkp⟩ := (h.far kk).set k hkl ⟨1, A4, n4, c4, false⟩ ⟨1, b, false⟩ rfl rfl o hb
      refine ⟨rfl, _, _, hs, Keep.trans (kk.mono (S' := RS g (.slice (some ⟨gp, 0, none⟩) R.length c0)) (fun _ _ h => h.elim)) hkp (fun i _ e => .inr (by rw [← e]; rfl)), ?_⟩
      rintro i (rfl | hi | ⟨q', hq', hi⟩)
      · exact .inl (.inl rfl)
      · exact .inl (.inr (.inl hi))
      · rcases List.mem_or_eq_of_mem_set hq' with hm | rfl
        · exact .inl (.inr (.inr ⟨q', hm, hi⟩))
        · exact .inr (nb i hi)
    generalize RDid w g (.slice (some ⟨gp, 0, none⟩) R.length c0) qs (R.set k ⟨1, b, false⟩) (.int .i64 0) = Q at *
    have hkl' : (k : Int) < (R.length : Int) := by omega
    have hne' : ((k : Int) == (R.length : Int)) = false := by simp; omega
    clear h hr hA hk hq n0 n1 n2 z1 z2 z3 hn
    generalize R.length = l at *
    go_enter Try.func10, Try.ntmps10
    go_wp2_with fail
    refine CN.out.mono ?_
    rintro e w1 ⟨rfl, rfl⟩
    clear CN
    have hcA := (HF.out _ ((KF.refl w).alloc (.cells #[] 5))).1
    go_upto_region 4 with fail
    go_region_law (first
      | (refine step_append_u8 _ rfl _ _ _ rfl bytesT (.slice (some ⟨w.heap.size, 0, none⟩) 0 0) [] rfl OL.out.drew w.heap.size A n c b rfl HN.out HRD.out.drew (by simp; omega) ?_; intro A4 n4 c4 w4 o4 e4 h4 m4 g4 f4; have k4 : KF w w4 := (((KF.refl w).alloc (.cells #[] 5)).drew).own g4 (NB.new (Nat.le_refl _) 0 0); obtain ⟨s0, s1, s2, s3, s4⟩ := HF.out w4 k4)
      | (go_simp; go_wp2_with fail))
    all_goals
      go_wp2_with fail
      simp only [List.nil_append] at o4
      exact FIN.out w4 A4 n4 c4 k4 o4 ((NB.new (Nat.le_refl _) 0 0).next (by simp) f4)
theorem RLeft.step {w wr wX : World} {g gp n c : Nat} {qs qk qs' : List QV} {Rk R' : List RPg} (h : RLeft w g (.slice (some ⟨gp, 0, none⟩) n c) qs Rk (.slice (some ⟨gp, 0, none⟩) n c) qk wr) (hd : RAt wX g (.slice (some ⟨gp, 0, none⟩) n c) qs' R') (k : Keep (fun i => gp = i) wr wX)
    (hq : ∀ q ∈ qs', ∀ i, q.e1.ownBlock = some i → ∃ q0 ∈ qk, q0.e1.ownBlock = some i) : RLeft w g (.slice (some ⟨gp, 0, none⟩) n c) qs R' (.slice (some ⟨gp, 0, none⟩) n c) qs' wX :=
  ⟨hd, Keep.trans h.keep k (fun i _ e => .inr (by rw [← e]; rfl)), fun i hi => by
    rcases hi with rfl | hi | ⟨q, hq', hi⟩
    · exact .inl (.inl rfl)
    · exact .inl (.inr (.inl hi))
    · obtain ⟨q0, h0, e⟩ := hq q hq' i hi
      exact h.foot i (.inr (.inr ⟨q0, h0, e⟩))⟩
set_option maxHeartbeats 1000000 in
theorem rsync8 {g : Nat} {v : Value} {qs : List QV} {R : List RPg} (w : World) (h : RAt w g v qs R) :
    Calls Try.prog 12 #[.pointer (some ⟨g, 0, none⟩)] w (RDid w g v qs (rSync R) (.tuple #[])) := by
  obtain ⟨A0, c0, rfl, hc1, hc2, hA⟩ := h.shape
  have hfew := h.few
  have H0 := Lib.hid (RLeft.refl h)
  have HA := Lib.hid hA
  clear h hA
  obtain ⟨l, hl⟩ : ∃ l, R.length = l := ⟨_, rfl⟩
  have HR0 : Hid (rSync R = upto syncR l R) := Lib.hid (by rw [← hl]; rfl)
  rw [hl] at hc1 hfew H0 HA ⊢
  have HL := Lib.hid hl
  clear hl
  go_enter Try.func12, Try.ntmps12
  go_wp2_with fail
  go_loopg [2] l (fun gh i wr => ∃ (k : Nat) (qk : List QV), k ≤ l ∧ l - k ≤ gh ∧ i = .int .i64 k ∧ RLeft w g (.slice A0 l c0) qs (upto syncR k R) (.slice A0 l c0) qk wr)
  case atStart => exact ⟨0, qs, by omega, by omega, rfl, by rw [upto_zero]; exact H0.out⟩
  case round =>
    obtain ⟨k, qk, hk, hgk, rfl, hS⟩ := hrel
    have hcg := hS.dev.cell
    rcases Nat.lt_or_ge k l with hlt | hge
    · have hlt' : (k : Int) < (l : Int) := by omega
      obtain ⟨gp, rfl⟩ := HA.out (by omega)
      have hkR : k < R.length := by rw [HL.out]; exact hlt
      have hr := upto_at (f := syncR) hkR
      obtain ⟨q, hq, h1, h2, h3, n0, n1, n2⟩ := hS.dev.at_ hr
      have hfr := hS.dev.row.frozenAt (k * 3 + 2)
      have hgne := hS.dev.gp_ne
      have hgne2 : g ≠ gp := fun e => hgne e.symm
      have NX : Hid (∀ j b, b = decide ((R[k]'hkR).st ≠ 0) → RLeft w g (.slice (some ⟨gp, 0, none⟩) l c0) qs (upto syncR (k + 1) R) (.slice (some ⟨gp, 0, none⟩) l c0) (qk.set k { q with lasts := b }) ((wr.drewN j).setCell ⟨gp, k * 3 + 2, none⟩ (.bool b))) := Lib.hid fun j b hb => by
        have hd := (hS.far ((KF.refl wr).drewN j)).dev
        obtain ⟨hs, hkp⟩ := hd.setL k hq hr b
        have e : (upto syncR k R).set k { (R[k]'hkR) with lasts := b } = upto syncR (k + 1) R := by rw [upto_step hkR, hb]; rfl
        rw [e] at hs
        refine (hS.far ((KF.refl wr).drewN j)).step hs hkp (fun q' hq' i hi => ?_)
        rcases List.mem_or_eq_of_mem_set hq' with hm | rfl
        · exact ⟨q', hm, hi⟩
        · exact ⟨q, List.mem_of_getElem? hq, hi⟩
      have HW : Hid (∀ j, wr.drewN j = wr.drewN j) := Lib.hid fun _ => rfl
      by_cases hz : (R[k]'hkR).st = 0
      · have hb : ((q.st : Int) != 0) = false := by rw [h1, hz]; rfl
        have NX2 := Lib.hid fun j => NX.out j false (by simp [hz])
        clear hS NX hr hq h1 h2 h3 hz n1
        go_wp2_with fail
        go_region
        all_goals
          go_wp2_with fail
          go_roundg (l - (k + 1))
          case measure => omega
          case rel => exact ⟨k + 1, _, by omega, by omega, by go_num, NX2.out 1⟩
      · have hb : ((q.st : Int) != 0) = true := by rw [h1]; simp; omega
        have NX2 := Lib.hid fun j => NX.out j true (by simp [hz])
        clear hS NX hr hq h1 h2 h3 hz n1
        go_wp2_with fail
        go_region
        all_goals
          go_wp2_with fail
          go_roundg (l - (k + 1))
          case measure => omega
          case rel => exact ⟨k + 1, _, by omega, by omega, by go_num, NX2.out 1⟩
    · obtain rfl : k = l := by omega
      have hlt' : ¬ (k : Int) < (k : Int) := by omega
      have FIN : Hid (RDid w g (.slice A0 k c0) qs (rSync R) (.tuple #[]) (.returned (.tuple #[])) wr) := Lib.hid (by
        rw [HR0.out]
        exact ⟨rfl, _, _, hS⟩)
      clear hS
      go_wp2_with fail
      go_end0
      exact FIN.out
theorem rwipe8 {g : Nat} {v : Value} {qs : List QV} {R : List RPg} (w : World) (h : RAt w g v qs R) :
    Calls Try.prog 16 #[.pointer (some ⟨g, 0, none⟩)] w (RDid w g v qs (List.replicate R.length rZero) (.tuple #[])) := by
  obtain ⟨A0, c0, rfl, hc1, hc2, hA⟩ := h.shape
  have hc := h.cell
  have hmk := run_makeR R.length h.few w
  have k1 : KF w (w.alloc (.cells (madeCells #[.int .i64 0, .slice none 0 0, .bool false] (R.length * 3)) 54)) := (KF.refl w).alloc _
  have b1 := (k1.block g h.lt (fun h => h)).trans h.dev
  have c1 := cell_of_one b1
  have f1 := free_of_one b1
  have FIN : Hid (RDid w g (.slice A0 R.length c0) qs (List.replicate R.length rZero) (.tuple #[]) (.returned (.tuple #[])) ((w.alloc (.cells (madeCells #[.int .i64 0, .slice none 0 0, .bool false] (R.length * 3)) 54)).setCell ⟨g, 0, none⟩ (.slice (some ⟨w.heap.size, 0, none⟩) R.length R.length))) := Lib.hid (by
    have kg : Keep (fun i => i = g) (w.alloc (.cells (madeCells #[.int .i64 0, .slice none 0 0, .bool false] (R.length * 3)) 54)) ((w.alloc (.cells (madeCells #[.int .i64 0, .slice none 0 0, .bool false] (R.length * 3)) 54)).setCell ⟨g, 0, none⟩ (.slice (some ⟨w.heap.size, 0, none⟩) R.length R.length)) := Keep.setCell (S := fun i => i = g) (Keep.refl _ _) (p := ⟨g, 0, none⟩) (.inr rfl) _
    have hgl := h.lt
    refine ⟨rfl, .slice (some ⟨w.heap.size, 0, none⟩) R.length R.length, List.replicate R.length qZero, ⟨one_setCell b1, (OwnC.made w R.length h.few).kept kg (fun i hi e => ?_), RHeld.zero _ _, by rw [List.length_replicate]; exact h.few, fun r hr => ?_⟩, Keep.trans (k1.mono (S' := RS g (.slice A0 R.length c0)) (fun _ _ h => h.elim)) kg (fun i _ e => .inl e), ?_⟩
    · injection hi with hi
      have hi : w.heap.size = i := hi
      omega
    · rw [List.mem_replicate] at hr
      rw [hr.2]
      exact Nat.zero_le _
    · rintro i (rfl | hi | ⟨q, hq, hi⟩)
      · exact .inl (.inl rfl)
      · injection hi with hi
        exact .inr (Nat.le_of_eq hi)
      · rw [List.mem_replicate] at hq
        rw [hq.2] at hi
        simp [qZero, QV.e1, Value.ownBlock] at hi)
  generalize madeCells #[.int .i64 0, .slice none 0 0, .bool false] (R.length * 3) = CS at *
  generalize RDid w g (.slice A0 R.length c0) qs (List.replicate R.length rZero) (.tuple #[]) = Q at *
  clear h hA k1 b1
  generalize R.length = l at *
  go_enter Try.func16, Try.ntmps16
  go_wp2_with fail
  go_end0
  exact FIN.out
end Go.Proofs.Ytncenfgnhamdbaa
