/-
  WALKS of a device's Crash and Twin.
-/
import Derived.Test.YtncenfgnhamdbaaDevApp
namespace Go.Proofs.Ytncenfgnhamdbaa
open Go.RowKit

theorem dsync_pre {g room last : Nat} {v : Value} {qs : List PV} {ps : List Pg} (w : World) (h : DPre w g v qs room last ps) :
    Calls Try.prog 11 #[.pointer (some ⟨g, 0, none⟩)] w fun e w' => e = .returned (.tuple #[]) ∧ DPre w' g v qs room ps.length ps ∧ Keep (fun i => i = g) w w' := by
  obtain ⟨A, c, rfl, _⟩ := h.shape
  obtain ⟨c0, c1, c2⟩ := h.cells
  have f2 := h.free 2
  have k1 : Keep (fun i => i = g) w (w.setCell ⟨g, 2, none⟩ (.int .i64 (ps.length : Int))) := Keep.setCell (S := fun i => i = g) (Keep.refl _ w) (p := ⟨g, 2, none⟩) (.inr rfl) _
  have FIN : Hid (DPre (w.setCell ⟨g, 2, none⟩ (.int .i64 (ps.length : Int))) g (.slice A ps.length c) qs room ps.length ps ∧ Keep (fun i => i = g) w (w.setCell ⟨g, 2, none⟩ (.int .i64 (ps.length : Int)))) := Lib.hid
    ⟨⟨heap_setCell_same w g 2 _ _ _ h.dev, h.row.kept k1 (by rintro i hi rfl; exact h.row_ne hi), h.held.kept k1 (fun q hq i hi e => h.held_S q hq i hi (.inl e))⟩, k1⟩
  clear h k1
  generalize DPre = D at *
  generalize hl : ps.length = l at *
  clear hl
  go_enter Try.func11, Try.ntmps11
  go_wp2_with fail
  go_end0
  exact ⟨rfl, FIN.out⟩
/-- What a crash has come to, k pages on. -/
structure CSt (w : World) (g : Nat) (v : Value) (qs : List PV) (d : Dv) (picks : List UInt8) (k : Nat) (wr : World) (qk : List PV) : Prop where
  pre : DPre wr g v qk d.room d.last (crashI picks d.last k d.pages)
  keep : Keep (DS g v) w wr
  foot : ∀ q ∈ qk, ∀ i, q.e1.ownBlock = some i → ∃ q0 ∈ qs, q0.e1.ownBlock = some i
section
variable {w wr wX : World} {g : Nat} {v : Value} {qs qk : List PV} {d : Dv} {picks : List UInt8} {k : Nat}
theorem CSt.start (h : DevAt w g v qs d) : CSt w g v qs d picks 0 w qs := ⟨by rw [crashI_zero]; exact h.pre, Keep.refl _ _, fun q hq _ hi => ⟨q, hq, hi⟩⟩
theorem CSt.far (h : CSt w g v qs d picks k wr qk) (kk : KF wr wX) : CSt w g v qs d picks k wX qk := ⟨h.pre.far kk, h.keep.trans kk (fun _ _ h => h.elim), h.foot⟩
def crashV (q : PV) (t : Nat) : PV := if t = 1 then q else ⟨t, none, 0, 0⟩
theorem CSt.step {gp n c : Nat} (h : CSt w g (.slice (some ⟨gp, 0, none⟩) n c) qs d picks k wr qk) (hk : d.last + k < d.pages.length) {q : PV} (hq : qk[d.last + k]? = some q) :
    CSt w g (.slice (some ⟨gp, 0, none⟩) n c) qs d picks (k + 1) ((wr.setCell ⟨gp, (d.last + k) * 2, none⟩ (crashV q (pickN picks k)).e0).setCell ⟨gp, (d.last + k) * 2 + 1, none⟩ (crashV q (pickN picks k)).e1) (qk.set (d.last + k) (crashV q (pickN picks k))) := by
  have hv1 : pickN picks k = 1 → crashV q (pickN picks k) = q := fun h => if_pos h
  have hv2 : ¬ pickN picks k = 1 → crashV q (pickN picks k) = ⟨pickN picks k, none, 0, 0⟩ := fun h => if_neg h
  generalize crashV q (pickN picks k) = qv at *
  have k1 : Keep (fun i => gp = i) wr ((wr.setCell ⟨gp, (d.last + k) * 2, none⟩ qv.e0).setCell ⟨gp, (d.last + k) * 2 + 1, none⟩ qv.e1) :=
    Keep.setCell (S := fun i => gp = i) (Keep.setCell (S := fun i => gp = i) (Keep.refl _ wr) (p := ⟨gp, (d.last + k) * 2, none⟩) (.inr rfl) _) (p := ⟨gp, (d.last + k) * 2 + 1, none⟩) (.inr rfl) _
  have hne : gp ≠ g := fun e => h.pre.row_ne (by rw [← e]; rfl)
  have hkl : d.last + k < qk.length := by rw [h.pre.held.1, crashI_length]; exact hk
  have hqm : q ∈ qk := List.mem_of_getElem? hq
  have hp0 : (crashI picks d.last k d.pages)[d.last + k]? = some (d.pages[d.last + k]'hk) := by
    rw [List.getElem?_eq_getElem (by rw [crashI_length]; exact hk), crashI_untouched picks d.last k d.pages hk]
  have hqp := h.pre.held.2 _ _ _ hq hp0
  have hS : ∀ q ∈ qk, ∀ i, q.e1.ownBlock = some i → ¬ gp = i := fun q hq i hi e => h.pre.held_S q hq i hi (.inr (by rw [← e]; rfl))
  refine ⟨⟨(k1.block g h.pre.lt hne).trans h.pre.dev, OwnC.set2 h.pre.row (d.last + k) _, ⟨by rw [List.length_set, h.pre.held.1, crashI_length, crashI_length], fun j q' p' hq' hp' => ?_⟩⟩, ?_, fun q' hq' i hi => ?_⟩
  · rw [crashI_step picks d.last k d.pages hk] at hp'
    rw [List.getElem?_set] at hq' hp'
    by_cases e : d.last + k = j
    · rw [if_pos e, if_pos hkl] at hq'
      rw [if_pos e, if_pos (by rw [crashI_length]; exact hk)] at hp'
      injection hq' with hq'
      injection hp' with hp'
      subst hq' hp'
      unfold crashP
      by_cases ht : pickN picks k = 1
      · obtain rfl := hv1 ht
        rw [if_pos ht]
        exact ⟨hqp.1, hqp.2.kept k1 (hS _ hqm)⟩
      · obtain rfl := hv2 ht
        rw [if_neg ht]
        exact ⟨rfl, Own.nil _ _⟩
    · rw [if_neg e] at hq' hp'
      exact (h.pre.held.kept k1 hS).2 j q' p' hq' hp'
  · exact h.keep.trans k1 (fun i _ e => .inr (by rw [← e]; rfl))
  · rcases List.mem_or_eq_of_mem_set hq' with hm | rfl
    · exact h.foot q' hm i hi
    · by_cases ht : pickN picks k = 1
      · rw [hv1 ht] at hi
        exact h.foot q hqm i hi
      · rw [hv2 ht] at hi
        simp [PV.e1, Value.ownBlock] at hi
/-- The end of a crash. -/
theorem CSt.done {v' : Value} {w' : World} (h : CSt w g v qs d picks (d.pages.length - d.last) wr qk) (hd : DevAt w g v qs d) (hv : v'.ownBlock = v.ownBlock)
    (hpre : DPre w' g v' (qk.take (endN (crashI picks d.last (d.pages.length - d.last) d.pages) (crashI picks d.last (d.pages.length - d.last) d.pages).length)) d.room (trim (crashI picks d.last (d.pages.length - d.last) d.pages)).length (trim (crashI picks d.last (d.pages.length - d.last) d.pages))) (k : Keep (fun i => i = g) wr w') :
    DDid w g v qs (d.crash picks) (.tuple #[]) (.returned (.tuple #[])) w' := by
  refine ⟨rfl, v', _, ⟨⟨hpre.dev, hpre.row, hpre.held, hd.good.crash picks, hd.room, fun p hp => ?_⟩, h.keep.trans k (fun i _ e => .inl e), ?_, .inl hv⟩⟩
  · have hp' := List.mem_of_mem_take hp
    obtain ⟨j, hj⟩ := List.mem_iff_getElem?.1 hp'
    rw [crashI_get] at hj
    rcases e : d.pages[j]? with _ | q
    · rw [e] at hj; cases hj
    · rw [e, Option.map_some] at hj
      injection hj with hj
      have hq := hd.short q (List.mem_of_getElem? e)
      rw [← hj]
      split
      · unfold crashP
        split
        · exact hq
        · exact Nat.zero_le _
      · exact hq
  · rintro i (rfl | hi | ⟨q, hq, hi⟩)
    · exact .inl (.inl rfl)
    · exact .inl (.inr (.inl (hv ▸ hi)))
    · exact .inl (.inr (.inr (h.foot q (List.mem_of_mem_take hq) i hi)))
end
theorem OwnC.at2 {E : TypeId} {w : World} {g n c : Nat} {qs : List PV} (h : OwnC E 2 encP w (.slice (some ⟨g, 0, none⟩) n c) qs) {j : Nat} {q : PV} (hj : qs[j]? = some q) :
    w.cell? ⟨g, j * 2, none⟩ = some (.int .u8 (q.st : Int)) ∧ w.cell? ⟨g, j * 2 + 1, none⟩ = some (.slice q.A q.n q.c) := by
  obtain ⟨_, _, e, _, _, hRk, _⟩ := h.shape encP_len
  injection e with e _ _
  subst e
  obtain ⟨b, o, e, _, hcell⟩ := hRk _ _ hj
  injection e with e
  injection e with e1 e2 _
  subst e1 e2
  have n0 := hcell 0 _ rfl
  have n1 := hcell 1 _ rfl
  rw [Nat.zero_add, Nat.add_zero] at n0
  rw [Nat.zero_add] at n1
  exact ⟨n0, n1⟩
theorem OwnC.frozenAt {α : Type} {K : Nat} {enc : α → List Value} {E : TypeId} {w : World} {g n c : Nat} {xs : List α} (h : OwnC E K enc w (.slice (some ⟨g, 0, none⟩) n c) xs) (j : Nat) : w.frozen? ⟨g, j, none⟩ = false := by
  obtain rfl := OwnC.len (v := .slice none 0 0) h
  exact World.ownsRow.frozenAt (g := g) h j
set_option maxHeartbeats 2000000 in
theorem dcrash_any {g : Nat} {v : Value} {qs : List PV} {d : Dv} (A : Option Addr) (picks : List UInt8) (n c : Nat) (w : World) (h : DevAt w g v qs d) (hn : n = picks.length) (hb : n ≤ 1000000) (hr : Rd w w.heap.size A picks) (hsep : ∀ a : Addr, A = some a → picks ≠ [] → ¬ DS g v a.block) :
    Calls Try.prog 13 #[.pointer (some ⟨g, 0, none⟩), .slice A n c] w (DDid w g v qs (d.crash picks) (.tuple #[])) := by
  obtain ⟨A0, c0, rfl, hc1, hc2, hR, hA⟩ := h.shape
  obtain ⟨d0, d1, d2⟩ := h.cells
  have hlast := h.good.last
  have hroom := Nat.le_trans h.good.room h.room
  have hgl := h.lt
  have S0 := Lib.hid (CSt.start (picks := picks) h)
  have PK := Lib.hid fun W k (kk : Keep (DS g (.slice A0 d.pages.length c0)) w W) (hk : k ≤ 1000000) => pick_any A picks n c k W hn hk hb w.heap.size (by
    by_cases hp : picks = []
    · rw [hp]; exact Rd.nil
    · exact hr.keepS (Nat.le_refl _) kk (fun a ha => hsep a ha hp))
  have FIN : Hid (∀ wr qk, CSt w g (.slice A0 d.pages.length c0) qs d picks (d.pages.length - d.last) wr qk → Calls Try.prog 25 #[.pointer (some ⟨g, 0, none⟩)] wr fun e w1 => e = .returned (.tuple #[]) ∧ Calls Try.prog 11 #[.pointer (some ⟨g, 0, none⟩)] w1 fun e w2 => e = .returned (.tuple #[]) ∧ DDid w g (.slice A0 d.pages.length c0) qs (d.crash picks) (.tuple #[]) (.returned (.tuple #[])) w2) := Lib.hid fun wr qk hS => by
    refine (ddrop_any wr hS.pre (by rw [crashI_length]; exact hroom)).mono ?_
    rintro e w1 ⟨rfl, v', hv', hp', k'⟩
    refine ⟨rfl, (dsync_pre w1 hp').mono ?_⟩
    rintro e w2 ⟨rfl, hp2, k2⟩
    exact ⟨rfl, hS.done h hv' hp2 (k'.trans k2 (fun _ _ h => h))⟩
  generalize hQ : DDid w g (.slice A0 d.pages.length c0) qs (d.crash picks) (.tuple #[]) = Q at *
  have HD := Lib.hid h
  clear h hQ hn hr
  generalize hl : d.pages.length = l at *
  have HL := Lib.hid hl
  clear hl
  obtain ⟨m, hm⟩ : ∃ m : Nat, d.last = m := ⟨_, rfl⟩
  rw [hm] at d2 hlast FIN
  have HM := Lib.hid hm
  clear hm
  have w1 : ¬ ((c0 : Int) < (m : Int)) := by omega
  rcases Nat.lt_or_ge m l with hml | hml
  · obtain ⟨gp, rfl⟩ : ∃ gp, A0 = some ⟨gp, 0, none⟩ := by
      rcases HD.out.row.2 with ⟨e, h0⟩ | ⟨gp, cap, cur, e, _⟩
      · have := HD.out.len
        have := HL.out
        omega
      · injection e with e _ _
        exact ⟨gp, e⟩
    have hcm : ¬ c0 = m := by omega
    have hgpl : gp < w.heap.size := HD.out.foot_lt (.inr (.inl rfl))
    have hgpg : gp ≠ g := fun e => HD.out.row_ne (by rw [← e]; rfl)
    have wlm : IntKind.i64.wrap ((l : Int) - (m : Int)) = ((l - m : Nat) : Int) := by rw [IntKind.wrap_i64]; omega
    have HLM : Hid (∀ k, k < l - m → m + k < d.pages.length) := Lib.hid (fun k hk => by have := HL.out; omega)
    clear hR hA
    go_enter Try.func13, Try.ntmps13
    go_wp2_with fail
    go_quiet (fail)
    go_wp2_with fail
    have S1 := Lib.hid (S0.out.far ((KF.refl w).drewN nq))
    go_loopg [16] (l - m) (fun gh i wr => ∃ (k : Nat) (qk : List PV), k ≤ l - m ∧ l - m - k ≤ gh ∧ i = .int .i64 k ∧ CSt w g (.slice (some ⟨gp, 0, none⟩) l c0) qs d picks k wr qk)
    case atStart => exact ⟨0, qs, by omega, by omega, rfl, S1.out⟩
    case round =>
      obtain ⟨k, qk, hk, hgk, rfl, hS⟩ := hrel
      have HS := Lib.hid hS
      rcases Nat.lt_or_ge k (l - m) with hlt | hge
      · have hlt' : (k : Int) < ((l - m : Nat) : Int) := by omega
        have hlt2 : (k : Int) < (l : Int) - (m : Int) := by omega
        have hkl : m + k < qk.length := by rw [hS.pre.held.1, crashI_length]; exact HLM.out k hlt
        obtain ⟨q, hq⟩ : ∃ q, qk[m + k]? = some q := ⟨_, List.getElem?_eq_getElem hkl⟩
        obtain ⟨n0, n1⟩ := hS.pre.row.at2 hq
        rw [show (m + k) * 2 = m * 2 + k * 2 by omega] at n0 n1
        have hwz : wr.heap.size ≥ w.heap.size := hS.keep.size
        obtain ⟨wX, hwX⟩ : ∃ wX, wr.alloc (.cells #[.int .u8 (q.st : Int), .slice q.A q.n q.c] 52) = wX := ⟨_, rfl⟩
        have kX : KF wr wX := by rw [← hwX]; exact (KF.refl wr).alloc _
        have bX : wX.heap[wr.heap.size]? = some (.cells #[.int .u8 (q.st : Int), .slice q.A q.n q.c] 52 (0, 0)) := by rw [← hwX]; exact heap_alloc_new wr _
        have hpX : wr.heap.size < wX.heap.size := lt_of_block bX
        have HX := Lib.hid fun W (kk : KF wX W) => show W.cell? ⟨g, 1, none⟩ = some (.slice (some ⟨gp, 0, none⟩) l c0) ∧ W.cell? ⟨g, 2, none⟩ = some (.int .i64 (m : Int)) ∧ W.cell? ⟨wr.heap.size, 0, none⟩ = some (.int .u8 (q.st : Int)) ∧ W.cell? ⟨wr.heap.size, 1, none⟩ = some (.slice q.A q.n q.c) from by
          have hP := (hS.far (KF.trans kX kk)).pre.cells
          have hb := (kk.block _ hpX (fun h => h)).trans bX
          refine ⟨hP.2.1, by rw [← HM.out]; exact hP.2.2, ?_, ?_⟩ <;> simp [World.cell?, hb]
        have HF := Lib.hid fun W (kk : KF wX W) => show W.frozen? ⟨gp, (m + k) * 2, none⟩ = false ∧ W.frozen? ⟨gp, (m + k) * 2 + 1, none⟩ = false ∧ W.cell? ⟨gp, (m + k) * 2, none⟩ = some (.int .u8 (q.st : Int)) ∧ W.cell? ⟨gp, (m + k) * 2 + 1, none⟩ = some (.slice q.A q.n q.c) from by
          have hR := (hS.far (KF.trans kX kk)).pre.row
          exact ⟨hR.frozenAt _, hR.frozenAt _, (hR.at2 hq).1, (hR.at2 hq).2⟩
        have PKk : Hid (∀ W, KF wX W → Calls Try.prog 24 #[.slice A n c, .int .i64 (k : Int)] W fun e w' => e = .returned (.int .u8 ((pickN picks k : Nat) : Int)) ∧ W = w') := Lib.hid fun W kk => PK.out W k ((hS.far (KF.trans kX kk)).keep) (by omega)
        obtain ⟨qv, hqv⟩ : ∃ qv, crashV q (pickN picks k) = qv := ⟨_, rfl⟩
        have CR : Hid (∀ W, Calls Try.prog 23 #[.agg #[.int .u8 (q.st : Int), .slice q.A q.n q.c], .int .u8 ((pickN picks k : Nat) : Int)] W fun e w' => e = .returned (.agg #[.int .u8 (qv.st : Int), .slice qv.A qv.n qv.c]) ∧ KF W w') := Lib.hid fun W => (crashed_any q.st q.A q.n q.c _ W (pickN_lt _ _)).mono (fun e w' h => by
          rw [← hqv]
          unfold crashV
          obtain ⟨rfl, kk⟩ := h
          refine ⟨?_, kk⟩
          split <;> rfl)
        have NXT : Hid (∀ W, KF wX W → CSt w g (.slice (some ⟨gp, 0, none⟩) l c0) qs d picks (k + 1) ((W.setCell ⟨gp, (m + k) * 2, none⟩ (.int .u8 (qv.st : Int))).setCell ⟨gp, (m + k) * 2 + 1, none⟩ (.slice qv.A qv.n qv.c)) (qk.set (m + k) qv)) := Lib.hid fun W kk => by
          have h1 := (hS.far (KF.trans kX kk)).step (by rw [HM.out]; exact HLM.out k hlt) (by rw [HM.out]; exact hq)
          rw [HM.out, hqv] at h1
          exact h1
        have HWX := Lib.hid hwX
        have hmk : IntKind.i64.wrap ((m : Int) + (k : Int)) = ((m + k : Nat) : Int) := by rw [IntKind.wrap_i64]; omega
        have hmkl : m + k < l := by omega
        have hi1 : (m : Int) + (k : Int) < (l : Int) := by omega
        have hi2 : 0 ≤ (m : Int) + (k : Int) := by omega
        have hi3 : ((m : Int) + (k : Int)).toNat = m + k := by omega
        have hi4 : ((m + k : Nat) : Int) < (l : Int) := by omega
        generalize pickN picks k = t at *
        clear hS HS hq hqv hkl bX hwX S1 S0 PK
        obtain ⟨pb, hpb⟩ : ∃ pb, wr.heap.size = pb := ⟨_, rfl⟩
        rw [hpb] at HX hpX hwz
        have HPB := Lib.hid hpb
        clear hpb
        have hgpb : gp ≠ pb := by omega
        have hpbg : pb ≠ gp := by omega
        have hggp : g ≠ gp := fun e => hgpg e.symm
        go_upto_region 3 with fail
        rw [HWX.out, HPB.out]
        clear HWX HPB
        obtain ⟨x1, x2, x3, x4⟩ := HX.out wX (KF.refl _)
        go_region_held3 (fun W => W.cell? ⟨g, 1, none⟩ = some (.slice (some ⟨gp, 0, none⟩) l c0) ∧ W.cell? ⟨g, 2, none⟩ = some (.int .i64 (m : Int)) ∧ W.cell? ⟨pb, 0, none⟩ = some (.int .u8 (q.st : Int)) ∧ W.cell? ⟨pb, 1, none⟩ = some (.slice q.A q.n q.c))
          (first | exact HX.out _ (KF.refl _) | exact HX.out _ (KF.refl _).drew | exact HX.out _ (by assumption) | go_keep)
          (first
            | (go_at_call 24; refine (PKk.out _ ?_).mono ?_; (first | exact (KF.refl _).drew | exact KF.refl _); rintro e w5 ⟨rfl, rfl⟩)
            | (go_at_call 23; refine (CR.out _).mono ?_; rintro e w6 ⟨rfl, k6⟩; have k66 : KF wX w6 := KF.trans (by first | exact (KF.refl _).drew | exact KF.refl _) k6; obtain ⟨y1, y2, y3, y4⟩ := HF.out w6 k66))
        all_goals
          go_wp2_with fail
          go_roundg (l - m - (k + 1))
          case measure => omega
          case rel => exact ⟨k + 1, _, by omega, by omega, by go_num, NXT.out _ k66⟩
      · obtain rfl : k = l - m := by omega
        have hlt' : ¬ ((l - m : Nat) : Int) < ((l - m : Nat) : Int) := by omega
        have CE := Lib.hid (FIN.out _ _ hS)
        go_wp2_with fail
        refine CE.out.mono ?_
        rintro e w2 ⟨rfl, C2⟩
        have HC2 := Lib.hid C2
        clear C2 CE
        go_wp2_with fail
        refine HC2.out.mono ?_
        rintro e w3 ⟨rfl, hq⟩
        go_wp2_with fail
        go_end0
        exact hq
  · obtain rfl : m = l := by omega
    have hz : IntKind.i64.wrap ((m : Int) - (m : Int)) = 0 := by rw [IntKind.wrap_i64]; omega
    rw [Nat.sub_self] at FIN
    have FZ := Lib.hid fun (nq : Nat) => FIN.out (w.drewN nq) qs (S0.out.far ((KF.refl w).drewN nq))
    clear FIN
    by_cases hcm : c0 = m
    · subst hcm
      go_enter Try.func13, Try.ntmps13
      go_wp2_with fail
      go_quiet (fail)
      go_wp2_with fail
      have FZ2 := Lib.hid (FZ.out nq)
      go_loopg [16] 1 (fun gh i wr => i = .int .i64 0 ∧ wr = w.drewN nq)
      case atStart => exact ⟨rfl, rfl⟩
      case round =>
        obtain ⟨rfl, rfl⟩ := hrel
        go_wp2_with fail
        refine FZ2.out.mono ?_
        rintro e w2 ⟨rfl, C2⟩
        have HC2 := Lib.hid C2
        clear C2
        go_wp2_with fail
        refine HC2.out.mono ?_
        rintro e w3 ⟨rfl, hq⟩
        go_wp2_with fail
        go_end0
        exact hq
    · go_enter Try.func13, Try.ntmps13
      go_wp2_with fail
      go_quiet (fail)
      go_wp2_with fail
      have FZ2 := Lib.hid (FZ.out nq)
      go_loopg [16] 1 (fun gh i wr => i = .int .i64 0 ∧ wr = w.drewN nq)
      case atStart => exact ⟨rfl, rfl⟩
      case round =>
        obtain ⟨rfl, rfl⟩ := hrel
        go_wp2_with fail
        refine FZ2.out.mono ?_
        rintro e w2 ⟨rfl, C2⟩
        have HC2 := Lib.hid C2
        clear C2
        go_wp2_with fail
        refine HC2.out.mono ?_
        rintro e w3 ⟨rfl, hq⟩
        go_wp2_with fail
        go_end0
        exact hq
/-- What Twin gives. -/
structure TwinOf (w : World) (qs : List PV) (d : Dv) (g' : Nat) (v' : Value) (w' : World) : Prop where
  dev : DevAt w' g' v' qs d.sync
  keep : KF w w'
  new : w.heap.size ≤ g'
  nb : NB w v'
set_option maxHeartbeats 1000000 in
theorem dtwin_any {g : Nat} {v : Value} {qs : List PV} {d : Dv} (w : World) (h : DevAt w g v qs d) :
    Calls Try.prog 17 #[.pointer (some ⟨g, 0, none⟩)] w fun e w' => ∃ g' v', e = .returned (.pointer (some ⟨g', 0, none⟩)) ∧ TwinOf w qs d g' v' w' := by
  obtain ⟨A, c, rfl, _, _, _, _⟩ := h.shape
  have hlq := h.len
  have HC := Lib.hid fun W (k : KF w W) => pclone_any (.slice A d.pages.length c) qs W (h.far k).row (by have := h.good.room; have := h.room; omega)
  have HX := Lib.hid fun W (k : KF w W) => (h.far k).cells
  obtain ⟨c0, c1, c2⟩ := h.cells
  have FIN : Hid (∀ w5 A' c', KF w w5 → OwnC 52 2 encP w5 (.slice A' qs.length c') qs → NB w (.slice A' qs.length c') → TwinOf w qs d w5.heap.size (.slice A' qs.length c') (w5.alloc (.cells #[.int .i64 (d.room : Int), .slice A' qs.length c', .int .i64 (d.pages.length : Int)] 45))) := Lib.hid fun w5 A' c' k o nb =>
    ⟨⟨heap_alloc_new w5 _, o.alloc _, (h.held.kept k (fun _ _ _ _ h => h)).kept ((KF.refl w5).alloc _) (fun _ _ _ _ h => h), h.good.sync, h.room, h.short⟩, Keep.alloc k _, k.size, nb⟩
  clear h
  generalize TwinOf w qs d = D at *
  generalize d.pages.length = l at *
  generalize d.last = m at *
  generalize d.room = r at *
  rw [hlq] at HC FIN
  clear hlq
  go_enter Try.func17, Try.ntmps17
  go_wp2_with fail
  go_region_held3 (fun W => W.cell? ⟨g, 0, none⟩ = some (.int .i64 (r : Int)) ∧ W.cell? ⟨g, 1, none⟩ = some (.slice A l c) ∧ W.cell? ⟨g, 2, none⟩ = some (.int .i64 (m : Int)))
    (first | exact HX.out _ (KF.refl _) | exact HX.out _ (KF.refl _).drew | exact HX.out _ k5 | exact HX.out _ (Keep.alloc k5 _) | go_keep)
    (first
      | (go_at_call 26; refine (HC.out _ ?_).mono ?_; (first | exact (KF.refl _).drew | exact KF.refl _); rintro e w5 ⟨A5, c5, rfl, o5, nb5, k50⟩; have k5 := KF.trans (by first | exact (KF.refl w).drew | exact KF.refl w) k50))
  all_goals
    go_wp2_with fail
    go_ret
    exact ⟨_, _, rfl, FIN.out _ _ _ k5 o5 nb5⟩
end Go.Proofs.Ytncenfgnhamdbaa
