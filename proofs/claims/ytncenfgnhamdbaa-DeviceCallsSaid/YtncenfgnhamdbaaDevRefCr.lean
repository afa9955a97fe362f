/-
  WALKS of the document's Crash and Whole.
-/
import Derived.Test.YtncenfgnhamdbaaDevRefOps
namespace Go.Proofs.Ytncenfgnhamdbaa
open Go.RowKit

theorem RDid.behind {w w1 : World} {g : Nat} {v v1 : Value} {qs qs1 : List QV} {R1 R' : List RPg} {r : Value} {e : Ending} {w' : World} (h : RLeft w g v qs R1 v1 qs1 w1) (hv : v1.ownBlock = v.ownBlock) (k : RDid w1 g v1 qs1 R' r e w') : RDid w g v qs R' r e w' := by
  obtain ⟨he, v', qs', l⟩ := k
  refine ⟨he, v', qs', l.dev, Keep.trans h.keep l.keep (fun i hi e => ?_), fun i hi => ?_⟩
  · rcases e with rfl | e
    · exact .inl rfl
    · exact .inr (hv ▸ e)
  · rcases l.foot i hi with h1 | h1
    · exact h.foot i h1
    · exact .inr (Nat.le_trans h.keep.size h1)
set_option maxHeartbeats 2000000 in
theorem rcrash8 {g : Nat} {v : Value} {qs : List QV} {R : List RPg} (A : Option Addr) (picks : List UInt8) (n c : Nat) (w : World) (h : RAt w g v qs R) (hn : n = picks.length) (hb : n ≤ 1000000) (hr : Rd w w.heap.size A picks) (hsep : ∀ a : Addr, A = some a → picks ≠ [] → ¬ RS g v a.block) :
    Calls Try.prog 14 #[.pointer (some ⟨g, 0, none⟩), .slice A n c] w (RDid w g v qs (rCrash picks R) (.tuple #[])) := by
  obtain ⟨A0, c0, rfl, hc1, hc2, hA⟩ := h.shape
  have hfew := h.few
  have H0 := Lib.hid (RLeft.refl h)
  have HA := Lib.hid hA
  have FIN : Hid (∀ wr qk, RLeft w g (.slice A0 R.length c0) qs (upto (fcrash picks R) R.length R) (.slice A0 R.length c0) qk wr → Calls Try.prog 12 #[.pointer (some ⟨g, 0, none⟩)] wr fun e w' => e = .returned (.tuple #[]) ∧ RDid w g (.slice A0 R.length c0) qs (rCrash picks R) (.tuple #[]) (.returned (.tuple #[])) w') := Lib.hid fun wr qk hl => (rsync8 wr hl.dev).mono fun e w' hd => ⟨hd.1, by
    have h1 := hd.1
    subst h1
    exact RDid.behind hl rfl hd⟩
  have PK := Lib.hid fun W (kk : Keep (RS g (.slice A0 R.length c0)) w W) => show Rd W w.heap.size A picks from by
    by_cases hp : picks = []
    · rw [hp]; exact Rd.nil
    · exact hr.keepS (Nat.le_refl _) kk (fun a ha => hsep a ha hp)
  clear h hA hr
  generalize hQ : RDid w g (.slice A0 R.length c0) qs (rCrash picks R) (.tuple #[]) = Q at *
  clear hQ
  obtain ⟨l, hl⟩ : ∃ l, R.length = l := ⟨_, rfl⟩
  rw [hl] at hc1 hfew H0 HA FIN PK
  have HL := Lib.hid hl
  have HN := Lib.hid hn
  clear hl hn hsep
  go_enter Try.func14, Try.ntmps14
  go_wp2_with fail
  go_loopg [4, 5] l (fun gh s4 s5 wr => ∃ (k : Nat) (qk : List QV), k ≤ l ∧ l - k ≤ gh ∧ s4 = .int .i64 (cnt R k : Nat) ∧ s5 = .int .i64 k ∧ RLeft w g (.slice A0 l c0) qs (upto (fcrash picks R) k R) (.slice A0 l c0) qk wr)
  case atStart => exact ⟨0, qs, by omega, by omega, by simp [cnt], rfl, by rw [upto_zero]; exact H0.out⟩
  case round =>
    obtain ⟨k, qk, hk, hgk, rfl, rfl, hS⟩ := hrel
    have hcg := hS.dev.cell
    rcases Nat.lt_or_ge k l with hlt | hge
    · have hlt' : (k : Int) < (l : Int) := by omega
      obtain ⟨gp, rfl⟩ := HA.out (by omega)
      have hkR : k < R.length := by rw [HL.out]; exact hlt
      have hr := upto_at (f := fcrash picks R) hkR
      obtain ⟨q, hq, h1, h2, h3, n0, n1, n2⟩ := hS.dev.at_ hr
      have hcs := cnt_succ R k hkR
      have hcle := cnt_le R k
      have hw1 : IntKind.i64.wrap ((k : Int) + 1) = ((k + 1 : Nat) : Int) := by rw [IntKind.wrap_i64]; omega
      by_cases hz : (R[k]'hkR).st = 0
      · have hel : elig (R[k]'hkR) = false := by simp [elig, hz]
        have e : upto (fcrash picks R) (k + 1) R = upto (fcrash picks R) k R := upto_same hkR (by unfold fcrash; rw [hel]; rfl)
        rw [hel, if_neg (by decide), Nat.add_zero] at hcs
        have hb0 : (q.st : Int) = 0 := by rw [h1, hz]; rfl
        have NX : Hid (RLeft w g (.slice (some ⟨gp, 0, none⟩) l c0) qs (upto (fcrash picks R) (k + 1) R) (.slice (some ⟨gp, 0, none⟩) l c0) qk wr) := Lib.hid (by rw [e]; exact hS)
        have HC := Lib.hid hcs
        rw [hb0] at n0
        clear hS hr hq h1 h2 h3 hz hel e hcs hb0
        go_wp2_with fail
        go_roundg (l - (k + 1))
        case measure => omega
        case rel => exact ⟨k + 1, _, by omega, by omega, by rw [HC.out]; rfl, by go_num, NX.out⟩
      by_cases hla : (R[k]'hkR).lasts = true
      · have hel : elig (R[k]'hkR) = false := by simp [elig, hla]
        have e : upto (fcrash picks R) (k + 1) R = upto (fcrash picks R) k R := upto_same hkR (by unfold fcrash; rw [hel]; rfl)
        rw [hel, if_neg (by decide), Nat.add_zero] at hcs
        have hb0 : ((q.st : Int) == 0) = false := by rw [h1]; simp; omega
        have NX : Hid (RLeft w g (.slice (some ⟨gp, 0, none⟩) l c0) qs (upto (fcrash picks R) (k + 1) R) (.slice (some ⟨gp, 0, none⟩) l c0) qk wr) := Lib.hid (by rw [e]; exact hS)
        have HC := Lib.hid hcs
        rw [h2, hla] at n2
        clear hS hr hq h1 h2 h3 hz hla hel e hcs
        go_wp2_with fail
        go_roundg (l - (k + 1))
        case measure => omega
        case rel => exact ⟨k + 1, _, by omega, by omega, by rw [HC.out]; rfl, by go_num, NX.out⟩
      · have hla' : (R[k]'hkR).lasts = false := by simpa using hla
        have hel : elig (R[k]'hkR) = true := by simp [elig, hz, hla']
        rw [hel, if_pos rfl] at hcs
        have hb0 : ((q.st : Int) == 0) = false := by rw [h1]; simp; omega
        rw [h2, hla'] at n2
        obtain ⟨t, ht⟩ : ∃ t, pickN picks (cnt R k) = t := ⟨_, rfl⟩
        have hcnt : IntKind.i64.wrap (((cnt R k : Nat) : Int) + 1) = ((cnt R k + 1 : Nat) : Int) := by rw [IntKind.wrap_i64]; omega
        have HC := Lib.hid hcs
        have SAME : Hid (t = 1 → RLeft w g (.slice (some ⟨gp, 0, none⟩) l c0) qs (upto (fcrash picks R) (k + 1) R) (.slice (some ⟨gp, 0, none⟩) l c0) qk wr) := Lib.hid fun h1t => by
          have e : upto (fcrash picks R) (k + 1) R = upto (fcrash picks R) k R := upto_same hkR (by unfold fcrash crashR; rw [hel, if_pos rfl, ht, if_pos h1t])
          rw [e]; exact hS
        have STORE : Hid (t ≠ 1 → RLeft w g (.slice (some ⟨gp, 0, none⟩) l c0) qs (upto (fcrash picks R) (k + 1) R) (.slice (some ⟨gp, 0, none⟩) l c0) (qk.set k ⟨t, none, 0, 0, false⟩) (((wr.setCell ⟨gp, k * 3, none⟩ (.int .i64 (t : Int))).setCell ⟨gp, k * 3 + 1, none⟩ (.slice none 0 0)).setCell ⟨gp, k * 3 + 2, none⟩ (.bool false))) := Lib.hid fun h1t => by
          obtain ⟨hs, hkp⟩ := hS.dev.set k (by rw [upto_length]; exact hkR) ⟨t, none, 0, 0, false⟩ ⟨t, [], false⟩ rfl rfl (Own.nil _ _) (Nat.zero_le _)
          have e : (upto (fcrash picks R) k R).set k ⟨t, [], false⟩ = upto (fcrash picks R) (k + 1) R := by
            rw [upto_step hkR]
            unfold fcrash crashR
            rw [hel, if_pos rfl, ht, if_neg h1t]
          rw [e] at hs
          refine hS.step hs hkp (fun q' hq' i hi => ?_)
          rcases List.mem_or_eq_of_mem_set hq' with hm | rfl
          · exact ⟨q', hm, hi⟩
          · simp [QV.e1, Value.ownBlock] at hi
        have f0 := hS.dev.row.frozenAt (k * 3)
        have f1 := hS.dev.row.frozenAt (k * 3 + 1)
        have f2 := hS.dev.row.frozenAt (k * 3 + 2)
        have hgne2 : g ≠ gp := fun e => hS.dev.gp_ne e.symm
        have hrd := PK.out wr hS.keep
        by_cases hn0 : n = 0
        · have ht0 : t = 0 := by rw [← ht]; unfold pickN; rw [if_pos (by rw [← HN.out]; exact hn0)]
          subst ht0
          have ST := Lib.hid (STORE.out (by decide))
          subst hn0
          clear hS hr hq h1 h2 h3 hz hla hel hcs ht SAME STORE hrd
          generalize cnt R k = ck at *
          go_wp2_with fail
          go_roundg (l - (k + 1))
          case measure => omega
          case rel => exact ⟨k + 1, _, by omega, by omega, by rw [HC.out]; go_num, by go_num, ST.out⟩
        · have hm : cnt R k % n < picks.length := by rw [← HN.out]; exact Nat.mod_lt _ (by omega)
          have hpk : t = (picks[cnt R k % n]'hm).toNat % 3 := by
            rw [← ht]
            unfold pickN
            rw [if_neg (by rw [← HN.out]; exact hn0), ← HN.out, List.getD_eq_getElem?_getD, List.getElem?_eq_getElem hm]
            rfl
          obtain ⟨a, rfl, _, hc⟩ := hrd.cells hm
          have hx : (picks[cnt R k % n]'hm).toNat < 256 := UInt8.toNat_lt _
          have hmn : cnt R k % n < n := Nat.mod_lt _ (by omega)
          have hmn' : ((cnt R k % n : Nat) : Int) < (n : Int) := by omega
          have hnp : (0 : Int) < (n : Int) := by omega
          generalize (picks[cnt R k % n]'hm).toNat = x at *
          have t1 : Int.tmod ((cnt R k : Nat) : Int) (n : Int) = ((cnt R k % n : Nat) : Int) := by rw [Int.tmod_eq_emod_of_nonneg (by omega)]; rfl
          have t2 : Int.tmod (x : Int) 3 = (t : Int) := by rw [Int.tmod_eq_emod_of_nonneg (by omega), hpk]; rfl
          have t3 : IntKind.i64.wrap (x : Int) = (x : Int) := by rw [IntKind.wrap_i64]; omega
          have t4 : IntKind.i64.wrap (((cnt R k % n : Nat)) : Int) = ((cnt R k % n : Nat) : Int) := by rw [IntKind.wrap_i64]; omega
          clear hm hpk hS hr hq h1 h2 h3 hz hla hel hcs ht hrd
          generalize cnt R k % n = m at *
          generalize cnt R k = ck at *
          by_cases h1t : t = 1
          · have ST := Lib.hid (SAME.out h1t)
            subst h1t
            clear SAME STORE
            go_wp2_with fail
            go_roundg (l - (k + 1))
            case measure => omega
            case rel => exact ⟨k + 1, _, by omega, by omega, by rw [HC.out]; go_num, by go_num, ST.out⟩
          · have ST := Lib.hid (STORE.out h1t)
            have hne1 : ((t : Int) != 1) = true := by simp; omega
            clear SAME STORE
            go_wp2_with fail
            go_roundg (l - (k + 1))
            case measure => omega
            case rel => exact ⟨k + 1, _, by omega, by omega, by rw [HC.out]; go_num, by go_num, ST.out⟩
    · obtain rfl : k = l := by omega
      have hlt' : ¬ (k : Int) < (k : Int) := by omega
      have CE := Lib.hid (FIN.out _ _ hS)
      clear hS
      go_wp2_with fail
      refine CE.out.mono ?_
      rintro e w3 ⟨rfl, hq⟩
      go_wp2_with fail
      go_end0
      exact hq
theorem rWhole_snoc (xs : List RPg) (r : RPg) : rWhole (xs ++ [r]) = rWhole xs ++ (if r.st = 1 then [r.by_] else []) := by
  by_cases h : r.st = 1
  · rw [if_pos h]; simp [rWhole, h]
  · rw [if_neg h]; simp [rWhole, h]
/-- Rows that are read, as they stand in a row of rows. -/
def RwR (w : World) (rs : List RV) (ls : List (List UInt8)) : Prop := rs.length = ls.length ∧ ∀ (j : Nat) (r : RV) (l : List UInt8), rs[j]? = some r → ls[j]? = some l → Own 5 w r.val l
theorem RwR.far {w w' : World} {rs : List RV} {ls : List (List UInt8)} (h : RwR w rs ls) (k : KF w w') : RwR w' rs ls := ⟨h.1, fun j r l hr hl => (h.2 j r l hr hl).kept k (fun _ _ h => h)⟩
theorem RwR.snoc {w : World} {rs : List RV} {ls : List (List UInt8)} (h : RwR w rs ls) {r : RV} {l : List UInt8} (ho : Own 5 w r.val l) : RwR w (rs ++ [r]) (ls ++ [l]) := by
  refine ⟨by rw [List.length_append, List.length_append, h.1]; rfl, fun j r' l' hr hl => ?_⟩
  rcases Nat.lt_or_ge j rs.length with hj | hj
  · rw [List.getElem?_append_left hj] at hr
    rw [List.getElem?_append_left (by rw [← h.1]; exact hj)] at hl
    exact h.2 j r' l' hr hl
  · rw [List.getElem?_append_right hj] at hr
    rw [List.getElem?_append_right (by rw [← h.1]; exact hj), ← h.1] at hl
    have hj0 : j - rs.length = 0 := by
      rcases Nat.eq_zero_or_pos (j - rs.length) with h' | h'
      · exact h'
      · rw [List.getElem?_eq_none (by simp; omega)] at hr; cases hr
    rw [hj0] at hr hl
    injection hr with hr
    injection hl with hl
    subst hr hl
    exact ho
theorem RwR.rows {X : World} {rs : List RV} {ls : List (List UInt8)} {A : Option Addr} {n c : Nat} (o : OwnC 31 1 encR X (.slice A n c) rs) (hr : RwR X rs ls) : n = ls.length ∧ RdS X 0 X.heap.size A ls := by
  obtain ⟨A', c', e, h1, h2, hR, hA⟩ := o.shape encR_len
  injection e with e e2 e3
  subst e e2 e3
  refine ⟨hr.1, fun j l hl => ?_⟩
  have hlt : j < rs.length := by rw [hr.1]; exact (List.getElem?_eq_some_iff.1 hl).1
  obtain ⟨b, oo, rfl, hb, hcell⟩ := hR j _ (List.getElem?_eq_getElem hlt)
  have ho := hr.2 j _ l (List.getElem?_eq_getElem hlt) hl
  generalize rs[j] = r at *
  have hc := hcell 0 _ rfl
  rw [Nat.mul_one, Nat.add_zero] at hc
  obtain ⟨A2, c2, e, q1, q2, q3, q4⟩ := ho.shape
  unfold RV.val at hc e
  injection e with e4 e5 e6
  rw [e4, e5, e6] at hc
  exact ⟨b, oo, A2, c2, rfl, Nat.zero_le _, hb, hc, q1, q2, q3, fun _ _ _ => Nat.zero_le _⟩
def WholeP (w : World) (R : List RPg) (e : Ending) (w' : World) : Prop := ∃ A n c, e = .returned (.slice A n c) ∧ (n = (rWhole R).length ∧ RdS w' 0 w'.heap.size A (rWhole R)) ∧ KF w w'
set_option maxHeartbeats 1000000 in
theorem rwhole8 {g : Nat} {v : Value} {qs : List QV} {R : List RPg} (w : World) (h : RAt w g v qs R) :
    Calls Try.prog 20 #[.pointer (some ⟨g, 0, none⟩)] w (WholeP w R) := by
  obtain ⟨A0, c0, rfl, hc1, hc2, hA⟩ := h.shape
  have hfew := h.few
  have HD := Lib.hid h
  have HA := Lib.hid hA
  clear h hA
  obtain ⟨l, hl⟩ : ∃ l, R.length = l := ⟨_, rfl⟩
  rw [hl] at hc1 hfew HD HA
  have HL := Lib.hid hl
  clear hl
  have h0 := HD.out.cell
  go_enter Try.func20, Try.ntmps20
  go_wp2_with fail
  go_loopg [3, 4] l (fun gh s3 s4 wr => ∃ (k : Nat) (A1 : Option Addr) (n1 c1 : Nat) (rs : List RV), k ≤ l ∧ l - k ≤ gh ∧ s3 = .slice A1 n1 c1 ∧ s4 = .int .i64 k ∧ OwnC 31 1 encR wr (.slice A1 n1 c1) rs ∧ NB w (.slice A1 n1 c1) ∧ Hid (RwR wr rs (rWhole (R.take k))) ∧ KF w wr)
  case atStart => exact ⟨0, _, _, _, [], by omega, by omega, rfl, rfl, OwnC.empty _ _, NB.new (Nat.le_refl _) _ _, Lib.hid ⟨rfl, fun j r l hr => by simp at hr⟩, (KF.refl _).alloc _⟩
  case round =>
    obtain ⟨k, A1, n1, c1, rs, hk, hgk, rfl, rfl, ho, hnb, HR, kr⟩ := hrel
    have hcg := (HD.out.far kr).cell
    rcases Nat.lt_or_ge k l with hlt | hge
    · have hlt' : (k : Int) < (l : Int) := by omega
      obtain ⟨gp, rfl⟩ := HA.out (by omega)
      have hkR : k < R.length := by rw [HL.out]; exact hlt
      obtain ⟨q, hq, h1, _, h3, n0, nn1, n2⟩ := (HD.out.far kr).at_ (List.getElem?_eq_getElem hkR)
      have hsn := rWhole_snoc (R.take k) (R[k]'hkR)
      rw [← List.take_succ_eq_append_getElem hkR] at hsn
      by_cases hs : (R[k]'hkR).st = 1
      · have e1 : (q.st : Int) = 1 := by rw [h1, hs]; rfl
        rw [e1] at n0
        rw [if_pos hs] at hsn
        have hrl : rs.length ≤ 200 := by
          have hx : (rWhole (R.take k)).length ≤ (R.take k).length := by simp only [rWhole, List.length_map]; exact List.length_filter_le _ _
          rw [HR.out.1]
          rw [List.length_take] at hx
          omega
        have HB1 : Hid (∀ q : RV, (rs.length + [q].length) * 24 ≤ 140737488355328) := Lib.hid fun q => by simp only [List.length_cons, List.length_nil]; omega
        have HB2 : Hid (∀ q : RV, rs.length + [q].length ≤ 1000000000) := Lib.hid fun q => by simp only [List.length_cons, List.length_nil]; omega
        have HO3 := Lib.hid h3
        have HSN := Lib.hid hsn
        clear h1 h3 hs hsn hq
        go_wp2_with (at_builtin; refine wpList_append_c _ rfl _ _ _ rfl ctRow encR_len encR_one (by decide) _ rs rfl (ho.alloc _) (wr.heap.size + 1) (some ⟨wr.heap.size, 0, none⟩) 1 1 [⟨q.A, q.n, q.c⟩] rfl rfl (RdC.lit encR_len wr 31 ⟨q.A, q.n, q.c⟩) (HB1.out _) (HB2.out _) ?_; intro A4 n4 c4 w4 o4 e4 h4 m4 g4 f4)
        have k4 := (kr.alloc (.cells #[.slice q.A q.n q.c] 31)).own g4 hnb
        have nb4 := hnb.next (Nat.le_trans kr.size (by simp)) f4
        have HR4 : Hid (RwR w4 (rs ++ [⟨q.A, q.n, q.c⟩]) (rWhole (R.take (k + 1)))) := Lib.hid (by
          have kk : Keep (fun i => (Value.slice A1 n1 c1).ownBlock = some i) wr w4 := Keep.grown ((Keep.refl _ wr).alloc _) g4 (fun i e _ => e)
          have hne : ∀ {val : Value} {l : List UInt8}, Own 5 wr val l → ∀ i, val.ownBlock = some i → ¬ (Value.slice A1 n1 c1).ownBlock = some i := fun hov i hi e => by
            obtain ⟨cs, e'⟩ := ho.cells_ e
            exact hov.ne_ e' (by decide) hi
          rw [HSN.out]
          refine RwR.snoc ⟨HR.out.1, fun j r l hr hl => ?_⟩ (HO3.out.kept kk (hne HO3.out))
          have hov := HR.out.2 j r l hr hl
          exact hov.kept kk (hne hov))
        clear HR HO3 g4 f4 e4
        go_roundg (l - (k + 1))
        case measure => omega
        case rel => exact ⟨k + 1, _, _, _, _, by omega, by omega, rfl, by go_num, o4, nb4, HR4, k4⟩
      · have e1 : ((q.st : Int) == 1) = false := by rw [h1]; simp; omega
        rw [if_neg hs, List.append_nil] at hsn
        have HR4 : Hid (RwR wr rs (rWhole (R.take (k + 1)))) := Lib.hid (by rw [hsn]; exact HR.out)
        clear h1 h3 hs hsn hq HR
        go_wp2_with fail
        go_roundg (l - (k + 1))
        case measure => omega
        case rel => exact ⟨k + 1, _, _, _, _, by omega, by omega, rfl, by go_num, ho, hnb, HR4, kr⟩
    · obtain rfl : k = l := by omega
      have hlt' : ¬ (k : Int) < (k : Int) := by omega
      have hall : R.take k = R := List.take_of_length_le (by rw [HL.out]; exact Nat.le_refl _)
      rw [hall] at HR
      have FIN := Lib.hid (RwR.rows ho HR.out)
      clear ho hnb HR hall
      go_wp2_with fail
      go_ret
      exact ⟨A1, n1, c1, rfl, FIN.out, kr⟩
end Go.Proofs.Ytncenfgnhamdbaa
