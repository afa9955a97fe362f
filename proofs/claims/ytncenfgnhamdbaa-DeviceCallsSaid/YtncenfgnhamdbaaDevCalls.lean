/-
  DeviceCalls, walked. Made by wip/tools/dev/calls.py: its tail stands once for each kind of call.
-/
import Derived.Test.YtncenfgnhamdbaaDevCallA
namespace Go.Proofs.Ytncenfgnhamdbaa
open Go.RowKit

/-- Rows that were given; what was there ahead of this call, and ahead of all of them, is as it was. -/
def RowQ (wB w : World) (ls : List (List UInt8)) (e : Ending) (w' : World) : Prop := ∃ A n c, e = .returned (.slice A n c) ∧ Hid (n = ls.length ∧ RdS w' 0 w'.heap.size A ls) ∧ KF w w' ∧ KF wB w'
theorem p3_new {a w2 w3 : World} {g gr n : Nat} (h : M a w2 g ⟨n, [], 0⟩) (hr : RAt w3 gr (.slice (some ⟨w2.heap.size, 0, none⟩) n n) (List.replicate n qZero) (List.replicate n rZero)) (hg : gr = w2.heap.size + 1) (k : KF w2 w3) : P3 No a w3 g ⟨n, [], 0⟩ gr (refOf ⟨n, [], 0⟩) := by
  obtain ⟨v, qs, h⟩ := h
  have hs := h.keep.size
  refine ⟨v, qs, _, _, h.dev.far k, by rw [new_ref]; exact hr, KF.trans h.keep k, h.low, ?_, fun _ _ h => h, fun _ _ h => h, fun _ h => h.elim⟩
  rintro i (rfl | hi | ⟨q, hq, hi⟩)
  · omega
  · injection hi with hi
    have hi : w2.heap.size = i := hi
    omega
  · rw [List.mem_replicate] at hq
    rw [hq.2] at hi
    simp [qZero, QV.e1, Value.ownBlock] at hi
set_option maxRecDepth 100000 in
set_option maxHeartbeats 16000000 in
theorem calls_walk (z : Int) (A : Option Addr) (xs : List (Int × List UInt8)) (n c : Nat) (w : World) (hn : n = xs.length) (hr : DCalls w w.heap.size A xs) :
    Calls Try.prog 3 #[.int .i64 z, .slice A n c] w fun e w' => e = .returned (.bool true) ∧ KF w w' := by
  have CS := Lib.hid (speaks8 w)
  by_cases h1 : 100 < n
  · have h1' : (100 : Int) < (n : Int) := by omega
    clear hr hn
    go_enter Try.func3, Try.ntmps3
    go_wp2_with (go_at_call 5; refine CS.out.mono ?_; rintro e w1 ⟨rfl, k1⟩)
    go_ret
    exact ⟨rfl, k1⟩
  have h1' : ¬ (100 : Int) < (n : Int) := by omega
  by_cases hz : z < 1 ∨ 65536 < z
  · have CN := Lib.hid fun W => dnew_no z W hz
    have hb : (decide (z < 1) || decide (65536 < z)) = true := by simp; omega
    clear hr hn
    by_cases hz1 : z < 1
    · clear hz hb
      go_enter Try.func3, Try.ntmps3
      go_wp2_with (first
        | (go_at_call 5; refine CS.out.mono ?_; rintro e w1 ⟨rfl, k1⟩)
        | (go_at_call 6; refine (CN.out _).mono ?_; rintro e w2 ⟨rfl, rfl⟩))
      go_ret
      exact ⟨rfl, k1⟩
    · have hz2 : 65536 < z := hz.resolve_left hz1
      clear hz hb
      go_enter Try.func3, Try.ntmps3
      go_wp2_with (first
        | (go_at_call 5; refine CS.out.mono ?_; rintro e w1 ⟨rfl, k1⟩)
        | (go_at_call 6; refine (CN.out _).mono ?_; rintro e w2 ⟨rfl, rfl⟩))
      go_ret
      exact ⟨rfl, k1⟩
  have hz1 : ¬ z < 1 := fun h => hz (.inl h)
  have hz2 : ¬ 65536 < z := fun h => hz (.inr h)
  clear hz
  obtain ⟨sz, rfl⟩ : ∃ sz : Nat, z = (sz : Int) := ⟨z.toNat, by omega⟩
  have RX := Lib.hid fun W (k : KF w W) => hr.kept k
  have HA : Hid (∀ j x b o A' c', xs[j]? = some x → A = some ⟨b, o, none⟩ → w.cell? ⟨b, o + j * 2 + 1, none⟩ = some (.slice A' x.2.length c') → ∀ ad : Addr, A' = some ad → x.2 ≠ [] → ad.block < w.heap.size) := Lib.hid fun j x b o A' c' hj hA hc ad ha hne => by
    obtain ⟨b2, o2, A2, c2, e, _, _, hc2, _, hrd⟩ := hr j x hj
    rw [hA] at e
    injection e with e
    injection e with e1 e2 _
    subst e1 e2
    rw [hc] at hc2
    injection hc2 with hc2
    injection hc2 with hc2 _ _
    subst hc2
    obtain ⟨a', e, hb⟩ := hrd.some_of (by cases hx : x.2 with | nil => exact absurd hx hne | cons _ _ => exact Nat.succ_pos _)
    rw [ha] at e
    injection e with e
    rw [e]
    exact hb
  have HW0 : Hid (∀ j x W, KF w W → xs[j]? = some x → ∃ b o A' c', A = some ⟨b, o, none⟩ ∧ W.cell? ⟨b, o + j * 2, none⟩ = some (.int .i64 x.1) ∧ W.cell? ⟨b, o + j * 2 + 1, none⟩ = some (.slice A' x.2.length c') ∧ Rd W W.heap.size A' x.2 ∧ ∀ ad : Addr, A' = some ad → x.2 ≠ [] → ad.block < w.heap.size) := Lib.hid fun j x W k hj => by
    obtain ⟨b, o, A', c', hA, hb, q1, q2, _, q4⟩ := hr j x hj
    have q2' := (k.cell (p := ⟨b, o + j * 2 + 1, none⟩) hb).trans q2
    exact ⟨b, o, A', c', hA, (k.cell (p := ⟨b, o + j * 2, none⟩) hb).trans q1, q2', (q4.keepF k (Nat.le_refl _)).more k.size, HA.out j x b o A' c' hj hA q2⟩
  have HN := Lib.hid hn
  clear hr hn RX HA
  by_cases hz3 : 200 < sz
  · have hz3' : (200 : Int) < (sz : Int) := by omega
    go_enter Try.func3, Try.ntmps3
    go_upto_region 5 with (go_at_call 5; refine CS.out.mono ?_; rintro e w1 ⟨rfl, k1⟩)
    have CN := Lib.hid (M.new sz w1 (by omega) (by omega))
    go_upto_region 6 with (go_at_call 6; refine CN.out.mono ?_; rintro e w2 ⟨rfl, D2⟩)
    have CF := Lib.hid D2.free
    have HK := Lib.hid (KF.trans k1 D2.keep)
    have hsub : sz - [].length (α := Pg) = sz := rfl
    clear CN D2
    go_wp2_with (go_at_call 7; refine CF.out.mono ?_; rintro e w3 ⟨rfl, nq, rfl⟩)
    go_ret
    exact ⟨rfl, HK.out.drewN nq⟩
  have hz3' : ¬ (200 : Int) < (sz : Int) := by omega
  go_enter Try.func3, Try.ntmps3
  go_upto_region 5 with (go_at_call 5; refine CS.out.mono ?_; rintro e w1 ⟨rfl, k1⟩)
  clear CS
  have CN := Lib.hid (M.new sz w1 (by omega) (by omega))
  go_upto_region 6 with (go_at_call 6; refine CN.out.mono ?_; rintro e w2 ⟨rfl, D2⟩)
  obtain ⟨g, hg⟩ : ∃ g, w1.heap.size = g := ⟨_, rfl⟩
  rw [hg] at D2
  have HG := Lib.hid hg
  rw [hg]
  clear hg CN
  have CF := Lib.hid D2.free
  have HD2 := Lib.hid D2
  clear D2
  go_upto_region 12 with (go_at_call 7; refine CF.out.mono ?_; rintro e w3 ⟨rfl, nq, rfl⟩)
  have CR := Lib.hid (rnew8 sz (by omega) (w2.drewN nq))
  go_upto_region 13 with (go_at_call 8; refine CR.out.mono ?_; rintro e w4 ⟨rfl, D4, k4⟩)
  obtain ⟨gr, hgr⟩ : ∃ gr, w2.heap.size + 1 = gr := ⟨_, rfl⟩
  have D4 : RAt w4 gr (.slice (some ⟨(w2.drewN nq).heap.size, 0, none⟩) sz sz) (List.replicate sz qZero) (List.replicate sz rZero) := by rw [← hgr]; exact D4
  rw [hgr]
  have P0 : Hid ((⟨sz, [], 0⟩ : Dv).room = sz ∧ P3 No w1 w4 g ⟨sz, [], 0⟩ gr (refOf ⟨sz, [], 0⟩)) := Lib.hid ⟨rfl, p3_new (HD2.out.far ((KF.refl w2).drewN nq)) D4 hgr.symm k4⟩
  clear CR CF D4 hgr k4
  go_wp2_with fail
  go_loopg [53] n (fun gh i wr => ∃ (k : Nat) (d : Dv), k ≤ n ∧ n - k ≤ gh ∧ i = .int .i64 k ∧ Hid (d.room = sz ∧ P3 No w1 wr g d gr (refOf d)))
  case atStart => exact ⟨0, ⟨sz, [], 0⟩, by omega, by omega, rfl, Lib.hid ⟨rfl, P0.out.2⟩⟩
  case round =>
    obtain ⟨k, d, hk, hgk, rfl, HM⟩ := hrel
    have kwr := Lib.hid (KF.trans k1 HM.out.2.keep)
    rcases Nat.lt_or_ge k n with hlt | hge
    · have hlt' : (k : Int) < (n : Int) := by omega
      have hkl : k < xs.length := by rw [← HN.out]; exact hlt
      obtain ⟨x, hx⟩ : ∃ x, xs[k]? = some x := ⟨_, List.getElem?_eq_getElem hkl⟩
      obtain ⟨b, o, A', c', rfl, hc0, hc1, hrd, hA'⟩ := HW0.out k x wr kwr.out hx
      obtain ⟨what, bs⟩ := x
      dsimp only at hc0 hc1 hrd hA'
      obtain ⟨lb, hlb⟩ : ∃ lb, bs.length = lb := ⟨_, rfl⟩
      rw [hlb] at hc1
      have HLB := Lib.hid hlb
      obtain ⟨wX, hwX⟩ : ∃ wX, wr.alloc (.cells #[.int .i64 what, .slice A' lb c'] 33) = wX := ⟨_, rfl⟩
      have kX : KF wr wX := by rw [← hwX]; exact (KF.refl wr).alloc _
      obtain ⟨pb, hpb⟩ : ∃ pb, wr.heap.size = pb := ⟨_, rfl⟩
      have bX : wX.heap[pb]? = some (.cells #[.int .i64 what, .slice A' lb c'] 33 (0, 0)) := by rw [← hwX, ← hpb]; exact heap_alloc_new wr _
      have p0 : wX.cell? ⟨pb, 0, none⟩ = some (.int .i64 what) := by simp [World.cell?, bX]
      have p1 : wX.cell? ⟨pb, 1, none⟩ = some (.slice A' lb c') := by simp [World.cell?, bX]
      have HWX := Lib.hid hwX
      have HPB := Lib.hid hpb
      have HRD := Lib.hid ((hrd.keepF kX (Nat.le_refl _)).more kX.size)
      have HA2 : Hid (∀ ad : Addr, A' = some ad → bs ≠ [] → ad.block < w1.heap.size) := Lib.hid fun ad ha hb => Nat.lt_of_lt_of_le (hA' ad ha hb) k1.size
      have HKX := Lib.hid kX
      have HBX := Lib.hid bX
      clear hwX hpb hrd hA' hlb hx bX kX
      go_upto_region 16 with fail
      rw [HWX.out, HPB.out]
      clear HWX
      by_cases h3 : 300 < lb
      · have h3' : (300 : Int) < (lb : Int) := by omega
        have KK := Lib.hid (KF.trans kwr.out HKX.out)
        go_wp2_with fail
        go_ret
        exact ⟨rfl, KK.out⟩
      have h3' : ¬ (300 : Int) < (lb : Int) := by omega
      by_cases w0c : what = 0
      · subst w0c
        obtain ⟨wq, hwq⟩ : ∃ wq, wq = wr := ⟨_, rfl⟩
        subst hwq
        have pbl : pb < wX.heap.size := lt_of_block HBX.out
        have p1a : (wX.alloc (.cells #[] 5)).cell? ⟨pb, 1, none⟩ = some (.slice A' lb c') := by
          have e := (((KF.refl wX).alloc (.cells #[] 5)).block pb pbl (fun h => h)).trans HBX.out
          simp [World.cell?, e]
        go_upto_region 22 with fail
        go_upto_region 23 with (at_builtin; refine wpList_append_u8 _ rfl _ _ _ rfl bytesT (.slice (some ⟨wX.heap.size, 0, none⟩) 0 0) [] rfl (Own.lit 5 _ [] (by decide)) wX.heap.size A' lb c' bs rfl HLB.out.symm (HRD.out.alloc (Nat.le_refl _) _) (by have := HLB.out; simp; omega) ?_; intro A4 n4 c4 wO o4 e4 h4 m4 g4 f4)
        simp only [List.nil_append] at o4
        have hn4 : n4 = lb := by rw [o4.len]; exact HLB.out
        have kO := Lib.hid (((KF.refl wX).alloc (.cells #[] 5)).own g4 (NB.new (Nat.le_refl _) 0 0))
        have nO := Lib.hid ((NB.new (a := wX) (w := wX) (Nat.le_refl _) 0 0).next (v' := .slice A4 n4 c4) (w := wX.alloc (.cells #[] 5)) (by simp) f4)
        subst hn4
        have kOr := Lib.hid (KF.trans HKX.out kO.out)
        have PO := Lib.hid (HM.out.2.ward kOr.out)
        have GD0 := Lib.hid HM.out.2.good
        have OO := Lib.hid o4
        have NN : Hid (∀ i, (Value.slice A4 n4 c4).ownBlock = some i → Nb wq wO i) := Lib.hid fun i hi => ⟨Nat.le_trans HKX.out.size (nO.out i hi), OO.out.lt i hi⟩
        have RO := Lib.hid ((HRD.out.keepF kO.out (Nat.le_refl _)).more kO.out.size)
        have hb300 : Hid (bs.length ≤ 300) := Lib.hid (by have := HLB.out; omega)
        obtain ⟨rv, hrv⟩ : ∃ rv : Int, (if d.room ≤ d.pages.length then (4 : Int) else 0) = rv := ⟨_, rfl⟩
        have CD : Hid (∀ W R, P3 (Nb wq wO) w1 W g d gr R → Keep (Out w1 wq wO) wO W → Calls Try.prog 9 #[.pointer (some ⟨g, 0, none⟩), .slice A4 n4 c4] W fun e w' => e = .returned (.int .i64 rv) ∧ Hid (P3 (Nb wq wO) w1 w' g (d.push bs) gr R ∧ Keep (Out w1 wq wO) wO w')) := Lib.hid fun W R hp hk => by
          have h := app_d OO.out hb300.out NN.out hp hk
          rwa [hrv] at h
        have CR : Hid (∀ W d', P3 (Nb wq wO) w1 W g d' gr (refOf d) → Keep (Out w1 wq wO) wO W → Calls Try.prog 10 #[.pointer (some ⟨gr, 0, none⟩), .slice A' n4 c'] W fun e w' => e = .returned (.int .i64 rv) ∧ Hid (P3 (Nb wq wO) w1 w' g d' gr (refOf (d.push bs)) ∧ Keep (Out w1 wq wO) wO w')) := Lib.hid fun W d' hp hk => by
          have h := app_r RO.out HA2.out HLB.out.symm hb300.out GD0.out hp hk (c := c')
          rwa [hrv] at h
        have HPC : Hid (∀ W, Keep (Out w1 wq wO) wO W → W.cell? ⟨pb, 1, none⟩ = some (.slice A' n4 c')) := Lib.hid fun W hk => by
          have hpO : pb < wO.heap.size := Nat.lt_of_lt_of_le pbl kO.out.size
          have e := (kO.out.block pb pbl (fun h => h)).trans HBX.out
          have := HPB.out
          have e2 := (hk.block pb hpO (fun hs => hs.2 ⟨by omega, hpO⟩)).trans e
          simp [World.cell?, e2]
        have q1 := HPC.out wO (Keep.refl _ _)
        have PO1 : Hid (P3 (Nb wq wO) w1 wO.drew g d gr (refOf d)) := Lib.hid (PO.out.far (KF.refl _).drew)
        have hroom := HM.out.1
        have hdroom : (d.push bs).room = sz := by rw [← hroom]; unfold Dv.push; split <;> rfl
        have HDR := Lib.hid hdroom
        have HSZ := Lib.hid HM.out.2.keep.size
        clear o4 e4 h4 m4 g4 f4 hrv p1a hroom hdroom HM kwr
        go_region_held3 (fun W => W.cell? ⟨pb, 1, none⟩ = some (.slice A' n4 c')) (first | exact q1 | exact HPC.out _ HR6.out.2 | exact HPC.out _ HD5.out.2 | exact HPC.out _ HR5.out.2)
          (first
            | (go_at_call 9; refine (CD.out _ _ PO1.out (Keep.refl _ _).drew).mono ?_; rintro e w5 ⟨rfl, HD5⟩)
            | (go_at_call 10; refine (CR.out _ _ PO1.out (Keep.refl _ _).drew).mono ?_; rintro e w6 ⟨rfl, HR5⟩)
            | (go_at_call 10; refine (CR.out _ _ HD5.out.1 HD5.out.2).mono ?_; rintro e w6 ⟨rfl, HR6⟩)
            | (go_at_call 9; refine (CD.out _ _ HR5.out.1 HR5.out.2).mono ?_; rintro e w5 ⟨rfl, HR6⟩))
        all_goals
          have H6 : Hid (P3 (Nb wq wO) w1 _ g (d.push bs) gr (refOf (d.push bs)) ∧ (0 < n4 → ∃ ob, A4 = some ⟨ob, 0, none⟩ ∧ Nb wq wO ob ∧ Rest _ ob bs 0)) := Lib.hid ⟨HR6.out.1, fun h0 => by
            obtain ⟨ob, e, hr⟩ := Rest.ofOwn (OO.out.kept HR6.out.2 (fun i hi hs => hs.2 (NN.out i hi))) h0
            exact ⟨ob, e, NN.out ob (by rw [e]; rfl), hr⟩⟩
          clear HR6 CD CR HPC PO1 PO
          go_wp2_with fail
          go_loopg [83] n4 (fun gh i wy => ∃ j : Nat, j ≤ n4 ∧ n4 - j ≤ gh ∧ i = .int .i64 j ∧ Hid (P3 (Nb wq wO) w1 wy g (d.push bs) gr (refOf (d.push bs)) ∧ (j < n4 → ∃ ob, A4 = some ⟨ob, 0, none⟩ ∧ Nb wq wO ob ∧ Rest wy ob bs j)))
          case atStart => exact ⟨0, by omega, by omega, rfl, H6⟩
          case round =>
            obtain ⟨j, hj, hgj, rfl, HJ⟩ := hrel
            rcases Nat.lt_or_ge j n4 with hlt2 | hge2
            · have hlt2' : (j : Int) < (n4 : Int) := by omega
              obtain ⟨ob, rfl, hNb, hrest⟩ := HJ.out.2 hlt2
              have hjb : j < bs.length := by rw [HLB.out]; exact hlt2
              obtain ⟨y, hy⟩ : ∃ y, bs[j]? = some y := ⟨_, List.getElem?_eq_getElem hjb⟩
              obtain ⟨y0, y1⟩ := hrest.cell hy
              have NXT : Hid (∀ u, P3 (Nb wq wO) w1 (World.setCell _ ⟨ob, j, none⟩ u) g (d.push bs) gr (refOf (d.push bs)) ∧ Rest (World.setCell _ ⟨ob, j, none⟩ u) ob bs (j + 1)) := Lib.hid fun u =>
                ⟨HJ.out.1.store (Keep.setCell (S := Nb wq wO) (Keep.refl _ _) (p := ⟨ob, j, none⟩) (.inr hNb) u) (fun i hi => Nat.le_trans HSZ.out hi.1), hrest.next u⟩
              have HNB := Lib.hid hNb
              clear hrest hy hNb HJ
              go_wp2_with fail
              go_roundg (n4 - (j + 1))
              case measure => omega
              case rel => exact ⟨j + 1, by omega, by omega, by go_num, Lib.hid ⟨(NXT.out _).1, fun _ => ⟨ob, rfl, HNB.out, (NXT.out _).2⟩⟩⟩
            · obtain rfl : j = n4 := by omega
              have hlt2' : ¬ (j : Int) < (j : Int) := by omega
              obtain ⟨d1, HP⟩ : ∃ d1, Hid (d1.room = sz ∧ P3 No w1 _ g d1 gr (refOf d1)) := ⟨d.push bs, Lib.hid ⟨HDR.out, HJ.out.1.drop⟩⟩
              clear HJ
              go_upto_region 36 with fail
              have GD := HP.out.2.good
              have CT := Lib.hid HP.out.2.twin
              go_upto_region 37 with (go_at_call 17; refine CT.out.mono ?_; rintro e wA ⟨gt, rfl, HC⟩)
              go_upto_region 38 with (go_at_call 13; refine HC.out.mono ?_; rintro e wB ⟨rfl, HT⟩)
              clear CT HC
              obtain ⟨dt, hdp, hdr, HTw⟩ := HT.out.2
              have PB := Lib.hid (HP.out.2.far HT.out.1)
              have TB := Lib.hid HTw
              have hroom := HP.out.1
              have hgr := GD.room
              obtain ⟨L, hL⟩ : ∃ L, wholes d1.pages = L := ⟨_, rfl⟩
              obtain ⟨m, hm⟩ : ∃ m : Nat, d1.pages.length = m := ⟨_, rfl⟩
              obtain ⟨f, hf⟩ : ∃ f : Nat, sz - m = f := ⟨_, rfl⟩
              have hLs : Hid (∀ l ∈ L, l.length ≤ 1000000) := Lib.hid (by
                obtain ⟨v, qs, h⟩ := HTw
                intro l hl
                rw [← hL] at hl
                simp only [wholes, List.mem_map, List.mem_filter] at hl
                obtain ⟨p, ⟨hp, _⟩, rfl⟩ := hl
                have := h.short p (by rw [hdp]; exact hp)
                omega)
              have hLn : Hid (L.length ≤ 1000000) := Lib.hid (by
                have := wholes_le d1.pages
                rw [hL] at this
                omega)
              have CPd : Hid (∀ W, KF wB W → Calls Try.prog 19 #[.pointer (some ⟨g, 0, none⟩)] W (RowQ wB W L)) := Lib.hid fun W k => (PB.out.far k).pages.mono fun e w' ⟨A, n, c, he, hh, kk⟩ => ⟨A, n, c, he, by rw [← hL]; exact hh, kk, KF.trans k kk⟩
              have CPt : Hid (∀ W, KF wB W → Calls Try.prog 19 #[.pointer (some ⟨gt, 0, none⟩)] W (RowQ wB W L)) := Lib.hid fun W k => (TB.out.far k).pages.mono fun e w' ⟨A, n, c, he, hh, kk⟩ => ⟨A, n, c, he, by rw [← hL, ← hdp]; exact hh, kk, KF.trans k kk⟩
              have CWr : Hid (∀ W, KF wB W → Calls Try.prog 20 #[.pointer (some ⟨gr, 0, none⟩)] W (RowQ wB W L)) := Lib.hid fun W k => (PB.out.far k).whole.mono fun e w' ⟨A, n, c, he, hh, kk⟩ => ⟨A, n, c, he, by rw [← hL, ← whole_ref GD]; exact hh, kk, KF.trans k kk⟩
              have CFd : Hid (∀ W, KF wB W → Calls Try.prog 7 #[.pointer (some ⟨g, 0, none⟩)] W fun e w' => e = .returned (.int .i64 (f : Int)) ∧ KF wB w') := Lib.hid fun W k => (PB.out.far k).free.mono fun e w' ⟨he, kk⟩ => ⟨by rw [he, hroom, hm, hf], KF.trans k kk⟩
              have CFt : Hid (∀ W, KF wB W → Calls Try.prog 7 #[.pointer (some ⟨gt, 0, none⟩)] W fun e w' => e = .returned (.int .i64 (f : Int)) ∧ KF wB w') := Lib.hid fun W k => (TB.out.far k).free.mono fun e w' ⟨he, kk⟩ => ⟨by rw [he, hdp, hdr, hroom, hm, hf], KF.trans k kk⟩
              have CNr : Hid (∀ W, KF wB W → Calls Try.prog 21 #[.pointer (some ⟨gr, 0, none⟩)] W fun e w' => e = .returned (.int .i64 (m : Int)) ∧ KF wB w') := Lib.hid fun W k => (PB.out.far k).next.mono fun e w' ⟨he, kk⟩ => ⟨by rw [he, next_ref GD, hm], KF.trans k kk⟩
              have CSm : Hid (∀ W A1 m1 c1 A2 m2 c2, KF wB W → (m1 = L.length ∧ RdS W 0 W.heap.size A1 L) → (m2 = L.length ∧ RdS W 0 W.heap.size A2 L) → Calls Try.prog 18 #[.slice A1 m1 c1, .slice A2 m2 c2] W fun e w' => e = .returned (.bool true) ∧ KF wB w') := Lib.hid fun W A1 m1 c1 A2 m2 c2 k r1 r2 => by
                have h := sameList_any A1 A2 L L m1 m2 c1 c2 0 0 W r1.1 r2.1 r1.2 r2.2 (by rw [r1.1]; exact hLn.out) hLs.out
                refine h.mono fun e w' ⟨he, nq, hn⟩ => ⟨?_, by rw [← hn]; exact k.drewN nq⟩
                simpa using he
              have hwf : IntKind.i64.wrap ((sz : Int) - (m : Int)) = (f : Int) := by rw [IntKind.wrap_i64]; omega
              have HPF := Lib.hid fun W (k : KF wB W) => show d1.room = sz ∧ P3 No w1 W g d1 gr (refOf d1) from ⟨hroom, PB.out.far k⟩
              clear hL hm hf hdp hdr HTw hgr hroom GD PB TB HT HP
              go_wp2_with (first
                | (go_at_call_of 19 (Value.pointer (some ⟨g, 0, none⟩)); refine (CPd.out _ (KF.refl _)).mono ?_; rintro e w3 ⟨A3, m3, c3, rfl, H3, k3, k33⟩)
                | (go_at_call 20; refine (CWr.out _ k33).mono ?_; rintro e w4 ⟨A4x, m4, c4x, rfl, H4, k4, k44⟩)
                | (go_at_call_of 18 (Value.slice A3 m3 c3); refine (CSm.out _ A3 m3 c3 A4x m4 c4x k44 ⟨H3.out.1, H3.out.2.kept k4⟩ H4.out).mono ?_; rintro e w5 ⟨rfl, k55⟩)
                | (go_at_call_of 7 (Value.pointer (some ⟨g, 0, none⟩)); refine (CFd.out _ k55).mono ?_; rintro e w6 ⟨rfl, k66⟩)
                | (go_at_call 21; refine (CNr.out _ k66).mono ?_; rintro e w7 ⟨rfl, k77⟩)
                | (go_at_call_of 19 (Value.pointer (some ⟨gt, 0, none⟩)); refine (CPt.out _ k77).mono ?_; rintro e w8 ⟨A8, m8, c8, rfl, H8, k8, k88⟩)
                | (go_at_call 20; refine (CWr.out _ k88).mono ?_; rintro e w9 ⟨A9, m9, c9, rfl, H9, k9, k99⟩)
                | (go_at_call_of 18 (Value.slice A8 m8 c8); refine (CSm.out _ A8 m8 c8 A9 m9 c9 k99 ⟨H8.out.1, H8.out.2.kept k9⟩ H9.out).mono ?_; rintro e w10 ⟨rfl, k10⟩)
                | (go_at_call_of 7 (Value.pointer (some ⟨gt, 0, none⟩)); refine (CFt.out _ k10).mono ?_; rintro e w11 ⟨rfl, k11⟩)
                | (go_at_call_of 7 (Value.pointer (some ⟨g, 0, none⟩)); refine (CFd.out _ k11).mono ?_; rintro e w12 ⟨rfl, k12⟩))
              have FIN := Lib.hid (HPF.out _ k12)
              clear CPd CPt CWr CFd CFt CNr CSm HPF
              go_roundg (n - (k + 1))
              case measure => omega
              case rel => exact ⟨k + 1, d1, by omega, by omega, by go_num, FIN⟩
      by_cases w1c : what = 1
      · subst w1c
        have CD := Lib.hid ((HM.out.2.far HKX.out).dsync)
        go_upto_region 32 with (go_at_call 11; refine CD.out.mono ?_; rintro e wC ⟨rfl, DC⟩)
        have CR := Lib.hid DC.rsync
        clear CD DC
        go_upto_region 36 with (go_at_call 12; refine CR.out.mono ?_; rintro e wD ⟨rfl, DD⟩)
        obtain ⟨d1, HP⟩ : ∃ d1, Hid (d1.room = sz ∧ P3 No w1 wD g d1 gr (refOf d1)) := ⟨d.sync, Lib.hid ⟨HM.out.1, by rw [sync_ref]; exact DD⟩⟩
        clear CR DD HM kwr
        have GD := HP.out.2.good
        have CT := Lib.hid HP.out.2.twin
        go_upto_region 37 with (go_at_call 17; refine CT.out.mono ?_; rintro e wA ⟨gt, rfl, HC⟩)
        go_upto_region 38 with (go_at_call 13; refine HC.out.mono ?_; rintro e wB ⟨rfl, HT⟩)
        clear CT HC
        obtain ⟨dt, hdp, hdr, HTw⟩ := HT.out.2
        have PB := Lib.hid (HP.out.2.far HT.out.1)
        have TB := Lib.hid HTw
        have hroom := HP.out.1
        have hgr := GD.room
        obtain ⟨L, hL⟩ : ∃ L, wholes d1.pages = L := ⟨_, rfl⟩
        obtain ⟨m, hm⟩ : ∃ m : Nat, d1.pages.length = m := ⟨_, rfl⟩
        obtain ⟨f, hf⟩ : ∃ f : Nat, sz - m = f := ⟨_, rfl⟩
        have hLs : Hid (∀ l ∈ L, l.length ≤ 1000000) := Lib.hid (by
          obtain ⟨v, qs, h⟩ := HTw
          intro l hl
          rw [← hL] at hl
          simp only [wholes, List.mem_map, List.mem_filter] at hl
          obtain ⟨p, ⟨hp, _⟩, rfl⟩ := hl
          have := h.short p (by rw [hdp]; exact hp)
          omega)
        have hLn : Hid (L.length ≤ 1000000) := Lib.hid (by
          have := wholes_le d1.pages
          rw [hL] at this
          omega)
        have CPd : Hid (∀ W, KF wB W → Calls Try.prog 19 #[.pointer (some ⟨g, 0, none⟩)] W (RowQ wB W L)) := Lib.hid fun W k => (PB.out.far k).pages.mono fun e w' ⟨A, n, c, he, hh, kk⟩ => ⟨A, n, c, he, by rw [← hL]; exact hh, kk, KF.trans k kk⟩
        have CPt : Hid (∀ W, KF wB W → Calls Try.prog 19 #[.pointer (some ⟨gt, 0, none⟩)] W (RowQ wB W L)) := Lib.hid fun W k => (TB.out.far k).pages.mono fun e w' ⟨A, n, c, he, hh, kk⟩ => ⟨A, n, c, he, by rw [← hL, ← hdp]; exact hh, kk, KF.trans k kk⟩
        have CWr : Hid (∀ W, KF wB W → Calls Try.prog 20 #[.pointer (some ⟨gr, 0, none⟩)] W (RowQ wB W L)) := Lib.hid fun W k => (PB.out.far k).whole.mono fun e w' ⟨A, n, c, he, hh, kk⟩ => ⟨A, n, c, he, by rw [← hL, ← whole_ref GD]; exact hh, kk, KF.trans k kk⟩
        have CFd : Hid (∀ W, KF wB W → Calls Try.prog 7 #[.pointer (some ⟨g, 0, none⟩)] W fun e w' => e = .returned (.int .i64 (f : Int)) ∧ KF wB w') := Lib.hid fun W k => (PB.out.far k).free.mono fun e w' ⟨he, kk⟩ => ⟨by rw [he, hroom, hm, hf], KF.trans k kk⟩
        have CFt : Hid (∀ W, KF wB W → Calls Try.prog 7 #[.pointer (some ⟨gt, 0, none⟩)] W fun e w' => e = .returned (.int .i64 (f : Int)) ∧ KF wB w') := Lib.hid fun W k => (TB.out.far k).free.mono fun e w' ⟨he, kk⟩ => ⟨by rw [he, hdp, hdr, hroom, hm, hf], KF.trans k kk⟩
        have CNr : Hid (∀ W, KF wB W → Calls Try.prog 21 #[.pointer (some ⟨gr, 0, none⟩)] W fun e w' => e = .returned (.int .i64 (m : Int)) ∧ KF wB w') := Lib.hid fun W k => (PB.out.far k).next.mono fun e w' ⟨he, kk⟩ => ⟨by rw [he, next_ref GD, hm], KF.trans k kk⟩
        have CSm : Hid (∀ W A1 m1 c1 A2 m2 c2, KF wB W → (m1 = L.length ∧ RdS W 0 W.heap.size A1 L) → (m2 = L.length ∧ RdS W 0 W.heap.size A2 L) → Calls Try.prog 18 #[.slice A1 m1 c1, .slice A2 m2 c2] W fun e w' => e = .returned (.bool true) ∧ KF wB w') := Lib.hid fun W A1 m1 c1 A2 m2 c2 k r1 r2 => by
          have h := sameList_any A1 A2 L L m1 m2 c1 c2 0 0 W r1.1 r2.1 r1.2 r2.2 (by rw [r1.1]; exact hLn.out) hLs.out
          refine h.mono fun e w' ⟨he, nq, hn⟩ => ⟨?_, by rw [← hn]; exact k.drewN nq⟩
          simpa using he
        have hwf : IntKind.i64.wrap ((sz : Int) - (m : Int)) = (f : Int) := by rw [IntKind.wrap_i64]; omega
        have HPF := Lib.hid fun W (k : KF wB W) => show d1.room = sz ∧ P3 No w1 W g d1 gr (refOf d1) from ⟨hroom, PB.out.far k⟩
        clear hL hm hf hdp hdr HTw hgr hroom GD PB TB HT HP
        go_wp2_with (first
          | (go_at_call_of 19 (Value.pointer (some ⟨g, 0, none⟩)); refine (CPd.out _ (KF.refl _)).mono ?_; rintro e w3 ⟨A3, m3, c3, rfl, H3, k3, k33⟩)
          | (go_at_call 20; refine (CWr.out _ k33).mono ?_; rintro e w4 ⟨A4x, m4, c4x, rfl, H4, k4, k44⟩)
          | (go_at_call_of 18 (Value.slice A3 m3 c3); refine (CSm.out _ A3 m3 c3 A4x m4 c4x k44 ⟨H3.out.1, H3.out.2.kept k4⟩ H4.out).mono ?_; rintro e w5 ⟨rfl, k55⟩)
          | (go_at_call_of 7 (Value.pointer (some ⟨g, 0, none⟩)); refine (CFd.out _ k55).mono ?_; rintro e w6 ⟨rfl, k66⟩)
          | (go_at_call 21; refine (CNr.out _ k66).mono ?_; rintro e w7 ⟨rfl, k77⟩)
          | (go_at_call_of 19 (Value.pointer (some ⟨gt, 0, none⟩)); refine (CPt.out _ k77).mono ?_; rintro e w8 ⟨A8, m8, c8, rfl, H8, k8, k88⟩)
          | (go_at_call 20; refine (CWr.out _ k88).mono ?_; rintro e w9 ⟨A9, m9, c9, rfl, H9, k9, k99⟩)
          | (go_at_call_of 18 (Value.slice A8 m8 c8); refine (CSm.out _ A8 m8 c8 A9 m9 c9 k99 ⟨H8.out.1, H8.out.2.kept k9⟩ H9.out).mono ?_; rintro e w10 ⟨rfl, k10⟩)
          | (go_at_call_of 7 (Value.pointer (some ⟨gt, 0, none⟩)); refine (CFt.out _ k10).mono ?_; rintro e w11 ⟨rfl, k11⟩)
          | (go_at_call_of 7 (Value.pointer (some ⟨g, 0, none⟩)); refine (CFd.out _ k11).mono ?_; rintro e w12 ⟨rfl, k12⟩))
        have FIN := Lib.hid (HPF.out _ k12)
        clear CPd CPt CWr CFd CFt CNr CSm HPF
        go_roundg (n - (k + 1))
        case measure => omega
        case rel => exact ⟨k + 1, d1, by omega, by omega, by go_num, FIN⟩
      by_cases w2c : what = 2
      · subst w2c
        have CD := Lib.hid ((HM.out.2.ward HKX.out).dcrash A' bs lb c' HLB.out.symm (by omega) HRD.out HA2.out)
        go_upto_region 35 with (go_at_call 13; refine CD.out.mono ?_; rintro e wC ⟨rfl, DC, KC⟩)
        have hrC : Rd wC wC.heap.size A' bs := by
          by_cases hb0 : bs = []
          · rw [hb0]; exact Rd.nil
          · exact (HRD.out.keepS (Nat.le_refl _) KC (fun ad ha hs => by
              have := HA2.out ad ha hb0
              have := hs.1
              omega)).more KC.size
        have pC : wC.cell? ⟨pb, 1, none⟩ = some (.slice A' lb c') := by
          have hlt := lt_of_block HBX.out
          have := HPB.out
          have e := (KC.block pb hlt (fun hs => hs.2 ⟨by omega, hlt⟩)).trans HBX.out
          simp [World.cell?, e]
        have CR := Lib.hid (DC.rcrash A' bs lb c' HLB.out.symm (by omega) hrC HA2.out)
        have GD0 := Lib.hid HM.out.2.good
        clear CD DC KC hrC
        go_upto_region 36 with (go_at_call 14; refine CR.out.mono ?_; rintro e wD ⟨rfl, DD⟩)
        obtain ⟨d1, HP⟩ : ∃ d1, Hid (d1.room = sz ∧ P3 No w1 wD g d1 gr (refOf d1)) := ⟨d.crash bs, Lib.hid ⟨HM.out.1, by rw [crash_ref GD0.out]; exact DD.drop⟩⟩
        clear CR DD HM kwr GD0
        have GD := HP.out.2.good
        have CT := Lib.hid HP.out.2.twin
        go_upto_region 37 with (go_at_call 17; refine CT.out.mono ?_; rintro e wA ⟨gt, rfl, HC⟩)
        go_upto_region 38 with (go_at_call 13; refine HC.out.mono ?_; rintro e wB ⟨rfl, HT⟩)
        clear CT HC
        obtain ⟨dt, hdp, hdr, HTw⟩ := HT.out.2
        have PB := Lib.hid (HP.out.2.far HT.out.1)
        have TB := Lib.hid HTw
        have hroom := HP.out.1
        have hgr := GD.room
        obtain ⟨L, hL⟩ : ∃ L, wholes d1.pages = L := ⟨_, rfl⟩
        obtain ⟨m, hm⟩ : ∃ m : Nat, d1.pages.length = m := ⟨_, rfl⟩
        obtain ⟨f, hf⟩ : ∃ f : Nat, sz - m = f := ⟨_, rfl⟩
        have hLs : Hid (∀ l ∈ L, l.length ≤ 1000000) := Lib.hid (by
          obtain ⟨v, qs, h⟩ := HTw
          intro l hl
          rw [← hL] at hl
          simp only [wholes, List.mem_map, List.mem_filter] at hl
          obtain ⟨p, ⟨hp, _⟩, rfl⟩ := hl
          have := h.short p (by rw [hdp]; exact hp)
          omega)
        have hLn : Hid (L.length ≤ 1000000) := Lib.hid (by
          have := wholes_le d1.pages
          rw [hL] at this
          omega)
        have CPd : Hid (∀ W, KF wB W → Calls Try.prog 19 #[.pointer (some ⟨g, 0, none⟩)] W (RowQ wB W L)) := Lib.hid fun W k => (PB.out.far k).pages.mono fun e w' ⟨A, n, c, he, hh, kk⟩ => ⟨A, n, c, he, by rw [← hL]; exact hh, kk, KF.trans k kk⟩
        have CPt : Hid (∀ W, KF wB W → Calls Try.prog 19 #[.pointer (some ⟨gt, 0, none⟩)] W (RowQ wB W L)) := Lib.hid fun W k => (TB.out.far k).pages.mono fun e w' ⟨A, n, c, he, hh, kk⟩ => ⟨A, n, c, he, by rw [← hL, ← hdp]; exact hh, kk, KF.trans k kk⟩
        have CWr : Hid (∀ W, KF wB W → Calls Try.prog 20 #[.pointer (some ⟨gr, 0, none⟩)] W (RowQ wB W L)) := Lib.hid fun W k => (PB.out.far k).whole.mono fun e w' ⟨A, n, c, he, hh, kk⟩ => ⟨A, n, c, he, by rw [← hL, ← whole_ref GD]; exact hh, kk, KF.trans k kk⟩
        have CFd : Hid (∀ W, KF wB W → Calls Try.prog 7 #[.pointer (some ⟨g, 0, none⟩)] W fun e w' => e = .returned (.int .i64 (f : Int)) ∧ KF wB w') := Lib.hid fun W k => (PB.out.far k).free.mono fun e w' ⟨he, kk⟩ => ⟨by rw [he, hroom, hm, hf], KF.trans k kk⟩
        have CFt : Hid (∀ W, KF wB W → Calls Try.prog 7 #[.pointer (some ⟨gt, 0, none⟩)] W fun e w' => e = .returned (.int .i64 (f : Int)) ∧ KF wB w') := Lib.hid fun W k => (TB.out.far k).free.mono fun e w' ⟨he, kk⟩ => ⟨by rw [he, hdp, hdr, hroom, hm, hf], KF.trans k kk⟩
        have CNr : Hid (∀ W, KF wB W → Calls Try.prog 21 #[.pointer (some ⟨gr, 0, none⟩)] W fun e w' => e = .returned (.int .i64 (m : Int)) ∧ KF wB w') := Lib.hid fun W k => (PB.out.far k).next.mono fun e w' ⟨he, kk⟩ => ⟨by rw [he, next_ref GD, hm], KF.trans k kk⟩
        have CSm : Hid (∀ W A1 m1 c1 A2 m2 c2, KF wB W → (m1 = L.length ∧ RdS W 0 W.heap.size A1 L) → (m2 = L.length ∧ RdS W 0 W.heap.size A2 L) → Calls Try.prog 18 #[.slice A1 m1 c1, .slice A2 m2 c2] W fun e w' => e = .returned (.bool true) ∧ KF wB w') := Lib.hid fun W A1 m1 c1 A2 m2 c2 k r1 r2 => by
          have h := sameList_any A1 A2 L L m1 m2 c1 c2 0 0 W r1.1 r2.1 r1.2 r2.2 (by rw [r1.1]; exact hLn.out) hLs.out
          refine h.mono fun e w' ⟨he, nq, hn⟩ => ⟨?_, by rw [← hn]; exact k.drewN nq⟩
          simpa using he
        have hwf : IntKind.i64.wrap ((sz : Int) - (m : Int)) = (f : Int) := by rw [IntKind.wrap_i64]; omega
        have HPF := Lib.hid fun W (k : KF wB W) => show d1.room = sz ∧ P3 No w1 W g d1 gr (refOf d1) from ⟨hroom, PB.out.far k⟩
        clear hL hm hf hdp hdr HTw hgr hroom GD PB TB HT HP
        go_wp2_with (first
          | (go_at_call_of 19 (Value.pointer (some ⟨g, 0, none⟩)); refine (CPd.out _ (KF.refl _)).mono ?_; rintro e w3 ⟨A3, m3, c3, rfl, H3, k3, k33⟩)
          | (go_at_call 20; refine (CWr.out _ k33).mono ?_; rintro e w4 ⟨A4x, m4, c4x, rfl, H4, k4, k44⟩)
          | (go_at_call_of 18 (Value.slice A3 m3 c3); refine (CSm.out _ A3 m3 c3 A4x m4 c4x k44 ⟨H3.out.1, H3.out.2.kept k4⟩ H4.out).mono ?_; rintro e w5 ⟨rfl, k55⟩)
          | (go_at_call_of 7 (Value.pointer (some ⟨g, 0, none⟩)); refine (CFd.out _ k55).mono ?_; rintro e w6 ⟨rfl, k66⟩)
          | (go_at_call 21; refine (CNr.out _ k66).mono ?_; rintro e w7 ⟨rfl, k77⟩)
          | (go_at_call_of 19 (Value.pointer (some ⟨gt, 0, none⟩)); refine (CPt.out _ k77).mono ?_; rintro e w8 ⟨A8, m8, c8, rfl, H8, k8, k88⟩)
          | (go_at_call 20; refine (CWr.out _ k88).mono ?_; rintro e w9 ⟨A9, m9, c9, rfl, H9, k9, k99⟩)
          | (go_at_call_of 18 (Value.slice A8 m8 c8); refine (CSm.out _ A8 m8 c8 A9 m9 c9 k99 ⟨H8.out.1, H8.out.2.kept k9⟩ H9.out).mono ?_; rintro e w10 ⟨rfl, k10⟩)
          | (go_at_call_of 7 (Value.pointer (some ⟨gt, 0, none⟩)); refine (CFt.out _ k10).mono ?_; rintro e w11 ⟨rfl, k11⟩)
          | (go_at_call_of 7 (Value.pointer (some ⟨g, 0, none⟩)); refine (CFd.out _ k11).mono ?_; rintro e w12 ⟨rfl, k12⟩))
        have FIN := Lib.hid (HPF.out _ k12)
        clear CPd CPt CWr CFd CFt CNr CSm HPF
        go_roundg (n - (k + 1))
        case measure => omega
        case rel => exact ⟨k + 1, d1, by omega, by omega, by go_num, FIN⟩
      have CD := Lib.hid ((HM.out.2.far HKX.out).dwipe)
      go_upto_region 20 with (go_at_call 15; refine CD.out.mono ?_; rintro e wC ⟨rfl, DC⟩)
      have CR := Lib.hid DC.rwipe
      clear CD DC
      go_upto_region 36 with (go_at_call 16; refine CR.out.mono ?_; rintro e wD ⟨rfl, DD⟩)
      obtain ⟨d1, HP⟩ : ∃ d1, Hid (d1.room = sz ∧ P3 No w1 wD g d1 gr (refOf d1)) := ⟨d.wipe, Lib.hid ⟨HM.out.1, by rw [wipe_ref]; rw [refOf_length] at DD; exact DD⟩⟩
      clear CR DD HM kwr
      have GD := HP.out.2.good
      have CT := Lib.hid HP.out.2.twin
      go_upto_region 37 with (go_at_call 17; refine CT.out.mono ?_; rintro e wA ⟨gt, rfl, HC⟩)
      go_upto_region 38 with (go_at_call 13; refine HC.out.mono ?_; rintro e wB ⟨rfl, HT⟩)
      clear CT HC
      obtain ⟨dt, hdp, hdr, HTw⟩ := HT.out.2
      have PB := Lib.hid (HP.out.2.far HT.out.1)
      have TB := Lib.hid HTw
      have hroom := HP.out.1
      have hgr := GD.room
      obtain ⟨L, hL⟩ : ∃ L, wholes d1.pages = L := ⟨_, rfl⟩
      obtain ⟨m, hm⟩ : ∃ m : Nat, d1.pages.length = m := ⟨_, rfl⟩
      obtain ⟨f, hf⟩ : ∃ f : Nat, sz - m = f := ⟨_, rfl⟩
      have hLs : Hid (∀ l ∈ L, l.length ≤ 1000000) := Lib.hid (by
        obtain ⟨v, qs, h⟩ := HTw
        intro l hl
        rw [← hL] at hl
        simp only [wholes, List.mem_map, List.mem_filter] at hl
        obtain ⟨p, ⟨hp, _⟩, rfl⟩ := hl
        have := h.short p (by rw [hdp]; exact hp)
        omega)
      have hLn : Hid (L.length ≤ 1000000) := Lib.hid (by
        have := wholes_le d1.pages
        rw [hL] at this
        omega)
      have CPd : Hid (∀ W, KF wB W → Calls Try.prog 19 #[.pointer (some ⟨g, 0, none⟩)] W (RowQ wB W L)) := Lib.hid fun W k => (PB.out.far k).pages.mono fun e w' ⟨A, n, c, he, hh, kk⟩ => ⟨A, n, c, he, by rw [← hL]; exact hh, kk, KF.trans k kk⟩
      have CPt : Hid (∀ W, KF wB W → Calls Try.prog 19 #[.pointer (some ⟨gt, 0, none⟩)] W (RowQ wB W L)) := Lib.hid fun W k => (TB.out.far k).pages.mono fun e w' ⟨A, n, c, he, hh, kk⟩ => ⟨A, n, c, he, by rw [← hL, ← hdp]; exact hh, kk, KF.trans k kk⟩
      have CWr : Hid (∀ W, KF wB W → Calls Try.prog 20 #[.pointer (some ⟨gr, 0, none⟩)] W (RowQ wB W L)) := Lib.hid fun W k => (PB.out.far k).whole.mono fun e w' ⟨A, n, c, he, hh, kk⟩ => ⟨A, n, c, he, by rw [← hL, ← whole_ref GD]; exact hh, kk, KF.trans k kk⟩
      have CFd : Hid (∀ W, KF wB W → Calls Try.prog 7 #[.pointer (some ⟨g, 0, none⟩)] W fun e w' => e = .returned (.int .i64 (f : Int)) ∧ KF wB w') := Lib.hid fun W k => (PB.out.far k).free.mono fun e w' ⟨he, kk⟩ => ⟨by rw [he, hroom, hm, hf], KF.trans k kk⟩
      have CFt : Hid (∀ W, KF wB W → Calls Try.prog 7 #[.pointer (some ⟨gt, 0, none⟩)] W fun e w' => e = .returned (.int .i64 (f : Int)) ∧ KF wB w') := Lib.hid fun W k => (TB.out.far k).free.mono fun e w' ⟨he, kk⟩ => ⟨by rw [he, hdp, hdr, hroom, hm, hf], KF.trans k kk⟩
      have CNr : Hid (∀ W, KF wB W → Calls Try.prog 21 #[.pointer (some ⟨gr, 0, none⟩)] W fun e w' => e = .returned (.int .i64 (m : Int)) ∧ KF wB w') := Lib.hid fun W k => (PB.out.far k).next.mono fun e w' ⟨he, kk⟩ => ⟨by rw [he, next_ref GD, hm], KF.trans k kk⟩
      have CSm : Hid (∀ W A1 m1 c1 A2 m2 c2, KF wB W → (m1 = L.length ∧ RdS W 0 W.heap.size A1 L) → (m2 = L.length ∧ RdS W 0 W.heap.size A2 L) → Calls Try.prog 18 #[.slice A1 m1 c1, .slice A2 m2 c2] W fun e w' => e = .returned (.bool true) ∧ KF wB w') := Lib.hid fun W A1 m1 c1 A2 m2 c2 k r1 r2 => by
        have h := sameList_any A1 A2 L L m1 m2 c1 c2 0 0 W r1.1 r2.1 r1.2 r2.2 (by rw [r1.1]; exact hLn.out) hLs.out
        refine h.mono fun e w' ⟨he, nq, hn⟩ => ⟨?_, by rw [← hn]; exact k.drewN nq⟩
        simpa using he
      have hwf : IntKind.i64.wrap ((sz : Int) - (m : Int)) = (f : Int) := by rw [IntKind.wrap_i64]; omega
      have HPF := Lib.hid fun W (k : KF wB W) => show d1.room = sz ∧ P3 No w1 W g d1 gr (refOf d1) from ⟨hroom, PB.out.far k⟩
      clear hL hm hf hdp hdr HTw hgr hroom GD PB TB HT HP
      go_wp2_with (first
        | (go_at_call_of 19 (Value.pointer (some ⟨g, 0, none⟩)); refine (CPd.out _ (KF.refl _)).mono ?_; rintro e w3 ⟨A3, m3, c3, rfl, H3, k3, k33⟩)
        | (go_at_call 20; refine (CWr.out _ k33).mono ?_; rintro e w4 ⟨A4x, m4, c4x, rfl, H4, k4, k44⟩)
        | (go_at_call_of 18 (Value.slice A3 m3 c3); refine (CSm.out _ A3 m3 c3 A4x m4 c4x k44 ⟨H3.out.1, H3.out.2.kept k4⟩ H4.out).mono ?_; rintro e w5 ⟨rfl, k55⟩)
        | (go_at_call_of 7 (Value.pointer (some ⟨g, 0, none⟩)); refine (CFd.out _ k55).mono ?_; rintro e w6 ⟨rfl, k66⟩)
        | (go_at_call 21; refine (CNr.out _ k66).mono ?_; rintro e w7 ⟨rfl, k77⟩)
        | (go_at_call_of 19 (Value.pointer (some ⟨gt, 0, none⟩)); refine (CPt.out _ k77).mono ?_; rintro e w8 ⟨A8, m8, c8, rfl, H8, k8, k88⟩)
        | (go_at_call 20; refine (CWr.out _ k88).mono ?_; rintro e w9 ⟨A9, m9, c9, rfl, H9, k9, k99⟩)
        | (go_at_call_of 18 (Value.slice A8 m8 c8); refine (CSm.out _ A8 m8 c8 A9 m9 c9 k99 ⟨H8.out.1, H8.out.2.kept k9⟩ H9.out).mono ?_; rintro e w10 ⟨rfl, k10⟩)
        | (go_at_call_of 7 (Value.pointer (some ⟨gt, 0, none⟩)); refine (CFt.out _ k10).mono ?_; rintro e w11 ⟨rfl, k11⟩)
        | (go_at_call_of 7 (Value.pointer (some ⟨g, 0, none⟩)); refine (CFd.out _ k11).mono ?_; rintro e w12 ⟨rfl, k12⟩))
      have FIN := Lib.hid (HPF.out _ k12)
      clear CPd CPt CWr CFd CFt CNr CSm HPF
      go_roundg (n - (k + 1))
      case measure => omega
      case rel => exact ⟨k + 1, d1, by omega, by omega, by go_num, FIN⟩
    · obtain rfl : k = n := by omega
      have hlt' : ¬ (k : Int) < (k : Int) := by omega
      go_wp2_with fail
      go_ret
      exact ⟨rfl, kwr.out⟩
end Go.Proofs.Ytncenfgnhamdbaa
