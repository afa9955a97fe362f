/-
  bytes.Clone; the program's read.
-/
import Derived.Test.YtlkiaghpdjbfeaaGreatDoorPhStat
import Derived.Test.YtlkiaghpdjbfeaaGreatDoorPhResize
namespace Go.Proofs.YtlkiaghpdjbfeaaGreatDoor
open Go.RowKit Go.Maps

/-- Bytes in a new row. -/
theorem clone_any (A : Option Addr) (l : Txt) (n c : Nat) (w : World) (hl : n = l.length) (hb : l.length ≤ 1000000) (B : Nat) (hr : Rd w B A l) (hB : B ≤ w.heap.size) :
    Calls Tryz.prog 30 #[.slice A n c] w fun e w' => ∃ A' c', e = .returned (.slice A' l.length c') ∧ Own 5 w' (.slice A' l.length c') l ∧ (∀ k, (Value.slice A' l.length c').ownBlock = some k → w.heap.size ≤ k) ∧ KF w w' := by
  subst hl
  have hq := fun (w : World) (a : Option Addr) (n c n' c' : Nat) => Lib.run_eql_slice_nil (P := Tryz.prog) w 29 5 a n c n' c' Tryz.underlying29
  rcases A with _ | a
  · have : l = [] := by
      rcases l with _ | ⟨b, l⟩
      · rfl
      · obtain ⟨a, h, _⟩ := hr 0 b rfl
        cases h
    subst this
    go_enter Tryz.func30, Tryz.ntmps30
    go_wp2
    go_ret
    exact ⟨none, 0, rfl, Own.nil _ _, fun k hk => by simp [Value.ownBlock] at hk, KF.refl _⟩
  · go_enter Tryz.func30, Tryz.ntmps30
    go_wp2_with (at_builtin; refine wpList_append_u8 _ rfl _ _ _ rfl u8_law (.slice (some ⟨w.heap.size, 0, none⟩) 0 0) [] rfl (Own.lit 5 _ [] (by decide)) B (some a) _ c l rfl rfl (hr.alloc hB _) (by simp; omega) ?_; intro A4 n4 c4 w4 o4 e4 h4 m4 g4 f4)
    go_ret
    simp only [List.nil_append] at o4
    obtain rfl : n4 = l.length := o4.len
    refine ⟨A4, c4, rfl, o4, fun k hk => ?_, Keep.grown ((KF.refl w).alloc (.cells #[] 5)) g4 fun k hk hlt => ?_⟩
    · rcases f4 with h | h <;> rw [h] at hk
      · have : w.heap.size = k := by simpa [Value.ownBlock] using hk
        omega
      · injection hk with hk
        rw [← hk]
        simp
    · have : w.heap.size = k := by simpa [Value.ownBlock] using hk
      omega

theorem window_eq (l : Txt) (m q : Nat) : (l.drop (min m l.length)).take (min q (l.length - min m l.length)) = (l.drop m).take q := by
  have h1 : l.drop (min m l.length) = l.drop m := by
    rcases Nat.le_total m l.length with h | h
    · rw [Nat.min_eq_left h]
    · rw [Nat.min_eq_right h, List.drop_eq_nil_of_le (Nat.le_refl _), List.drop_eq_nil_of_le h]
  have h2 : (l.drop m).length = l.length - min m l.length := by rw [← h1, List.length_drop]
  rw [h1, ← h2]
  rcases Nat.le_total q (l.drop m).length with h | h
  · rw [Nat.min_eq_left h]
  · rw [Nat.min_eq_right h, List.take_of_length_le (Nat.le_refl _), List.take_of_length_le h]
theorem doRead_err' {t : Tr} {s : Txt} {off n : Int} {k : Nat} (h : findFile t s = .error k) : doRead t s off n = (errA k, t) := by unfold doRead; rw [h]
theorem doRead_ok {t : Tr} {s : Txt} {off n : Int} {a : Nat} (h : findFile t s = .ok a) : doRead t s off n = if off < 0 ∨ n < 0 ∨ 256 < n then (errA 1, t) else (⟨0, 0, 0, 0, ((t a).data.drop off.toNat).take n.toNat, []⟩, t) := by unfold doRead; rw [h]

set_option maxRecDepth 100000 in
set_option maxHeartbeats 4000000 in
theorem read_any (kind off n : Int) (s o : ByteArray) (dv : Value) (w : World) (L : Lay) (N : Nat) (t : Tr) (hT : TreeAt w L N t) (g : Good t) (hs : s.size ≤ 1000000) (he : Env w) :
    Calls Tryz.prog 23 #[.pointer (some ⟨L.tb, 0, none⟩), .agg (callC kind off n s o dv)] w (Ansd (doRead t s.data.toList off n).1 w) := by
  have kA : ∀ X Y, KF w ((w.alloc X).alloc Y) := fun X Y => ((KF.refl w).alloc X).alloc Y
  have HC := Lib.hid fun X Y => findFile_any s ((w.alloc X).alloc Y) L N t (hT.far (kA X Y)) g hs (he.kept (kA X Y))
  have HT := Lib.hid hT
  have HG := Lib.hid g
  clear hT g
  go_enter Tryz.func23, Tryz.ntmps23
  go_wp2_with fail
  refine (HC.out _ _).mono ?_
  rintro e w1 ⟨k1, ⟨k, hk, hk0, rfl⟩ | ⟨a, hf, ha2, rfl⟩⟩
  · have HU := Lib.hid hk
    have h0 : ((k : Int) != 0) = true := bne_iff_ne.2 (by omega)
    clear hk
    obtain ⟨c0, c1, c2, c3, c4, c5, f0, f1, f2, f3, f4, f5⟩ := fresh_ans k1
    go_wp2_with fail
    refine bodyPost_ret (v := .agg #[.int .i64 (k : Int), .int .i64 0, .int .i64 0, .int .i64 0, .slice none 0 0, .slice none 0 0]) (by simp [results, Tryz.results23, go_sem, c0, c1, c2, c3, c4, c5]) rfl ?_
    exact Ansd.err (fresh_six (Nat.le_succ _) (fresh_far (fresh_far k1))) k (by rw [doRead_err' HU.out])
  · have HU := Lib.hid hf
    have T1 := HT.out.far (fresh_far (fresh_far k1))
    have ct := T1.cell_tree
    have ha0 : (t a).kind ≠ 0 := by omega
    have ha64 := HG.out.lt ha0
    have ln := T1.look_yes (n := a) (by omega) ha0
    have kw1 := fresh_far (fresh_far k1)
    have hws := kw1.size
    have cd := T1.cell_data ha0
    obtain ⟨A0, cc, hv, hlc, hcm, hrd, hob⟩ := (T1.data a ha0).shape
    have hd512 := (HG.out.file a ha2).2
    rw [hv] at cd
    obtain ⟨c0, c1, c2, c3, c4, c5, f0, f1, f2, f3, f4, f5⟩ := fresh_ans k1
    have hlt1 : w.heap.size < (w.alloc (.cells (callC kind off n s o dv) 31)).heap.size := by simp
    have c33 := ((KF.cell (KF.trans ((KF.refl _).alloc _) k1) (p := ⟨w.heap.size, 3, none⟩) hlt1)).trans (fresh_cell (KF.refl _) 3 rfl)
    have c44 := ((KF.cell (KF.trans ((KF.refl _).alloc _) k1) (p := ⟨w.heap.size, 4, none⟩) hlt1)).trans (fresh_cell (KF.refl _) 4 rfl)
    clear hf
    have HE : Hid ((off < 0 ∨ n < 0 ∨ 256 < n) → (doRead t s.data.toList off n).1 = errA 1) := Lib.hid fun h => by rw [doRead_ok HU.out, if_pos h]
    have fin : ∀ w', KF w w' → ((off < 0 ∨ n < 0 ∨ 256 < n)) → Ansd (doRead t s.data.toList off n).1 w (.returned (.agg #[.int .i64 1, .int .i64 0, .int .i64 0, .int .i64 0, .slice none 0 0, .slice none 0 0])) w' := fun w' k h => Ansd.err k 1 (HE.out h)
    have FIN := Lib.hid fin
    clear fin
    by_cases h1 : off < 0
    · have HB := Lib.hid (Or.inl h1 : off < 0 ∨ n < 0 ∨ 256 < n)
      have F2 := Lib.hid (FIN.out · · HB.out)
      clear HB FIN HE
      go_wp2_with fail
      refine bodyPost_ret (v := .agg #[.int .i64 1, .int .i64 0, .int .i64 0, .int .i64 0, .slice none 0 0, .slice none 0 0]) (by simp [results, Tryz.results23, go_sem, c0, c1, c2, c3, c4, c5]) rfl ?_
      exact F2.out _ (fresh_six (Nat.le_succ _) kw1)
    · by_cases h2 : n < 0
      · have HB := Lib.hid (Or.inr (Or.inl h2) : off < 0 ∨ n < 0 ∨ 256 < n)
        have F2 := Lib.hid (FIN.out · · HB.out)
        clear HB FIN HE
        go_wp2_with fail
        refine bodyPost_ret (v := .agg #[.int .i64 1, .int .i64 0, .int .i64 0, .int .i64 0, .slice none 0 0, .slice none 0 0]) (by simp [results, Tryz.results23, go_sem, c0, c1, c2, c3, c4, c5]) rfl ?_
        exact F2.out _ (fresh_six (Nat.le_succ _) kw1)
      · by_cases h3 : 256 < n
        · have HB := Lib.hid (Or.inr (Or.inr h3) : off < 0 ∨ n < 0 ∨ 256 < n)
          have F2 := Lib.hid (FIN.out · · HB.out)
          clear HB FIN HE
          go_wp2_with fail
          refine bodyPost_ret (v := .agg #[.int .i64 1, .int .i64 0, .int .i64 0, .int .i64 0, .slice none 0 0, .slice none 0 0]) (by simp [results, Tryz.results23, go_sem, c0, c1, c2, c3, c4, c5]) rfl ?_
          exact F2.out _ (fresh_six (Nat.le_succ _) kw1)
        · obtain ⟨m, rfl⟩ : ∃ m : Nat, off = m := ⟨off.toNat, by omega⟩
          obtain ⟨q, rfl⟩ : ∃ q : Nat, n = q := ⟨n.toNat, by omega⟩
          have HR : Hid ((doRead t s.data.toList m q).1 = ⟨0, 0, 0, 0, ((t a).data.drop m).take q, []⟩) := Lib.hid (by rw [doRead_ok HU.out, if_neg (by omega)]; rfl)
          clear FIN HE
          generalize hld : (t a).data.length = ld at *
          obtain ⟨lo, hlo⟩ : ∃ lo, min m ld = lo := ⟨_, rfl⟩
          obtain ⟨hi, hhi⟩ : ∃ hi, min q (ld - lo) = hi := ⟨_, rfl⟩
          have hm1 : min (m : Int) (ld : Int) = (lo : Int) := by omega
          have hm2 : min (q : Int) ((ld - lo : Nat) : Int) = (hi : Int) := by omega
          have hll : lo ≤ ld := by omega
          have hhl : hi ≤ ld - lo := by omega
          have HC2 := Lib.hid fun c1 => clone_any (if cc = lo then A0 else A0.map (·.add lo)) (((t a).data.drop lo).take hi) hi c1 w1 (by rw [List.length_take, List.length_drop, hld]; omega) (by rw [List.length_take, List.length_drop, hld]; omega) _ ((hrd.cut (by rw [hld]; exact hlc)).take hi) (Nat.le_refl _)
          have HLO := Lib.hid hlo
          have HHI := Lib.hid hhi
          have HLD := Lib.hid hld
          clear hlo hhi hld hrd hob hv
          have hs2 : w.heap.size + 2 ≤ w1.heap.size := Nat.le_trans (show w.heap.size + 2 ≤ ((w.alloc (.cells (callC kind m q s o dv) 31)).alloc (.cells #[.int .i64 0, .int .i64 0, .int .i64 0, .int .i64 0, .slice none 0 0, .slice none 0 0] 36)).heap.size by simp) k1.size
          have FIN : Hid (∀ (w3 : World) (A' : Option Addr) (c' z : Nat), (((t a).data.drop lo).take hi).length = z → Own 5 w3 (.slice A' z c') (((t a).data.drop lo).take hi) → (∀ k, (Value.slice A' z c').ownBlock = some k → w1.heap.size ≤ k) → KF w1 w3 →
              Ansd (doRead t s.data.toList m q).1 w (.returned (.agg #[.int .i64 0, .int .i64 0, .int .i64 0, .int .i64 0, .slice A' z c', .slice none 0 0]))
                ((((((w3.setCell ⟨w.heap.size + 1, 0, none⟩ (.int .i64 0)).setCell ⟨w.heap.size + 1, 1, none⟩ (.int .i64 0)).setCell ⟨w.heap.size + 1, 2, none⟩ (.int .i64 0)).setCell ⟨w.heap.size + 1, 3, none⟩ (.int .i64 0)).setCell ⟨w.heap.size + 1, 4, none⟩ (.slice A' z c')).setCell ⟨w.heap.size + 1, 5, none⟩ (.slice none 0 0))) := by
            refine Lib.hid fun w3 A' c' z hz ho hnew k3 => ?_
            have k6 := keep_six w3 (.int .i64 0) (.int .i64 0) (.int .i64 0) (.int .i64 0) (.slice A' z c') (.slice none 0 0) (w.heap.size + 1)
            have hw := window_eq (t a).data m q
            rw [HLD.out, HLO.out, HHI.out] at hw
            rw [HR.out]
            have hbk : ∀ x : Addr, A' = some x → w1.heap.size ≤ x.block := fun x hx => hnew x.block (by rw [hx]; rfl)
            refine ⟨A', c', none, 0, by rw [← hz, hw]; rfl, ?_, Strs.nil, fun x hx => by have := hbk x hx; omega, (fun x h => nomatch h), Keep.trans (KF.trans kw1 k3) k6 fun i hi e => by omega⟩
            show Rd _ _ A' (((t a).data.drop m).take q)
            rw [← hw]
            exact (ho.rd.keepS (Nat.le_refl _) k6 fun x hx e => by have := hbk x hx; omega).more k6.size
          by_cases hcc : cc = lo
          · rw [if_pos hcc] at HC2
            go_wp2_with fail
            refine (HC2.out _).mono ?_
            rintro e w3 ⟨A', c', rfl, ho, hnew, k3⟩
            obtain ⟨c0, c1, c2, c3, c4, c5, f0, f1, f2, f3, f4, f5⟩ := fresh_ans (KF.trans k1 k3)
            have HO := Lib.hid ho
            have HNW := Lib.hid hnew
            clear ho hnew
            generalize hz : (((t a).data.drop lo).take hi).length = z at *
            have HZ := Lib.hid hz
            clear hz
            go_wp2_with fail
            refine bodyPost_ret (v := .agg #[.int .i64 0, .int .i64 0, .int .i64 0, .int .i64 0, .slice A' z c', .slice none 0 0]) (by simp [results, Tryz.results23, go_sem, c0, c1, c2, c3, c4, c5]) rfl ?_
            exact FIN.out w3 A' c' z rfl HO.out HNW.out k3
          · rw [if_neg hcc] at HC2
            go_wp2_with fail
            refine (HC2.out _).mono ?_
            rintro e w3 ⟨A', c', rfl, ho, hnew, k3⟩
            obtain ⟨c0, c1, c2, c3, c4, c5, f0, f1, f2, f3, f4, f5⟩ := fresh_ans (KF.trans k1 k3)
            have HO := Lib.hid ho
            have HNW := Lib.hid hnew
            clear ho hnew
            generalize hz : (((t a).data.drop lo).take hi).length = z at *
            have HZ := Lib.hid hz
            clear hz
            go_wp2_with fail
            refine bodyPost_ret (v := .agg #[.int .i64 0, .int .i64 0, .int .i64 0, .int .i64 0, .slice A' z c', .slice none 0 0]) (by simp [results, Tryz.results23, go_sem, c0, c1, c2, c3, c4, c5]) rfl ?_
            exact FIN.out w3 A' c' z rfl HO.out HNW.out k3
end Go.Proofs.YtlkiaghpdjbfeaaGreatDoor
