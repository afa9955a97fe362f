/-
  EntryStreams, walked.
-/
import Derived.Test.YtklpebfkgdklmabDoorStrC
namespace Go.Proofs.YtklpebfkgdklmabDoor
open Go.RowKit Go.Maps Go.Shelf
attribute [local go_sem] Oper.semAt_some

set_option maxRecDepth 100000 in
set_option maxHeartbeats 4000000 in
theorem streams_walk (A : Option Addr) (n c : Nat) (ss : List Int) (which : Int) (w : World) (ht : Tab w) (hn : n = ss.length) (hr : RdC 1 encI w w.heap.size A ss) :
    Calls Tryd.prog 4 #[.slice A n c, .int .i64 which] w fun e w' => e = .returned (.bool true) ∧ KF w w' := by
  obtain ⟨w1, hw1⟩ : ∃ w1, w.alloc (.cells #[.int .i64 which] 3) = w1 := ⟨_, rfl⟩
  obtain ⟨w2, hw2⟩ : ∃ w2, w1.alloc (.cells #[.bool false] 4) = w2 := ⟨_, rfl⟩
  obtain ⟨g0, hg0⟩ : ∃ g0, w.heap.size = g0 := ⟨_, rfl⟩
  have k01 : KF w w1 := by rw [← hw1]; exact (KF.refl _).alloc _
  have k12 : KF w1 w2 := by rw [← hw2]; exact (KF.refl _).alloc _
  have k02 := KF.trans k01 k12
  have hs1 : w1.heap.size = g0 + 1 := by rw [← hw1, ← hg0]; simp
  have hs2 : w2.heap.size = g0 + 2 := by rw [← hw2, World.size_alloc, hs1]
  have b1 : w1.heap[g0]? = some (.cells #[.int .i64 which] 3 (0, 0)) := by rw [← hw1, ← hg0]; exact heap_alloc_new w _
  have b2 : w2.heap[g0 + 1]? = some (.cells #[.bool false] 4 (0, 0)) := by rw [← hw2, ← hs1]; exact heap_alloc_new w1 _
  have b1' := (k12.block g0 (by omega) (fun h => h)).trans b1
  have HSP := Lib.hid (speaks7 w2 (ht.kept k02 (fun h => h)))
  have HR := Lib.hid fun W (k : KF w W) => hr.kept k
  have HN := Lib.hid hn
  have HW1 := Lib.hid hw1
  have HW2 := Lib.hid hw2
  have HG0 := Lib.hid hg0
  have HB1 := Lib.hid fun W (k : KF w2 W) => (k.block g0 (by omega) (fun h => h)).trans b1'
  have HB2 := Lib.hid fun W (k : KF w2 W) => (k.block (g0 + 1) (by omega) (fun h => h)).trans b2
  have HK02 := Lib.hid k02
  have HS2 := Lib.hid hs2
  clear hw1 hw2 hg0 k01 k12 k02 hs1 hs2 b1 b2 b1' hn hr ht
  refine (callsIn_wide (n := 3)).1 ?_
  refine callsIn_of_wp_marks Tryd.func4 rfl trivial ?_ rfl
  simp only [Tryd.ntmps4, List.size_toArray, List.length_cons, List.length_nil, Nat.reduceAdd, Nat.reduceSub, Array.replicate_succ, Array.replicate_zero, List.push_toArray, List.append_toArray, List.nil_append, List.cons_append]
  refine wpIn_wide.2 ?_
  go_upto_region 1 with fail
  rw [HW1.out, HW2.out, HG0.out]
  clear HW1 HW2
  go_wp2_with fail
  refine HSP.out.mono ?_
  rintro e w3 ⟨rfl, k3⟩
  have c0 := cell_of_one (HB1.out w3 k3)
  have c1 := cell_of_one (HB2.out w3 k3)
  have f1 := free_of_one (HB2.out w3 k3)
  clear HSP
  by_cases hgt : (200 : Int) < (n : Int)
  · have KW : Hid (KF w (w3.setCell ⟨g0 + 1, 0, none⟩ (.bool true))) := Lib.hid ((KF.trans HK02.out k3).setCell (p := ⟨g0 + 1, 0, none⟩) (.inl (by have := HG0.out; show _ ≤ g0 + 1; omega)) _)
    have b3 := one_setCell (u := .bool true) (HB2.out w3 k3)
    have c3 := cell_of_one b3
    clear b3
    go_wp2_with fail
    exact ⟨.bool true, by simp [results, Tryd.results4, go_sem, c3], rfl, KW.out⟩
  · have hmk := @run_makeMap Tryd.prog
    go_upto_region 7 with fail
    obtain ⟨W0, hW0⟩ : ∃ W0, (((((w3.alloc (.cells #[] 26)).alloc (.map #[] 0)).alloc (.cells #[.slice (some ⟨w3.heap.size, 0, none⟩) 0 0] 38)).alloc (.cells #[] 3)).alloc (.cells #[.slice (some ⟨w3.heap.size + 1 + 1 + 1, 0, none⟩) 0 0] 37)) = W0 := ⟨_, rfl⟩
    have hs3 : g0 + 2 ≤ w3.heap.size := by have := k3.size; have := HS2.out; omega
    have hwg : w.heap.size = g0 := HG0.out
    have kw3 := KF.trans HK02.out k3
    have EWs : EW w3 (w3.heap.size + 1 + 1) (w3.heap.size + 1 + 1 + 1 + 1) (w3.heap.size + 1) g0 (g0 + 1) := ⟨by omega, by omega, by omega, by omega, by omega, by omega, by omega, by omega, by omega⟩
    have k30 : KF w3 W0 := by rw [← hW0]; exact (((((KF.refl w3).alloc _).alloc _).alloc _).alloc _).alloc _
    have hz0 : W0.heap.size = w3.heap.size + 5 := by rw [← hW0]; simp
    have E0 : ES w w3 (w3.heap.size + 1 + 1) (w3.heap.size + 1 + 1 + 1 + 1) (w3.heap.size + 1) g0 (g0 + 1) (which % 8) which [] [] [] W0 := by
      refine ⟨⟨.slice (some ⟨w3.heap.size, 0, none⟩) 0 0, ?_, ?_, NB.new (Nat.le_refl _) _ _⟩, ⟨.slice (some ⟨w3.heap.size + 1 + 1 + 1, 0, none⟩) 0 0, ?_, ?_, ?_⟩, ?_, (k30.block _ (by omega) (fun h => h)).trans (HB1.out w3 k3), (k30.block _ (by omega) (fun h => h)).trans (HB2.out w3 k3), KF.trans kw3 k30⟩
      · rw [← hW0, Below.heap_alloc _ _ _ (by simp), Below.heap_alloc _ _ _ (by simp)]
        have := World.alloc_heap_new ((w3.alloc (.cells #[] 26)).alloc (.map #[] 0)) (.cells #[.slice (some ⟨w3.heap.size, 0, none⟩) 0 0] 38)
        rwa [World.size_alloc, World.size_alloc] at this
      · rw [← hW0]
        exact ((((OwnC.empty (K := 7) (enc := encL) 26 w3).alloc _).alloc _).alloc _).alloc _
      · rw [← hW0]
        have := World.alloc_heap_new ((((w3.alloc (.cells #[] 26)).alloc (.map #[] 0)).alloc (.cells #[.slice (some ⟨w3.heap.size, 0, none⟩) 0 0] 38)).alloc (.cells #[] 3)) (.cells #[.slice (some ⟨w3.heap.size + 1 + 1 + 1, 0, none⟩) 0 0] 37)
        rwa [World.size_alloc, World.size_alloc, World.size_alloc, World.size_alloc] at this
      · rw [← hW0]
        have := (OwnC.empty (K := 1) (enc := encI) 3 (((w3.alloc (.cells #[] 26)).alloc (.map #[] 0)).alloc (.cells #[.slice (some ⟨w3.heap.size, 0, none⟩) 0 0] 38))).alloc (.cells #[.slice (some ⟨w3.heap.size + 1 + 1 + 1, 0, none⟩) 0 0] 37)
        rwa [World.size_alloc, World.size_alloc, World.size_alloc] at this
      · intro i hi
        simp only [Value.ownBlock, Option.some.injEq] at hi
        omega
      · rw [← hW0]
        have h1 := MapV.made Tryd.prog 3 (w3.alloc (.cells #[] 26))
        rw [World.size_alloc] at h1
        exact (h1.kept (S := fun _ => False) ((((KF.refl _).alloc _).alloc _).alloc _) (fun h => h)).congr (fun _ kl _ => by unfold endF; split <;> simp [prevR])
    rw [hW0]
    clear hW0
    obtain ⟨rev, hrev⟩ : ∃ rev : Nat → List Int, rev = fun k => ((ss.take k).map (· % 8)).reverse := ⟨_, rfl⟩
    have hrev0 : rev 0 = [] := by rw [hrev]; rfl
    have hrevl : ∀ k, k ≤ ss.length → (rev k).length = k := fun k hk => by rw [hrev]; simp; omega
    have hrevs : ∀ k (hk : k < ss.length), rev (k + 1) = ss[k] % 8 :: rev k := fun k hk => by rw [hrev]; simp only; rw [List.take_succ_eq_append_getElem hk, List.map_append, List.reverse_append]; rfl
    clear hrev
    rw [← hrev0] at E0
    have HREV := Lib.hid hrevs
    have HREVL := Lib.hid hrevl
    clear hrevs hrevl hrev0
    have hn200 : n ≤ 200 := by omega
    have hEW := Lib.hid EWs
    go_wp2_with fail
    go_loopg [28] n (fun gh i wr => ∃ k : Nat, k ≤ n ∧ n - k ≤ gh ∧ i = .int .i64 k ∧ ES w w3 (w3.heap.size + 1 + 1) (w3.heap.size + 1 + 1 + 1 + 1) (w3.heap.size + 1) g0 (g0 + 1) (which % 8) which (rev k) (rev k) (rev k) wr)
    case atStart => exact ⟨0, by omega, by omega, rfl, E0⟩
    case round =>
      obtain ⟨k, hk, hgk, rfl, hE⟩ := hrel
      rcases Nat.lt_or_ge k n with hlt | hge
      · have hlt' : (k : Int) < (n : Int) := by omega
        have q1 : k < ss.length := by rw [← HN.out]; exact hlt
        obtain ⟨b, o, rfl, hbb, hcell⟩ := HR.out wr hE.keep k ss[k] (List.getElem?_eq_getElem q1)
        have hcl := hcell 0 _ rfl
        rw [Nat.mul_one, Nat.add_zero] at hcl
        have hR1 := HREV.out k q1
        have HKL := Lib.hid (HREVL.out k (by omega))
        have hand := i64_and7 ss[k]
        obtain ⟨x, hx⟩ : ∃ x, ss[k] % 8 = x := ⟨_, rfl⟩
        rw [hx] at hand hR1
        have hx8 : 0 ≤ x ∧ x ≤ 7 := by omega
        generalize ss[k] = s0 at *
        generalize hrk : rev k = r at *
        have HR1 := Lib.hid hR1
        clear hcell hx hR1 hrk
        have hkx : keyOf Tryd.prog 3 (.int .i64 x) = some (.int .i64 x) := keyOf_int_mk Tryd.underlying3 (wf8 hx8)
        have hlook := fun (z : Value) (hz : (zeroValue 3).run Tryd.prog wr = .ok z wr) => hE.mp.look_ok (int_keyed Tryd.underlying3) Tryd.underlying39 hz hkx
        have hzz : (zeroValue 3).run Tryd.prog wr = .ok (.int .i64 0) wr := rfl
        have hlk := hlook _ hzz
        clear hlook hzz
        by_cases hpr : prevR r x = -1
        · have hl2 : (Instr.lookup 39 (.map (some (w3.heap.size + 1))) (.int .i64 x) true).run Tryd.prog wr = .ok (.tuple #[.int .i64 0, .bool false]) wr := by rw [hlk]; simp [endF, hpr]
          clear hlk
          go_upto_region 14 with fail
          have hm1 : (Value.int .i64 (-1)) = .int .i64 (prevR r x) := by rw [hpr]
          rw [hm1]
          clear hm1 hpr hl2 hcl
          obtain ⟨vL, l1, l2, l3⟩ := hE.lg
          obtain ⟨AL, cL, rfl, _, _, _, _⟩ := id (l2.shape encL_len)
          have hcL := cell_of_one l1
          have hlr := logR_length r
          have hlx : logR (x :: r) = logR r ++ [⟨1, 0, 0, 0, x, prevR r x, []⟩] := rfl
          have lit := RdC.lit encL_len wr 26 ⟨1, 0, 0, 0, x, prevR r x, []⟩
          have hcq0 := hE.cq
          have hand2 := i64_and7 which
          have hbd : ((logR r).length + [(⟨1, 0, 0, 0, x, prevR r x, []⟩ : TLog)].length) * 72 ≤ 140737488355328 := by rw [hlr]; simp; have := HKL.out; omega
          have hbd2 : (logR r).length + [(⟨1, 0, 0, 0, x, prevR r x, []⟩ : TLog)].length ≤ 1000000000 := by rw [hlr]; simp; have := HKL.out; omega
          have STEP := Lib.hid fun A4 n4 c4 w4 (o4 : OwnC 26 7 encL w4 (.slice A4 n4 c4) (logR r ++ [⟨1, 0, 0, 0, x, prevR r x, []⟩])) (g4 : (wr.alloc (.cells (encL ⟨1, 0, 0, 0, x, prevR r x, []⟩).toArray 26)).grownBy w4 (Value.slice AL (logR r).length cL).ownBlock) f4 => hE.log hEW.out (by omega) hlx l1 l3 l2 o4 g4 f4
          have BOX := Lib.hid fun w4 (g4 : (wr.alloc (.cells (encL ⟨1, 0, 0, 0, x, prevR r x, []⟩).toArray 26)).grownBy w4 (Value.slice AL (logR r).length cL).ownBlock) => show w4.heap[w3.heap.size + 1 + 1]? = some (.cells #[.slice AL (logR r).length cL] 38 (0, 0)) from
            ((((Keep.refl (fun i => (Value.slice AL (logR r).length cL).ownBlock = some i) wr).alloc (.cells (encL ⟨1, 0, 0, 0, x, prevR r x, []⟩).toArray 26)).trans (Keep.of_grown g4) (fun _ _ h => h)).block _ (lt_of_block l1) (fun e => l2.ne_ l1 (by decide) e)).trans l1
          have UPD := Lib.hid fun W (E : ES w w3 (w3.heap.size + 1 + 1) (w3.heap.size + 1 + 1 + 1 + 1) (w3.heap.size + 1) g0 (g0 + 1) (which % 8) which (x :: r) r r W) => show ∃ W', (Instr.mapUpdate 39 (.map (some (w3.heap.size + 1))) (.int .i64 x) (.int .i64 (k : Int))).run Tryd.prog W = .ok () W' ∧ ES w w3 (w3.heap.size + 1 + 1) (w3.heap.size + 1 + 1 + 1 + 1) (w3.heap.size + 1) g0 (g0 + 1) (which % 8) which (x :: r) (x :: r) r W' by
            obtain ⟨W', h1, h2, h3⟩ := E.mp.store (int_keyed Tryd.underlying3) Tryd.underlying39 (by simp only [maxLen]; have := HKL.out; omega) hkx (val := .int .i64 (k : Int))
            rw [← HKL.out] at h2
            exact ⟨W', h1, E.ends hEW.out (by omega) h2 h3⟩
          rw [hlr] at hcL hbd hbd2 STEP BOX l1 l2
          have HLR := Lib.hid hlr
          have lit2 : RdC 7 encL (wr.alloc (.cells #[.int .i64 1, .int .i64 0, .int .i64 0, .int .i64 0, .int .i64 x, .int .i64 (prevR r x), .slice none 0 0] 26)) (wr.heap.size + 1) (some ⟨wr.heap.size, 0, none⟩) [⟨1, 0, 0, 0, x, prevR r x, []⟩] := lit
          clear l1 hE lit hlx hlr
          go_upto_region 16 with (at_builtin; refine wpList_append_c _ rfl _ _ _ rfl ctLog encL_len encL_one (by decide) _ (logR r) rfl (l2.alloc _) (wr.heap.size + 1) _ _ _ [⟨1, 0, 0, 0, x, prevR r x, []⟩] rfl rfl lit2 (by rw [HLR.out]; exact hbd) (by rw [HLR.out]; exact hbd2) ?_; intro A4 n4 c4 w4 o4 e4 h4 m4 g4 f4; have b4 := BOX.out w4 g4; have cb4 := cell_of_one b4; have fb4 := free_of_one b4; have E4 := STEP.out A4 n4 c4 w4 o4 g4 f4; obtain ⟨W5, hU, E5⟩ := UPD.out _ E4)
          clear b4 cb4 fb4 E4 hU o4 e4 h4 m4 g4 f4 STEP BOX UPD lit2 l2 l3 hbd hbd2 hcL hcq0
          obtain ⟨vW, t1, t2, t3⟩ := E5.wt
          obtain ⟨AW, cW, rfl, _, _, tR, _⟩ := id (t2.shape encI_len)
          have hcq5 := cell_of_one E5.cq
          have hcW := cell_of_one t1
          have hwl := Lib.hid (wantR_length (which % 8) r)
          have hR2 := Lib.hid HR1.out
          by_cases hxq : x = which % 8
          · have zx : (x == which % 8) = true := beq_iff_eq.2 hxq
            have hwx : wantR (which % 8) (x :: r) = [(k : Int)] ++ wantR (which % 8) r := by simp only [wantR, hxq, if_true]; rw [HKL.out]; rfl
            have oW : OwnC 3 1 encI (W5.alloc (.cells #[.int .i64 (k : Int)] 3)) (.slice (some ⟨W5.heap.size, 0, none⟩) 1 1) [(k : Int)] := OwnC.one encI_len 3 W5 (k : Int)
            have rW : RdC 1 encI (W5.alloc (.cells #[.int .i64 (k : Int)] 3)) W5.heap.size AW (wantR (which % 8) r) := tR.keep (Nat.le_refl _) ((KF.refl W5).alloc _) (fun _ _ h => h)
            have hb1 : ([(k : Int)].length + (wantR (which % 8) r).length) * 8 ≤ 140737488355328 := by have := hwl.out; have := HKL.out; simp only [List.length_cons, List.length_nil]; omega
            have hb2 : [(k : Int)].length + (wantR (which % 8) r).length ≤ 1000000000 := by have := hwl.out; have := HKL.out; simp only [List.length_cons, List.length_nil]; omega
            have KY := Lib.hid fun Y (g : (W5.alloc (.cells #[.int .i64 (k : Int)] 3)).grownBy Y (Value.slice (some ⟨W5.heap.size, 0, none⟩) 1 1).ownBlock) => show KF W5 Y from ((KF.refl W5).alloc _).own g (NB.new (Nat.le_refl _) 1 1)
            have BOX2 := Lib.hid fun Y (k : KF W5 Y) => (k.block _ (lt_of_block t1) (fun h => h)).trans t1
            have STEP2 := Lib.hid fun A' n' c' Y (o : OwnC 3 1 encI Y (.slice A' n' c') ([(k : Int)] ++ wantR (which % 8) r)) (kk : KF W5 Y) (nn : NB W5 (.slice A' n' c')) => E5.want hEW.out (by omega) t1 (r' := x :: r) (by rw [hwx]; exact o) kk nn
            obtain ⟨wl, hwl2⟩ : ∃ wl, (wantR (which % 8) r).length = wl := ⟨_, rfl⟩
            have hcW2 := cell_of_one ((((KF.refl W5).alloc (.cells #[.int .i64 (k : Int)] 3)).block _ (lt_of_block t1) (fun h => h)).trans t1)
            rw [hwl2] at hcW hcW2 hb1 hb2
            have HWL := Lib.hid hwl2
            clear hwl2 t1 t2 t3 hwx E5 tR hxq hwl
            go_wp2_with (at_builtin; refine wpList_append_c _ rfl _ _ _ rfl ctInt encI_len encI_one (by decide) _ [(k : Int)] rfl oW W5.heap.size AW wl cW (wantR (which % 8) r) rfl HWL.out.symm rW (by rw [HWL.out]; exact hb1) (by rw [HWL.out]; exact hb2) ?_; intro A8 n8 c8 w8 o8 e8 h8 m8 g8 f8; have k8 := KY.out w8 g8; have b8 := BOX2.out w8 k8; have cb8 := cell_of_one b8; have fb8 := free_of_one b8; have E8 := STEP2.out A8 n8 c8 w8 o8 k8 ((NB.new (Nat.le_refl _) 1 1).next (by simp) f8))
            have HE8 := Lib.hid E8
            clear E8 b8 cb8 fb8 k8 o8 g8 f8
            go_roundg (n - (k + 1))
            case measure => omega
            case rel => exact ⟨k + 1, by omega, by omega, by go_num, by rw [hR2.out]; exact HE8.out⟩
          · have zx : (x == which % 8) = false := beq_eq_false_iff_ne.2 hxq
            have HE8 := Lib.hid (E5.skip hxq)
            clear E5 t1 t2 t3 tR hxq
            go_wp2_with fail
            go_roundg (n - (k + 1))
            case measure => omega
            case rel => exact ⟨k + 1, by omega, by omega, by go_num, by rw [hR2.out]; exact HE8.out⟩
        · have hl2 : (Instr.lookup 39 (.map (some (w3.heap.size + 1))) (.int .i64 x) true).run Tryd.prog wr = .ok (.tuple #[.int .i64 (prevR r x), .bool true]) wr := by rw [hlk]; simp [endF, hpr]
          clear hlk
          go_upto_region 14 with fail
          clear hpr hl2 hcl
          obtain ⟨vL, l1, l2, l3⟩ := hE.lg
          obtain ⟨AL, cL, rfl, _, _, _, _⟩ := id (l2.shape encL_len)
          have hcL := cell_of_one l1
          have hlr := logR_length r
          have hlx : logR (x :: r) = logR r ++ [⟨1, 0, 0, 0, x, prevR r x, []⟩] := rfl
          have lit := RdC.lit encL_len wr 26 ⟨1, 0, 0, 0, x, prevR r x, []⟩
          have hcq0 := hE.cq
          have hand2 := i64_and7 which
          have hbd : ((logR r).length + [(⟨1, 0, 0, 0, x, prevR r x, []⟩ : TLog)].length) * 72 ≤ 140737488355328 := by rw [hlr]; simp; have := HKL.out; omega
          have hbd2 : (logR r).length + [(⟨1, 0, 0, 0, x, prevR r x, []⟩ : TLog)].length ≤ 1000000000 := by rw [hlr]; simp; have := HKL.out; omega
          have STEP := Lib.hid fun A4 n4 c4 w4 (o4 : OwnC 26 7 encL w4 (.slice A4 n4 c4) (logR r ++ [⟨1, 0, 0, 0, x, prevR r x, []⟩])) (g4 : (wr.alloc (.cells (encL ⟨1, 0, 0, 0, x, prevR r x, []⟩).toArray 26)).grownBy w4 (Value.slice AL (logR r).length cL).ownBlock) f4 => hE.log hEW.out (by omega) hlx l1 l3 l2 o4 g4 f4
          have BOX := Lib.hid fun w4 (g4 : (wr.alloc (.cells (encL ⟨1, 0, 0, 0, x, prevR r x, []⟩).toArray 26)).grownBy w4 (Value.slice AL (logR r).length cL).ownBlock) => show w4.heap[w3.heap.size + 1 + 1]? = some (.cells #[.slice AL (logR r).length cL] 38 (0, 0)) from
            ((((Keep.refl (fun i => (Value.slice AL (logR r).length cL).ownBlock = some i) wr).alloc (.cells (encL ⟨1, 0, 0, 0, x, prevR r x, []⟩).toArray 26)).trans (Keep.of_grown g4) (fun _ _ h => h)).block _ (lt_of_block l1) (fun e => l2.ne_ l1 (by decide) e)).trans l1
          have UPD := Lib.hid fun W (E : ES w w3 (w3.heap.size + 1 + 1) (w3.heap.size + 1 + 1 + 1 + 1) (w3.heap.size + 1) g0 (g0 + 1) (which % 8) which (x :: r) r r W) => show ∃ W', (Instr.mapUpdate 39 (.map (some (w3.heap.size + 1))) (.int .i64 x) (.int .i64 (k : Int))).run Tryd.prog W = .ok () W' ∧ ES w w3 (w3.heap.size + 1 + 1) (w3.heap.size + 1 + 1 + 1 + 1) (w3.heap.size + 1) g0 (g0 + 1) (which % 8) which (x :: r) (x :: r) r W' by
            obtain ⟨W', h1, h2, h3⟩ := E.mp.store (int_keyed Tryd.underlying3) Tryd.underlying39 (by simp only [maxLen]; have := HKL.out; omega) hkx (val := .int .i64 (k : Int))
            rw [← HKL.out] at h2
            exact ⟨W', h1, E.ends hEW.out (by omega) h2 h3⟩
          rw [hlr] at hcL hbd hbd2 STEP BOX l1 l2
          have HLR := Lib.hid hlr
          have lit2 : RdC 7 encL (wr.alloc (.cells #[.int .i64 1, .int .i64 0, .int .i64 0, .int .i64 0, .int .i64 x, .int .i64 (prevR r x), .slice none 0 0] 26)) (wr.heap.size + 1) (some ⟨wr.heap.size, 0, none⟩) [⟨1, 0, 0, 0, x, prevR r x, []⟩] := lit
          clear l1 hE lit hlx hlr
          go_upto_region 16 with (at_builtin; refine wpList_append_c _ rfl _ _ _ rfl ctLog encL_len encL_one (by decide) _ (logR r) rfl (l2.alloc _) (wr.heap.size + 1) _ _ _ [⟨1, 0, 0, 0, x, prevR r x, []⟩] rfl rfl lit2 (by rw [HLR.out]; exact hbd) (by rw [HLR.out]; exact hbd2) ?_; intro A4 n4 c4 w4 o4 e4 h4 m4 g4 f4; have b4 := BOX.out w4 g4; have cb4 := cell_of_one b4; have fb4 := free_of_one b4; have E4 := STEP.out A4 n4 c4 w4 o4 g4 f4; obtain ⟨W5, hU, E5⟩ := UPD.out _ E4)
          clear b4 cb4 fb4 E4 hU o4 e4 h4 m4 g4 f4 STEP BOX UPD lit2 l2 l3 hbd hbd2 hcL hcq0
          obtain ⟨vW, t1, t2, t3⟩ := E5.wt
          obtain ⟨AW, cW, rfl, _, _, tR, _⟩ := id (t2.shape encI_len)
          have hcq5 := cell_of_one E5.cq
          have hcW := cell_of_one t1
          have hwl := Lib.hid (wantR_length (which % 8) r)
          have hR2 := Lib.hid HR1.out
          by_cases hxq : x = which % 8
          · have zx : (x == which % 8) = true := beq_iff_eq.2 hxq
            have hwx : wantR (which % 8) (x :: r) = [(k : Int)] ++ wantR (which % 8) r := by simp only [wantR, hxq, if_true]; rw [HKL.out]; rfl
            have oW : OwnC 3 1 encI (W5.alloc (.cells #[.int .i64 (k : Int)] 3)) (.slice (some ⟨W5.heap.size, 0, none⟩) 1 1) [(k : Int)] := OwnC.one encI_len 3 W5 (k : Int)
            have rW : RdC 1 encI (W5.alloc (.cells #[.int .i64 (k : Int)] 3)) W5.heap.size AW (wantR (which % 8) r) := tR.keep (Nat.le_refl _) ((KF.refl W5).alloc _) (fun _ _ h => h)
            have hb1 : ([(k : Int)].length + (wantR (which % 8) r).length) * 8 ≤ 140737488355328 := by have := hwl.out; have := HKL.out; simp only [List.length_cons, List.length_nil]; omega
            have hb2 : [(k : Int)].length + (wantR (which % 8) r).length ≤ 1000000000 := by have := hwl.out; have := HKL.out; simp only [List.length_cons, List.length_nil]; omega
            have KY := Lib.hid fun Y (g : (W5.alloc (.cells #[.int .i64 (k : Int)] 3)).grownBy Y (Value.slice (some ⟨W5.heap.size, 0, none⟩) 1 1).ownBlock) => show KF W5 Y from ((KF.refl W5).alloc _).own g (NB.new (Nat.le_refl _) 1 1)
            have BOX2 := Lib.hid fun Y (k : KF W5 Y) => (k.block _ (lt_of_block t1) (fun h => h)).trans t1
            have STEP2 := Lib.hid fun A' n' c' Y (o : OwnC 3 1 encI Y (.slice A' n' c') ([(k : Int)] ++ wantR (which % 8) r)) (kk : KF W5 Y) (nn : NB W5 (.slice A' n' c')) => E5.want hEW.out (by omega) t1 (r' := x :: r) (by rw [hwx]; exact o) kk nn
            obtain ⟨wl, hwl2⟩ : ∃ wl, (wantR (which % 8) r).length = wl := ⟨_, rfl⟩
            have hcW2 := cell_of_one ((((KF.refl W5).alloc (.cells #[.int .i64 (k : Int)] 3)).block _ (lt_of_block t1) (fun h => h)).trans t1)
            rw [hwl2] at hcW hcW2 hb1 hb2
            have HWL := Lib.hid hwl2
            clear hwl2 t1 t2 t3 hwx E5 tR hxq hwl
            go_wp2_with (at_builtin; refine wpList_append_c _ rfl _ _ _ rfl ctInt encI_len encI_one (by decide) _ [(k : Int)] rfl oW W5.heap.size AW wl cW (wantR (which % 8) r) rfl HWL.out.symm rW (by rw [HWL.out]; exact hb1) (by rw [HWL.out]; exact hb2) ?_; intro A8 n8 c8 w8 o8 e8 h8 m8 g8 f8; have k8 := KY.out w8 g8; have b8 := BOX2.out w8 k8; have cb8 := cell_of_one b8; have fb8 := free_of_one b8; have E8 := STEP2.out A8 n8 c8 w8 o8 k8 ((NB.new (Nat.le_refl _) 1 1).next (by simp) f8))
            have HE8 := Lib.hid E8
            clear E8 b8 cb8 fb8 k8 o8 g8 f8
            go_roundg (n - (k + 1))
            case measure => omega
            case rel => exact ⟨k + 1, by omega, by omega, by go_num, by rw [hR2.out]; exact HE8.out⟩
          · have zx : (x == which % 8) = false := beq_eq_false_iff_ne.2 hxq
            have HE8 := Lib.hid (E5.skip hxq)
            clear E5 t1 t2 t3 tR hxq
            go_wp2_with fail
            go_roundg (n - (k + 1))
            case measure => omega
            case rel => exact ⟨k + 1, by omega, by omega, by go_num, by rw [hR2.out]; exact HE8.out⟩
      · obtain rfl : n = k := by omega
        have hcq := cell_of_one hE.cq
        have hq8 : 0 ≤ which % 8 ∧ which % 8 ≤ 7 := by omega
        have hand2 := i64_and7 which
        have hkq : keyOf Tryd.prog 3 (.int .i64 (which % 8)) = some (.int .i64 (which % 8)) := keyOf_int_mk Tryd.underlying3 (wf8 hq8)
        have hzz : (zeroValue 3).run Tryd.prog wr = .ok (.int .i64 0) wr := rfl
        have hlk := hE.mp.look_ok (int_keyed Tryd.underlying3) Tryd.underlying39 hzz hkq
        have HRL := Lib.hid (HREVL.out n (Nat.le_of_eq HN.out))
        generalize which % 8 = q at *
        generalize rev n = R at *
        obtain ⟨vL, vW, nvL, nvW, S0⟩ := hE.walk (at_ := prevR R q)
        obtain ⟨nb, hnb⟩ : ∃ nb, wr.heap.size = nb := ⟨_, rfl⟩
        obtain ⟨V, hV⟩ : ∃ V, ((wr.alloc (.cells #[.int .i64 0] 3)).alloc (.cells #[.int .i64 (prevR R q)] 3)).alloc (.cells #[.func (.func 11) #[] #[.pointer (some ⟨w3.heap.size + 1 + 1, 0, none⟩)]] 41) = V := ⟨_, rfl⟩
        rw [hV, hnb] at S0
        rw [hnb] at nvL nvW
        have hzV : V.heap.size = nb + 3 := by rw [← hV, ← hnb]; simp
        have HLT : Hid (w3.heap.size + 1 + 1 < nb ∧ w3.heap.size + 1 + 1 + 1 + 1 < nb ∧ g0 + 1 < nb ∧ w.heap.size ≤ g0) := Lib.hid (by
          obtain ⟨_, e1, _⟩ := hE.lg
          obtain ⟨_, e2, _⟩ := hE.wt
          have h1 := lt_of_block e1
          have h2 := lt_of_block e2
          omega)
        have hR200 : R.length ≤ 1000 := by have := HRL.out; omega
        have HV := Lib.hid hV
        have HNB := Lib.hid hnb
        have hst : ∀ k, Stands V.heap.size (SK w (w3.heap.size + 1 + 1) (w3.heap.size + 1 + 1 + 1 + 1) g0 (g0 + 1) nb q which (prevR R q) R vL vW k) := fun k => SK.stands (by have := HLT.out; omega) k
        have HS0 := Lib.hid S0
        have HST := Lib.hid hst
        have HZV := Lib.hid hzV
        clear hzz hkq HREV HREVL hV hnb S0 hst hE hzV E0
        by_cases hpr : prevR R q = -1
        · have hl2 : (Instr.lookup 39 (.map (some (w3.heap.size + 1))) (.int .i64 q) true).run Tryd.prog wr = .ok (.tuple #[.int .i64 0, .bool false]) wr := by rw [hlk]; simp [endF, hpr]
          clear hlk
          go_upto_region 22 with fail
          have hm1 : (Value.int .i64 (-1)) = .int .i64 (prevR R q) := by rw [hpr]
          rw [hm1]
          clear hm1
          clear hl2 hpr
          go_upto_region 23 with fail
          go_wp2_with (go_at_call 12; refine (walk_any _ _ _ _).mono ?_; rintro e w9 ⟨rfl, rfl⟩)
          have hV := HV.out
          have hnb := HNB.out
          rw [hV, hnb]
          clear hV HV HNB
          have hst := HST.out
          refine (wpIn_wide (n := 3)).1 ?_
          refine range_law2 rfl (by omega) (gf := 26) (lb := #[.pointer (some ⟨nb + 1, 0, none⟩), .pointer (some ⟨nb + 1 + 1, 0, none⟩)]) rfl trivial (enters_of Tryd.func26 (by kernel_rfl) rfl)
            (encs := fun p : Stp => #[.int .i64 p.1, .agg (ecells p.2.1 none 0 0)]) (fun _ => rfl)
            (WI (rdR R) (prevR R q) V.heap.size (SK w (w3.heap.size + 1 + 1) (w3.heap.size + 1 + 1 + 1 + 1) g0 (g0 + 1) nb q which (prevR R q) R vL vW)) (WM (rdR R) (prevR R q) V.heap.size (SK w (w3.heap.size + 1 + 1) (w3.heap.size + 1 + 1 + 1 + 1) g0 (g0 + 1) nb q which (prevR R q) R vL vW)) (WD (rdR R) (prevR R q) (SK w (w3.heap.size + 1 + 1) (w3.heap.size + 1 + 1 + 1 + 1) g0 (g0 + 1) nb q which (prevR R q) R vL vW))
            (fun pre => WI.stands hst) (fun xs => WD.stands hst)
            (fun o o' => ⟨⟨_, rfl⟩, HS0.out.keptF (((KF.refl V).alloc o).alloc o'), fun p hp => by simp at hp, by simp; omega⟩)
            (fun pre p a' Y => ∃ xb, a' = { tmps := #[.slice A n c, .int .i64 which, undef, .pointer (some ⟨g0, 0, none⟩), .pointer (some ⟨g0 + 1, 0, none⟩), .pointer (some ⟨w3.heap.size + 1 + 1, 0, none⟩), .map (some (w3.heap.size + 1)), .pointer (some ⟨w3.heap.size + 1 + 1 + 1 + 1, 0, none⟩), u8, u9, u10, u11, .int .i64 (prevR R q), .bool false, .pointer (some ⟨nb, 0, none⟩), .func (.func 11) #[] #[.pointer (some ⟨w3.heap.size + 1 + 1, 0, none⟩)], .int .i64 p.1, .pointer (some ⟨xb, 0, none⟩), .bool true, .bool false, .slice A n c, .int .i64 n, .bool (decide ((200 : Int) < (n : Int))), .slice (some ⟨w3.heap.size, 0, none⟩) 0 0, .map (some (w3.heap.size + 1)), .slice (some ⟨w3.heap.size + 1 + 1 + 1, 0, none⟩) 0 0, .slice A n c, .int .i64 n, .int .i64 n, .bool false, u30, u31, u32, u33, u34, u35, u36, u37, u38, u39, u40, u41, u42, u43, u44, u45, u46, u47, u48, u49, u50, u51, u52, u53, u54, u55, u56, u57, u58, u59, u60, .tuple #[.int .i64 0, .bool false], .map (some (w3.heap.size + 1)), .int .i64 which, .int .i64 q, .tuple #[.int .i64 0, .bool false], .int .i64 0, .bool false, .bool false, .bool true, .func (.func 11) #[] #[.pointer (some ⟨w3.heap.size + 1 + 1, 0, none⟩)], .int .i64 (prevR R q), .func (.func 11) #[] #[.pointer (some ⟨w3.heap.size + 1 + 1, 0, none⟩)], .func (.func 26) #[] #[.pointer (some ⟨nb + 1, 0, none⟩), .pointer (some ⟨nb + 1 + 1, 0, none⟩)], .int .i64 p.1, .agg (ecells p.2.1 none 0 0), undef, undef, undef, undef, undef, undef, undef, undef, undef, undef, undef, undef, undef, undef, undef, undef, undef, undef, undef, undef, undef, undef, undef, undef, undef], defers := [] } ∧ V.heap.size ≤ xb ∧ Lg Y xb (.int .i64 p.2.1.kind) (.int .i64 p.2.1.client) (.int .i64 p.2.1.birth) (.int .i64 p.2.1.number) (.int .i64 p.2.1.stream) (.int .i64 p.2.1.back) (.slice none 0 0) ∧ WM (rdR R) (prevR R q) V.heap.size (SK w (w3.heap.size + 1 + 1) (w3.heap.size + 1 + 1 + 1 + 1) g0 (g0 + 1) nb q which (prevR R q) R vL vW) pre p Y)
            (fun pre p a' Y i o o' hi ho hc ⟨xb, h1, h2, h3, h4⟩ => ⟨xb, h1, h2, Lg.stands (b := V.heap.size) Y i o o' hi ho hc h3, WM.stands hst Y i o o' hi ho hc h4⟩) ?assign ?body ?iter ?done
          case assign =>
            intro l pre p Y K hM hK
            obtain ⟨g, hg⟩ : ∃ g, Y.heap.size = g := ⟨_, rfl⟩
            obtain ⟨Z, hZ⟩ : ∃ Z, Y.alloc (.cells #[.int .i64 p.2.1.kind, .int .i64 p.2.1.client, .int .i64 p.2.1.birth, .int .i64 p.2.1.number, .int .i64 p.2.1.stream, .int .i64 p.2.1.back, .slice none 0 0] 26) = Z := ⟨_, rfl⟩
            have kZ : KF Y Z := by rw [← hZ]; exact (KF.refl Y).alloc _
            have P : Lg Z g (.int .i64 p.2.1.kind) (.int .i64 p.2.1.client) (.int .i64 p.2.1.birth) (.int .i64 p.2.1.number) (.int .i64 p.2.1.stream) (.int .i64 p.2.1.back) (.slice none 0 0) := ⟨by rw [← hZ, ← hg]; exact heap_alloc_new Y _⟩
            have MZ : WM (rdR R) (prevR R q) V.heap.size (SK w (w3.heap.size + 1 + 1) (w3.heap.size + 1 + 1 + 1 + 1) g0 (g0 + 1) nb q which (prevR R q) R vL vW) pre p Z := ⟨hM.told, hM.st.keptF kZ, ⟨hM.own.1, hM.own.2.kept kZ (fun h => h)⟩, Nat.le_trans hM.size kZ.size⟩
            have hgV : V.heap.size ≤ g := by rw [← hg]; exact hM.size
            have KZ : KeepsFrom V.heap.size Y Z := keepsFrom_of kZ (fun i hi => hi.elim) _
            have HZ := Lib.hid hZ
            have HG := Lib.hid hg
            have HP := Lib.hid P
            have HMZ := Lib.hid MZ
            clear hZ hg P MZ hM kZ
            gi_wp2
            rw [HZ.out, HG.out]
            exact hK _ _ ⟨g, rfl, hgV, HP.out, HMZ.out⟩ KZ
          case iter =>
            intro l Y BK hBK hY hI hB
            exact iter_walk (rdR R) (prevR R q) V.heap.size _ (nb + 1) 11 #[.pointer (some ⟨w3.heap.size + 1 + 1, 0, none⟩)] (enters_of Tryd.func11 (by kernel_rfl) rfl) (fun k X Y h hk => h.keptF hk) (fun k X h => h.a) (fun k X h => ⟨_, h.r⟩) (fun k X z hz h => sread_any R _ z hz X vL h.lg h.ol hR200) l BK hBK hY Y hI hB
          case body =>
            rintro l pre p a' Y ⟨xb, rfl, hxb, P, hM⟩
            have hS := hM.st
            obtain ⟨hat, hstr⟩ := wantR_walk hM.told
            obtain ⟨AW, cW, rfl, _, _, hrW, _⟩ := id (hS.ow.shape encI_len)
            obtain ⟨b, o, rfl, hbb, hcell⟩ := hrW pre.length p.1 hat
            have hcl := hcell 0 _ rfl
            rw [Nat.mul_one, Nat.add_zero] at hcl
            have hlen : pre.length < (wantR q R).length := (List.getElem?_eq_some_iff.1 hat).1
            have hwl := wantR_length q R
            have hlt : (pre.length : Int) < ((wantR q R).length : Int) := by omega
            have hcn := cell_of_one hS.n
            have hfn := free_of_one hS.n
            have hcq2 := cell_of_one hS.cq
            have hcW := cell_of_one hS.wt
            obtain ⟨d0, d1, d2, d3, d4, d5, d6⟩ := P.cells
            have hps : (Value.int .i64 p.2.1.stream) = .int .i64 q := by rw [hstr]
            have hw64 : IntKind.i64.wrap ((pre.length : Int) + 1) = (pre.length : Int) + 1 := by rw [IntKind.wrap_i64]; have := HRL.out; omega
            rw [hps] at d4
            have hown := hM.own
            have kS : Keep (fun i => i = nb) Y (Y.setCell ⟨nb, 0, none⟩ (.int .i64 ((pre.length : Int) + 1))) := Keep.ofSet (S := fun i => i = nb) (p := ⟨nb, 0, none⟩) rfl _
            have FIN : Hid (KeepsFrom V.heap.size Y (Y.setCell ⟨nb, 0, none⟩ (.int .i64 ((pre.length : Int) + 1))) ∧ WI (rdR R) (prevR R q) V.heap.size (SK w (w3.heap.size + 1 + 1) (w3.heap.size + 1 + 1 + 1 + 1) g0 (g0 + 1) nb q which (prevR R q) R vL (Value.slice (some ⟨b, o, none⟩) (wantR q R).length cW)) (pre ++ [p]) (Y.setCell ⟨nb, 0, none⟩ (.int .i64 ((pre.length : Int) + 1)))) := Lib.hid (by
              have hl := HLT.out
              have hz := HZV.out
              have ho1 := hown.1
              refine ⟨keepsFrom_of kS (fun i hi => by subst hi; exact ⟨_, _, _, hS.n⟩) _, ?_, ?_, ?_, Nat.le_trans hM.size kS.size⟩
              · obtain ⟨rest, h⟩ := hM.told
                exact ⟨rest, by rw [told_snoc, h]; simp⟩
              · rw [List.length_append]
                exact hS.step (by omega) (by omega) (by omega) (by omega) (by omega) nvL nvW
              · intro p' hp'
                simp at hp'
                subst hp'
                exact ⟨ho1, hown.2.kept kS (by omega)⟩)
            clear hM hS hat hstr hrW hbb hcell hwl hps hown kS P hst
            gi_wp2
            exact ⟨FIN.out.1, FIN.out.2⟩
          case done =>
            rintro D xs X hD ⟨hT, hS⟩ hK
            have hlen := wantR_done hT
            rename_i hK1
            refine hK1 _ _ ?_
            clear hK1
            obtain ⟨AW, cW, rfl, _, _, _, _⟩ := id (hS.ow.shape encI_len)
            have hcn := cell_of_one hS.n
            rw [← hlen] at hcn
            have hcr := free_of_one hS.cr
            have hcr1 := cell_of_one hS.cr
            have hcW := cell_of_one hS.wt
            have FIN : Hid ((X.setCell ⟨g0 + 1, 0, none⟩ (.bool true)).heap[D]? = some (.deferred (some [])) ∧ ((X.setCell ⟨g0 + 1, 0, none⟩ (.bool true)).putObj D (.deferred none)).cell? ⟨g0 + 1, 0, none⟩ = some (.bool true) ∧ KF w ((X.setCell ⟨g0 + 1, 0, none⟩ (.bool true)).putObj D (.deferred none))) := Lib.hid (by
              have hl := HLT.out
              have hz := HZV.out
              have k1 : Keep (fun i => i = g0 + 1) X (X.setCell ⟨g0 + 1, 0, none⟩ (.bool true)) := Keep.ofSet (S := fun i => i = g0 + 1) (p := ⟨g0 + 1, 0, none⟩) rfl _
              have hDX : D < X.heap.size := (Array.getElem?_eq_some_iff.1 hK).1
              refine ⟨(k1.block D hDX (by omega)).trans hK, cell_of_one ((World.putObj_heap_other (by omega)).trans (one_setCell hS.cr)), ?_⟩
              exact Keep.trans (Keep.trans hS.keep k1 (fun i hi e => by omega)) (keep_put _ D _) (fun i hi e => by omega))
            clear hS hT hlen hst
            go_wp2_with fail
            obtain ⟨f1, f2, f3⟩ := FIN.out
            refine ⟨by simp, .inl ⟨_, _, rfl, run_takeDeferred f1, ?_⟩⟩
            refine ⟨.bool true, ?_, rfl, f3⟩
            simp [results, Tryd.results4, go_sem, f2]
        · have hl2 : (Instr.lookup 39 (.map (some (w3.heap.size + 1))) (.int .i64 q) true).run Tryd.prog wr = .ok (.tuple #[.int .i64 (prevR R q), .bool true]) wr := by rw [hlk]; simp [endF, hpr]
          clear hlk
          go_upto_region 22 with fail
          clear hl2 hpr
          go_upto_region 23 with fail
          go_wp2_with (go_at_call 12; refine (walk_any _ _ _ _).mono ?_; rintro e w9 ⟨rfl, rfl⟩)
          have hV := HV.out
          have hnb := HNB.out
          rw [hV, hnb]
          clear hV HV HNB
          have hst := HST.out
          refine (wpIn_wide (n := 3)).1 ?_
          refine range_law2 rfl (by omega) (gf := 26) (lb := #[.pointer (some ⟨nb + 1, 0, none⟩), .pointer (some ⟨nb + 1 + 1, 0, none⟩)]) rfl trivial (enters_of Tryd.func26 (by kernel_rfl) rfl)
            (encs := fun p : Stp => #[.int .i64 p.1, .agg (ecells p.2.1 none 0 0)]) (fun _ => rfl)
            (WI (rdR R) (prevR R q) V.heap.size (SK w (w3.heap.size + 1 + 1) (w3.heap.size + 1 + 1 + 1 + 1) g0 (g0 + 1) nb q which (prevR R q) R vL vW)) (WM (rdR R) (prevR R q) V.heap.size (SK w (w3.heap.size + 1 + 1) (w3.heap.size + 1 + 1 + 1 + 1) g0 (g0 + 1) nb q which (prevR R q) R vL vW)) (WD (rdR R) (prevR R q) (SK w (w3.heap.size + 1 + 1) (w3.heap.size + 1 + 1 + 1 + 1) g0 (g0 + 1) nb q which (prevR R q) R vL vW))
            (fun pre => WI.stands hst) (fun xs => WD.stands hst)
            (fun o o' => ⟨⟨_, rfl⟩, HS0.out.keptF (((KF.refl V).alloc o).alloc o'), fun p hp => by simp at hp, by simp; omega⟩)
            (fun pre p a' Y => ∃ xb, a' = { tmps := #[.slice A n c, .int .i64 which, undef, .pointer (some ⟨g0, 0, none⟩), .pointer (some ⟨g0 + 1, 0, none⟩), .pointer (some ⟨w3.heap.size + 1 + 1, 0, none⟩), .map (some (w3.heap.size + 1)), .pointer (some ⟨w3.heap.size + 1 + 1 + 1 + 1, 0, none⟩), u8, u9, u10, u11, .int .i64 (prevR R q), .bool true, .pointer (some ⟨nb, 0, none⟩), .func (.func 11) #[] #[.pointer (some ⟨w3.heap.size + 1 + 1, 0, none⟩)], .int .i64 p.1, .pointer (some ⟨xb, 0, none⟩), .bool true, .bool false, .slice A n c, .int .i64 n, .bool (decide ((200 : Int) < (n : Int))), .slice (some ⟨w3.heap.size, 0, none⟩) 0 0, .map (some (w3.heap.size + 1)), .slice (some ⟨w3.heap.size + 1 + 1 + 1, 0, none⟩) 0 0, .slice A n c, .int .i64 n, .int .i64 n, .bool false, u30, u31, u32, u33, u34, u35, u36, u37, u38, u39, u40, u41, u42, u43, u44, u45, u46, u47, u48, u49, u50, u51, u52, u53, u54, u55, u56, u57, u58, u59, u60, .tuple #[.int .i64 (prevR R q), .bool true], .map (some (w3.heap.size + 1)), .int .i64 which, .int .i64 q, .tuple #[.int .i64 (prevR R q), .bool true], .int .i64 (prevR R q), .bool true, .bool true, .bool false, .func (.func 11) #[] #[.pointer (some ⟨w3.heap.size + 1 + 1, 0, none⟩)], .int .i64 (prevR R q), .func (.func 11) #[] #[.pointer (some ⟨w3.heap.size + 1 + 1, 0, none⟩)], .func (.func 26) #[] #[.pointer (some ⟨nb + 1, 0, none⟩), .pointer (some ⟨nb + 1 + 1, 0, none⟩)], .int .i64 p.1, .agg (ecells p.2.1 none 0 0), undef, undef, undef, undef, undef, undef, undef, undef, undef, undef, undef, undef, undef, undef, undef, undef, undef, undef, undef, undef, undef, undef, undef, undef, undef], defers := [] } ∧ V.heap.size ≤ xb ∧ Lg Y xb (.int .i64 p.2.1.kind) (.int .i64 p.2.1.client) (.int .i64 p.2.1.birth) (.int .i64 p.2.1.number) (.int .i64 p.2.1.stream) (.int .i64 p.2.1.back) (.slice none 0 0) ∧ WM (rdR R) (prevR R q) V.heap.size (SK w (w3.heap.size + 1 + 1) (w3.heap.size + 1 + 1 + 1 + 1) g0 (g0 + 1) nb q which (prevR R q) R vL vW) pre p Y)
            (fun pre p a' Y i o o' hi ho hc ⟨xb, h1, h2, h3, h4⟩ => ⟨xb, h1, h2, Lg.stands (b := V.heap.size) Y i o o' hi ho hc h3, WM.stands hst Y i o o' hi ho hc h4⟩) ?assign ?body ?iter ?done
          case assign =>
            intro l pre p Y K hM hK
            obtain ⟨g, hg⟩ : ∃ g, Y.heap.size = g := ⟨_, rfl⟩
            obtain ⟨Z, hZ⟩ : ∃ Z, Y.alloc (.cells #[.int .i64 p.2.1.kind, .int .i64 p.2.1.client, .int .i64 p.2.1.birth, .int .i64 p.2.1.number, .int .i64 p.2.1.stream, .int .i64 p.2.1.back, .slice none 0 0] 26) = Z := ⟨_, rfl⟩
            have kZ : KF Y Z := by rw [← hZ]; exact (KF.refl Y).alloc _
            have P : Lg Z g (.int .i64 p.2.1.kind) (.int .i64 p.2.1.client) (.int .i64 p.2.1.birth) (.int .i64 p.2.1.number) (.int .i64 p.2.1.stream) (.int .i64 p.2.1.back) (.slice none 0 0) := ⟨by rw [← hZ, ← hg]; exact heap_alloc_new Y _⟩
            have MZ : WM (rdR R) (prevR R q) V.heap.size (SK w (w3.heap.size + 1 + 1) (w3.heap.size + 1 + 1 + 1 + 1) g0 (g0 + 1) nb q which (prevR R q) R vL vW) pre p Z := ⟨hM.told, hM.st.keptF kZ, ⟨hM.own.1, hM.own.2.kept kZ (fun h => h)⟩, Nat.le_trans hM.size kZ.size⟩
            have hgV : V.heap.size ≤ g := by rw [← hg]; exact hM.size
            have KZ : KeepsFrom V.heap.size Y Z := keepsFrom_of kZ (fun i hi => hi.elim) _
            have HZ := Lib.hid hZ
            have HG := Lib.hid hg
            have HP := Lib.hid P
            have HMZ := Lib.hid MZ
            clear hZ hg P MZ hM kZ
            gi_wp2
            rw [HZ.out, HG.out]
            exact hK _ _ ⟨g, rfl, hgV, HP.out, HMZ.out⟩ KZ
          case iter =>
            intro l Y BK hBK hY hI hB
            exact iter_walk (rdR R) (prevR R q) V.heap.size _ (nb + 1) 11 #[.pointer (some ⟨w3.heap.size + 1 + 1, 0, none⟩)] (enters_of Tryd.func11 (by kernel_rfl) rfl) (fun k X Y h hk => h.keptF hk) (fun k X h => h.a) (fun k X h => ⟨_, h.r⟩) (fun k X z hz h => sread_any R _ z hz X vL h.lg h.ol hR200) l BK hBK hY Y hI hB
          case body =>
            rintro l pre p a' Y ⟨xb, rfl, hxb, P, hM⟩
            have hS := hM.st
            obtain ⟨hat, hstr⟩ := wantR_walk hM.told
            obtain ⟨AW, cW, rfl, _, _, hrW, _⟩ := id (hS.ow.shape encI_len)
            obtain ⟨b, o, rfl, hbb, hcell⟩ := hrW pre.length p.1 hat
            have hcl := hcell 0 _ rfl
            rw [Nat.mul_one, Nat.add_zero] at hcl
            have hlen : pre.length < (wantR q R).length := (List.getElem?_eq_some_iff.1 hat).1
            have hwl := wantR_length q R
            have hlt : (pre.length : Int) < ((wantR q R).length : Int) := by omega
            have hcn := cell_of_one hS.n
            have hfn := free_of_one hS.n
            have hcq2 := cell_of_one hS.cq
            have hcW := cell_of_one hS.wt
            obtain ⟨d0, d1, d2, d3, d4, d5, d6⟩ := P.cells
            have hps : (Value.int .i64 p.2.1.stream) = .int .i64 q := by rw [hstr]
            have hw64 : IntKind.i64.wrap ((pre.length : Int) + 1) = (pre.length : Int) + 1 := by rw [IntKind.wrap_i64]; have := HRL.out; omega
            rw [hps] at d4
            have hown := hM.own
            have kS : Keep (fun i => i = nb) Y (Y.setCell ⟨nb, 0, none⟩ (.int .i64 ((pre.length : Int) + 1))) := Keep.ofSet (S := fun i => i = nb) (p := ⟨nb, 0, none⟩) rfl _
            have FIN : Hid (KeepsFrom V.heap.size Y (Y.setCell ⟨nb, 0, none⟩ (.int .i64 ((pre.length : Int) + 1))) ∧ WI (rdR R) (prevR R q) V.heap.size (SK w (w3.heap.size + 1 + 1) (w3.heap.size + 1 + 1 + 1 + 1) g0 (g0 + 1) nb q which (prevR R q) R vL (Value.slice (some ⟨b, o, none⟩) (wantR q R).length cW)) (pre ++ [p]) (Y.setCell ⟨nb, 0, none⟩ (.int .i64 ((pre.length : Int) + 1)))) := Lib.hid (by
              have hl := HLT.out
              have hz := HZV.out
              have ho1 := hown.1
              refine ⟨keepsFrom_of kS (fun i hi => by subst hi; exact ⟨_, _, _, hS.n⟩) _, ?_, ?_, ?_, Nat.le_trans hM.size kS.size⟩
              · obtain ⟨rest, h⟩ := hM.told
                exact ⟨rest, by rw [told_snoc, h]; simp⟩
              · rw [List.length_append]
                exact hS.step (by omega) (by omega) (by omega) (by omega) (by omega) nvL nvW
              · intro p' hp'
                simp at hp'
                subst hp'
                exact ⟨ho1, hown.2.kept kS (by omega)⟩)
            clear hM hS hat hstr hrW hbb hcell hwl hps hown kS P hst
            gi_wp2
            exact ⟨FIN.out.1, FIN.out.2⟩
          case done =>
            rintro D xs X hD ⟨hT, hS⟩ hK
            have hlen := wantR_done hT
            rename_i hK1
            refine hK1 _ _ ?_
            clear hK1
            obtain ⟨AW, cW, rfl, _, _, _, _⟩ := id (hS.ow.shape encI_len)
            have hcn := cell_of_one hS.n
            rw [← hlen] at hcn
            have hcr := free_of_one hS.cr
            have hcr1 := cell_of_one hS.cr
            have hcW := cell_of_one hS.wt
            have FIN : Hid ((X.setCell ⟨g0 + 1, 0, none⟩ (.bool true)).heap[D]? = some (.deferred (some [])) ∧ ((X.setCell ⟨g0 + 1, 0, none⟩ (.bool true)).putObj D (.deferred none)).cell? ⟨g0 + 1, 0, none⟩ = some (.bool true) ∧ KF w ((X.setCell ⟨g0 + 1, 0, none⟩ (.bool true)).putObj D (.deferred none))) := Lib.hid (by
              have hl := HLT.out
              have hz := HZV.out
              have k1 : Keep (fun i => i = g0 + 1) X (X.setCell ⟨g0 + 1, 0, none⟩ (.bool true)) := Keep.ofSet (S := fun i => i = g0 + 1) (p := ⟨g0 + 1, 0, none⟩) rfl _
              have hDX : D < X.heap.size := (Array.getElem?_eq_some_iff.1 hK).1
              refine ⟨(k1.block D hDX (by omega)).trans hK, cell_of_one ((World.putObj_heap_other (by omega)).trans (one_setCell hS.cr)), ?_⟩
              exact Keep.trans (Keep.trans hS.keep k1 (fun i hi e => by omega)) (keep_put _ D _) (fun i hi e => by omega))
            clear hS hT hlen hst
            go_wp2_with fail
            obtain ⟨f1, f2, f3⟩ := FIN.out
            refine ⟨by simp, .inl ⟨_, _, rfl, run_takeDeferred f1, ?_⟩⟩
            refine ⟨.bool true, ?_, rfl, f3⟩
            simp [results, Tryd.results4, go_sem, f2]
end Go.Proofs.YtklpebfkgdklmabDoor
