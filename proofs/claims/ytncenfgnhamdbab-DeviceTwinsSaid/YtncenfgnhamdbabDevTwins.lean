/-
  DeviceTwins, walked.
-/
import Derived.Test.YtncenfgnhamdbabDevM2
namespace Go.Proofs.Ytncenfgnhamdbab
open Go.RowKit

theorem push_one (n last : Nat) (ps : List Pg) (xs : List (List UInt8)) (b : List UInt8) (h : ps.length + xs.length < n) : Dv.push ⟨n, ps ++ whl xs, last⟩ b = ⟨n, ps ++ whl (xs ++ [b]), last⟩ := by
  rw [Dv.push_room (by simp [whl_length]; omega)]
  simp [whl]
theorem wholes_two (ls xs : List (List UInt8)) : wholes (whl ls ++ whl xs) = ls ++ xs := by rw [wholes_append, wholes_whl, wholes_whl]
theorem twins_take (ls ns : List (List UInt8)) : (ls ++ ns).take ls.length = ls := List.take_left' rfl
/-- Both devices, when j of the later ones are written. -/
def TW (a w : World) (g g' : Nat) (ls : List (List UInt8)) (j : Nat) : Prop := ∃ xs ys, xs.length = j / 2 ∧ ys.length = (j + 1) / 2 ∧ M2 a w g ⟨100, whl ls ++ whl xs, 0⟩ g' ⟨100, whl ls ++ whl ys, ls.length⟩
set_option maxRecDepth 100000 in
set_option maxHeartbeats 4000000 in
theorem twins_walk (A0 A1 : Option Addr) (ls ms : List (List UInt8)) (n0 n1 c0 c1 : Nat) (w : World) (e0 : n0 = ls.length) (e1 : n1 = ms.length)
    (r0 : RdS w 0 w.heap.size A0 ls) (r1 : RdS w 0 w.heap.size A1 ms) :
    Calls Try.prog 4 #[.slice A0 n0 c0, .slice A1 n1 c1] w fun e w' => e = .returned (.bool true) ∧ KF w w' := by
  have CS := Lib.hid (speaks8 w)
  by_cases h1 : 40 < n0
  · have h1' : (40 : Int) < (n0 : Int) := by omega
    clear r0 r1 e0 e1
    go_enter Try.func4, Try.ntmps4
    go_wp2_with (go_at_call 5; refine CS.out.mono ?_; rintro e w1 ⟨rfl, k1⟩)
    go_ret
    exact ⟨rfl, k1⟩
  have h1' : ¬ (40 : Int) < (n0 : Int) := by omega
  by_cases h2 : 40 < n1
  · have h2' : (40 : Int) < (n1 : Int) := by omega
    clear r0 r1 e0 e1
    go_enter Try.func4, Try.ntmps4
    go_wp2_with (go_at_call 5; refine CS.out.mono ?_; rintro e w1 ⟨rfl, k1⟩)
    go_ret
    exact ⟨rfl, k1⟩
  have h2' : ¬ (40 : Int) < (n1 : Int) := by omega
  have R0 := Lib.hid fun W (k : KF w W) => r0.kept k
  have R1 := Lib.hid fun W (k : KF w W) => r1.kept k
  have E0 := Lib.hid e0
  have E1 := Lib.hid e1
  clear r0 r1 e0 e1
  go_enter Try.func4, Try.ntmps4
  go_upto_region 5 with (go_at_call 5; refine CS.out.mono ?_; rintro e w1 ⟨rfl, k1⟩)
  clear CS
  have CN := Lib.hid (M.new 100 w1 (by decide) (by decide))
  go_upto_region 6 with (go_at_call 6; refine CN.out.mono ?_; rintro e w2 ⟨rfl, D2⟩)
  obtain ⟨g, hg⟩ : ∃ g, w1.heap.size = g := ⟨_, rfl⟩
  rw [hg] at D2
  have HG := Lib.hid hg
  rw [hg]
  clear hg CN
  have HD2 := Lib.hid D2
  clear D2
  go_wp2_with fail
  go_loopg [36] n0 (fun gh i wr => ∃ k : Nat, k ≤ n0 ∧ n0 - k ≤ gh ∧ i = .int .i64 k ∧ Hid (M w1 wr g ⟨100, [] ++ whl (ls.take k), 0⟩ ∧ ∀ l ∈ ls.take k, l.length ≤ 300))
  case atStart => exact ⟨0, by omega, by omega, rfl, Lib.hid ⟨HD2.out, fun l hl => by simp at hl⟩⟩
  case round =>
    obtain ⟨k, hk, hgk, rfl, HM⟩ := hrel
    have kwr := Lib.hid (KF.trans k1 HM.out.1.keep)
    rcases Nat.lt_or_ge k n0 with hlt | hge
    · have hlt' : (k : Int) < (n0 : Int) := by omega
      have hkl : k < ls.length := by rw [← E0.out]; exact hlt
      obtain ⟨b, o, A', c', rfl, _, _, hcell, hc1, _, hrd, _⟩ := R0.out wr kwr.out k _ (List.getElem?_eq_getElem hkl)
      by_cases hx : 100 < (ls[k]'hkl).length
      · have hx' : (100 : Int) < ((ls[k]'hkl).length : Int) := by omega
        generalize (ls[k]'hkl).length = lx at *
        clear hrd
        go_wp2_with fail
        go_ret
        exact ⟨rfl, kwr.out⟩
      · have hx' : ¬ (100 : Int) < ((ls[k]'hkl).length : Int) := by omega
        have CA : Hid (Calls Try.prog 8 #[.pointer (some ⟨g, 0, none⟩), .slice A' (ls[k]'hkl).length c'] wr fun e w' => e = .returned (.int .i64 0) ∧ Hid (M w1 w' g ⟨100, [] ++ whl (ls.take (k + 1)), 0⟩ ∧ ∀ l ∈ ls.take (k + 1), l.length ≤ 300)) := Lib.hid (by
          have h := HM.out.1.append A' (ls[k]'hkl) _ c' rfl (by omega) hrd
          rw [push_one 100 0 [] (ls.take k) _ (by simp; omega), ← List.take_succ_eq_append_getElem hkl, if_neg (by simp [whl_length]; omega)] at h
          refine h.mono fun e w' ⟨he, hm⟩ => ⟨he, Lib.hid ⟨hm, fun l hl => ?_⟩⟩
          rw [List.take_succ_eq_append_getElem hkl] at hl
          rcases List.mem_append.1 hl with hl | hl
          · exact HM.out.2 l hl
          · rw [List.mem_singleton] at hl
            rw [hl]
            omega)
        generalize (ls[k]'hkl).length = lx at *
        clear hrd
        go_wp2_with (go_at_call 8; refine CA.out.mono ?_; rintro e w4 ⟨rfl, D4⟩)
        go_roundg (n0 - (k + 1))
        case measure => omega
        case rel => exact ⟨k + 1, by omega, by omega, by go_num, D4⟩
    · obtain rfl : k = n0 := by omega
      have hlt' : ¬ (k : Int) < (k : Int) := by omega
      have hall : ls.take k = ls := List.take_of_length_le (by rw [← E0.out]; exact Nat.le_refl _)
      rw [hall] at HM
      have hs300 := Lib.hid HM.out.2
      have CT : Hid (Calls Try.prog 12 #[.pointer (some ⟨g, 0, none⟩)] wr fun e w' => ∃ g', e = .returned (.pointer (some ⟨g', 0, none⟩)) ∧ Hid (TW w1 w' g g' ls 0)) := Lib.hid (HM.out.1.twin.mono fun e w' ⟨g', he, hm, _⟩ => ⟨g', he, Lib.hid ⟨[], [], rfl, rfl, by
        have h : Dv.sync ⟨100, [] ++ whl ls, 0⟩ = ⟨100, whl ls ++ whl [], ls.length⟩ := by simp [Dv.sync, whl_length, whl]
        rw [h] at hm
        simpa [whl] using hm⟩⟩)
      clear hall HM
      go_upto_region 16 with (go_at_call 12; refine CT.out.mono ?_; rintro e w5 ⟨g', rfl, D5⟩)
      clear CT kwr
      go_wp2_with fail
      go_loopg [51] n1 (fun gh i wr => ∃ j : Nat, j ≤ n1 ∧ n1 - j ≤ gh ∧ i = .int .i64 j ∧ Hid (TW w1 wr g g' ls j))
      case atStart => exact ⟨0, by omega, by omega, rfl, D5⟩
      case round =>
        rename_i gh2 wr2
        obtain ⟨j, hj, hgj, rfl, HM⟩ := hrel
        obtain ⟨xs, ys, hxs, hys, hm2⟩ := HM.out
        have kwr := Lib.hid (KF.trans k1 hm2.fst.keep)
        rcases Nat.lt_or_ge j n1 with hlt2 | hge2
        · have hlt2' : (j : Int) < (n1 : Int) := by omega
          have hkl : j < ms.length := by rw [← E1.out]; exact hlt2
          obtain ⟨b, o, A', c', rfl, _, _, hcell, hc1, _, hrd, _⟩ := R1.out _ kwr.out j _ (List.getElem?_eq_getElem hkl)
          by_cases hx : 100 < (ms[j]'hkl).length
          · have hx' : (100 : Int) < ((ms[j]'hkl).length : Int) := by omega
            generalize (ms[j]'hkl).length = lx at *
            clear hrd hm2
            go_wp2_with fail
            go_ret
            exact ⟨rfl, kwr.out⟩
          · have hx' : ¬ (100 : Int) < ((ms[j]'hkl).length : Int) := by omega
            have hand := i64_and1 (j : Int)
            by_cases hpar : j % 2 = 0
            · have hp2 : (j : Int) % 2 = 0 := by omega
              have CA : Hid (Calls Try.prog 8 #[.pointer (some ⟨g', 0, none⟩), .slice A' (ms[j]'hkl).length c'] _ fun e w' => e = .returned (.int .i64 0) ∧ Hid (TW w1 w' g g' ls (j + 1))) := Lib.hid (by
                have h := hm2.swap.append A' (ms[j]'hkl) _ c' rfl (by omega) hrd
                rw [push_one 100 ls.length (whl ls) ys _ (by rw [whl_length, ← E0.out]; omega), if_neg (by simp [whl_length, ← E0.out]; omega)] at h
                exact h.mono fun e w' ⟨he, hm⟩ => ⟨he, Lib.hid ⟨xs, _, by omega, by rw [List.length_append]; simp; omega, hm.swap⟩⟩)
              generalize (ms[j]'hkl).length = lx at *
              clear hrd hm2
              rw [hp2] at hand
              go_wp2_with (go_at_call 8; refine CA.out.mono ?_; rintro e w4 ⟨rfl, D4⟩)
              go_roundg (n1 - (j + 1))
              case measure => omega
              case rel => exact ⟨j + 1, by omega, by omega, by go_num, D4⟩
            · have hp2 : (j : Int) % 2 = 1 := by omega
              have CA : Hid (Calls Try.prog 8 #[.pointer (some ⟨g, 0, none⟩), .slice A' (ms[j]'hkl).length c'] _ fun e w' => e = .returned (.int .i64 0) ∧ Hid (TW w1 w' g g' ls (j + 1))) := Lib.hid (by
                have h := hm2.append A' (ms[j]'hkl) _ c' rfl (by omega) hrd
                rw [push_one 100 0 (whl ls) xs _ (by rw [whl_length, ← E0.out]; omega), if_neg (by simp [whl_length, ← E0.out]; omega)] at h
                exact h.mono fun e w' ⟨he, hm⟩ => ⟨he, Lib.hid ⟨_, ys, by rw [List.length_append]; simp; omega, by omega, hm⟩⟩)
              generalize (ms[j]'hkl).length = lx at *
              clear hrd hm2
              rw [hp2] at hand
              go_wp2_with (go_at_call 8; refine CA.out.mono ?_; rintro e w4 ⟨rfl, D4⟩)
              go_roundg (n1 - (j + 1))
              case measure => omega
              case rel => exact ⟨j + 1, by omega, by omega, by go_num, D4⟩
        · obtain rfl : j = n1 := by omega
          have hlt2' : ¬ (j : Int) < (j : Int) := by omega
          obtain ⟨q, hq⟩ : ∃ q, j / 2 = q := ⟨_, rfl⟩
          obtain ⟨q', hq'⟩ : ∃ q', (j + 1) / 2 = q' := ⟨_, rfl⟩
          obtain ⟨s, hs⟩ : ∃ s, k + q = s := ⟨_, rfl⟩
          obtain ⟨s', hs'⟩ : ∃ s', k + q' = s' := ⟨_, rfl⟩
          obtain ⟨r, hr⟩ : ∃ r, j + 1 = r := ⟨_, rfl⟩
          have HM2 := Lib.hid hm2
          clear hm2
          have t1 : Int.tdiv (j : Int) 2 = (q : Int) := by rw [Int.tdiv_eq_ediv_of_nonneg (by omega)]; omega
          have t2 : Int.tdiv (r : Int) 2 = (q' : Int) := by rw [Int.tdiv_eq_ediv_of_nonneg (by omega)]; omega
          have t3 : IntKind.i64.wrap ((k : Int) + (q : Int)) = (s : Int) := by rw [IntKind.wrap_i64]; omega
          have t4 : IntKind.i64.wrap ((k : Int) + (q' : Int)) = (s' : Int) := by rw [IntKind.wrap_i64]; omega
          have t5 : IntKind.i64.wrap ((j : Int) + 1) = (r : Int) := by rw [IntKind.wrap_i64]; omega
          have t6 : IntKind.i64.wrap (q : Int) = (q : Int) := by rw [IntKind.wrap_i64]; omega
          have t7 : IntKind.i64.wrap (q' : Int) = (q' : Int) := by rw [IntKind.wrap_i64]; omega
          have CP1 : Hid (Calls Try.prog 9 #[.pointer (some ⟨g, 0, none⟩)] _ fun e w' => ∃ A c, e = .returned (.slice A s c) ∧ k ≤ c ∧ Hid (RdS w' _ w'.heap.size A (ls ++ xs) ∧ KF _ w')) := Lib.hid (HM2.out.fst.pages.mono fun e w' ⟨A, n, c, he, h, kk⟩ => by
            rw [wholes_two] at h
            have hn : n = s := by rw [h.1, List.length_append, ← E0.out, hxs, hq, hs]
            exact ⟨A, c, by rw [he, hn], by have := h.2.1; omega, Lib.hid ⟨h.2.2.2, kk⟩⟩)
          have CP2 : Hid (∀ W, KF _ W → Calls Try.prog 9 #[.pointer (some ⟨g', 0, none⟩)] W fun e w' => ∃ A c, e = .returned (.slice A s' c) ∧ k ≤ c ∧ Hid (RdS w' W.heap.size w'.heap.size A (ls ++ ys) ∧ KF W w')) := Lib.hid fun W kW => ((HM2.out.swap.fst.far kW).pages.mono fun e w' ⟨A, n, c, he, h, kk⟩ => by
            rw [wholes_two] at h
            have hn : n = s' := by rw [h.1, List.length_append, ← E0.out, hys, hq', hs']
            exact ⟨A, c, by rw [he, hn], by have := h.2.1; omega, Lib.hid ⟨h.2.2.2, kk⟩⟩)
          have CW : Hid (∀ W, KF _ W → Calls Try.prog 11 #[.pointer (some ⟨g', 0, none⟩)] W fun e w' => e = .returned (.tuple #[]) ∧ Hid (M2 w1 w' g' ⟨100, [], 0⟩ g ⟨100, whl ls ++ whl xs, 0⟩ ∧ Keep (fun i => w1.heap.size ≤ i ∧ i < _) W w')) := Lib.hid fun W kW => (HM2.out.swap.wipe kW).mono fun e w' ⟨he, hm⟩ => ⟨he, Lib.hid hm⟩
          have hks : Hid (k + xs.length = s) := Lib.hid (by omega)
          clear hq hq' hs hs' hr
          go_upto_region 26 with (first
            | (go_at_call_of 9 (Value.pointer (some ⟨g, 0, none⟩)); refine CP1.out.mono ?_; rintro e w7 ⟨A7, c7, rfl, h7, R7⟩)
            | (go_at_call_of 9 (Value.pointer (some ⟨g', 0, none⟩)); refine (CP2.out _ R7.out.2).mono ?_; rintro e w8 ⟨A8, c8, rfl, h8, R8⟩))
          go_upto_region 28 with fail
          have k8 := Lib.hid (KF.trans R7.out.2 R8.out.2)
          go_upto_region 29 with (go_at_call 11; refine (CW.out _ k8.out).mono ?_; rintro e w9 ⟨rfl, D9⟩)
          have kw9 := Lib.hid (KF.trans k1 D9.out.1.fst.keep)
          have CP3 : Hid (∀ W, KF w9 W → Calls Try.prog 9 #[.pointer (some ⟨g, 0, none⟩)] W fun e w' => ∃ A c, e = .returned (.slice A s c) ∧ KF w9 w') := Lib.hid fun W kW => ((D9.out.1.swap.fst.far kW).pages.mono fun e w' ⟨A, n, c, he, h, kk⟩ => by
            rw [wholes_two] at h
            have hn : n = s := by rw [h.1, List.length_append, ← E0.out, hks.out]
            exact ⟨A, c, by rw [he, hn], KF.trans kW kk⟩)
          have CP4 : Hid (∀ W, KF w9 W → Calls Try.prog 9 #[.pointer (some ⟨g', 0, none⟩)] W fun e w' => ∃ A c, e = .returned (.slice A 0 c) ∧ KF w9 w') := Lib.hid fun W kW => ((D9.out.1.fst.far kW).pages.mono fun e w' ⟨A, n, c, he, h, kk⟩ => by
            have hn : n = 0 := h.1
            exact ⟨A, c, by rw [he, hn], KF.trans kW kk⟩)
          have keepR : ∀ {L : Nat} {A : Option Addr} {l : List (List UInt8)}, wr.heap.size ≤ L → RdS w8 L w8.heap.size A l → RdS w9 L w9.heap.size A l := fun {L A l} hL h => (h.keep (Nat.le_refl _) D9.out.2 (fun i hi _ hS => by have := hS.2; omega)).more D9.out.2.size
          have CL : Hid (∀ W, KF w9 W → Calls Try.prog 13 #[.slice A7 k c7, .slice A0 k c0] W fun e w' => e = .returned (.bool true) ∧ ∃ n, W.drewN n = w') := Lib.hid fun W kW => by
            have ht := ((keepR (Nat.le_refl _) (R7.out.1.kept R8.out.2)).kept kW).take k
            rw [E0.out, twins_take] at ht
            have h := sameList_any A7 A0 ls ls k k c7 c0 _ 0 W E0.out E0.out ht (R0.out W (KF.trans kw9.out kW)) (by omega) (fun l hl => Nat.le_trans (hs300.out l hl) (by decide))
            simpa using h
          have CL2 : Hid (∀ W, KF w9 W → Calls Try.prog 13 #[.slice A8 k c8, .slice A0 k c0] W fun e w' => e = .returned (.bool true) ∧ ∃ n, W.drewN n = w') := Lib.hid fun W kW => by
            have ht := ((keepR R7.out.2.size R8.out.1).kept kW).take k
            rw [E0.out, twins_take] at ht
            have h := sameList_any A8 A0 ls ls k k c8 c0 _ 0 W E0.out E0.out ht (R0.out W (KF.trans kw9.out kW)) (by omega) (fun l hl => Nat.le_trans (hs300.out l hl) (by decide))
            simpa using h
          clear keepR CP1 CP2 CW k8
          go_wp2_with (first
            | (go_at_call_of 9 (Value.pointer (some ⟨g, 0, none⟩)); refine (CP3.out _ (KF.refl _)).mono ?_; rintro e w10 ⟨A10, c10, rfl, k10⟩)
            | (go_at_call_of 9 (Value.pointer (some ⟨g', 0, none⟩)); refine (CP4.out _ k10).mono ?_; rintro e w11 ⟨A11, c11, rfl, k11⟩)
            | (go_at_call_of 13 (Value.slice A7 k c7); refine (CL.out _ k11).mono ?_; rintro e w12 ⟨rfl, nq, rfl⟩; have k12 := k11.drewN nq)
            | (go_at_call_of 13 (Value.slice A8 k c8); refine (CL2.out _ k12).mono ?_; rintro e w13 ⟨rfl, nq2, rfl⟩))
          go_ret
          exact ⟨rfl, KF.trans kw9.out (k11.drewN (nq + nq2))⟩
end Go.Proofs.Ytncenfgnhamdbab
