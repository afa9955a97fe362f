/-
  DeviceLasts, walked.
-/
import Derived.Test.YtncenfgnhamdbaaDevM
namespace Go.Proofs.Ytncenfgnhamdbaa
open Go.RowKit

theorem push_whl (n : Nat) (ls : List (List UInt8)) (k last : Nat) (qs : List Pg) (h : k < ls.length) (hn : qs.length + k < n) : Dv.push ⟨n, qs ++ whl (ls.take k), last⟩ (ls[k]'h) = ⟨n, qs ++ whl (ls.take (k + 1)), last⟩ := by
  rw [Dv.push_room (by simp [whl_length]; omega)]
  simp only [List.take_succ_eq_append_getElem h, whl, List.map_append, List.map_cons, List.map_nil, List.append_assoc]
theorem lasts_take (ls ns : List (List UInt8)) : (ls ++ ns).take ls.length = ls := List.take_left' rfl
set_option maxRecDepth 100000 in
set_option maxHeartbeats 4000000 in
theorem lasts_walk (A0 A1 A2 : Option Addr) (ls ms : List (List UInt8)) (picks : List UInt8) (n0 n1 n2 c0 c1 c2 : Nat) (w : World) (e0 : n0 = ls.length) (e1 : n1 = ms.length) (e2 : n2 = picks.length)
    (r0 : RdS w 0 w.heap.size A0 ls) (r1 : RdS w 0 w.heap.size A1 ms) (r2 : Rd w w.heap.size A2 picks) :
    Calls Try.prog 4 #[.slice A0 n0 c0, .slice A1 n1 c1, .slice A2 n2 c2] w fun e w' => e = .returned (.bool true) ∧ KF w w' := by
  have CS := Lib.hid (speaks8 w)
  by_cases h1 : 60 < n0
  · have h1' : (60 : Int) < (n0 : Int) := by omega
    clear r0 r1 r2 e0 e1 e2
    go_enter Try.func4, Try.ntmps4
    go_wp2_with (go_at_call 5; refine CS.out.mono ?_; rintro e w1 ⟨rfl, k1⟩)
    go_ret
    exact ⟨rfl, k1⟩
  have h1' : ¬ (60 : Int) < (n0 : Int) := by omega
  by_cases h2 : 60 < n1
  · have h2' : (60 : Int) < (n1 : Int) := by omega
    clear r0 r1 r2 e0 e1 e2
    go_enter Try.func4, Try.ntmps4
    go_wp2_with (go_at_call 5; refine CS.out.mono ?_; rintro e w1 ⟨rfl, k1⟩)
    go_ret
    exact ⟨rfl, k1⟩
  have h2' : ¬ (60 : Int) < (n1 : Int) := by omega
  by_cases h3 : 200 < n2
  · have h3' : (200 : Int) < (n2 : Int) := by omega
    clear r0 r1 r2 e0 e1 e2
    go_enter Try.func4, Try.ntmps4
    go_wp2_with (go_at_call 5; refine CS.out.mono ?_; rintro e w1 ⟨rfl, k1⟩)
    go_ret
    exact ⟨rfl, k1⟩
  have h3' : ¬ (200 : Int) < (n2 : Int) := by omega
  have R0 := Lib.hid fun W (k : KF w W) => r0.kept k
  have R1 := Lib.hid fun W (k : KF w W) => r1.kept k
  have R2 := Lib.hid fun W (k : KF w W) => (show Rd W W.heap.size A2 picks from (r2.keepF k (Nat.le_refl _)).more k.size)
  have R2A : Hid (∀ ad : Addr, A2 = some ad → picks ≠ [] → ad.block < w.heap.size) := Lib.hid fun ad ha hp => by
    obtain ⟨a', e, hb⟩ := r2.some_of (by cases picks with | nil => exact absurd rfl hp | cons _ _ => exact Nat.succ_pos _)
    rw [ha] at e
    injection e with e
    rw [e]
    exact hb
  have E0 := Lib.hid e0
  have E1 := Lib.hid e1
  have E2 := Lib.hid e2
  clear r0 r1 r2 e0 e1 e2
  go_enter Try.func4, Try.ntmps4
  go_upto_region 5 with (go_at_call 5; refine CS.out.mono ?_; rintro e w1 ⟨rfl, k1⟩)
  clear CS
  have CN := Lib.hid (M.new 200 w1 (by decide) (by decide))
  go_upto_region 6 with (go_at_call 6; refine CN.out.mono ?_; rintro e w2 ⟨rfl, D2⟩)
  obtain ⟨g, hg⟩ : ∃ g, w1.heap.size = g := ⟨_, rfl⟩
  rw [hg] at D2
  have HG := Lib.hid hg
  rw [hg]
  clear hg CN
  have HD2 := Lib.hid D2
  clear D2
  go_wp2_with fail
  go_loopg [41] n0 (fun gh i wr => ∃ k : Nat, k ≤ n0 ∧ n0 - k ≤ gh ∧ i = .int .i64 k ∧ Hid (M w1 wr g ⟨200, [] ++ whl (ls.take k), 0⟩ ∧ ∀ l ∈ ls.take k, l.length ≤ 300))
  case atStart => exact ⟨0, by omega, by omega, rfl, Lib.hid ⟨HD2.out, fun l hl => by simp at hl⟩⟩
  case round =>
    obtain ⟨k, hk, hgk, rfl, HM⟩ := hrel
    have kwr := Lib.hid (KF.trans k1 HM.out.1.keep)
    rcases Nat.lt_or_ge k n0 with hlt | hge
    · have hlt' : (k : Int) < (n0 : Int) := by omega
      have hkl : k < ls.length := by rw [← E0.out]; exact hlt
      obtain ⟨b, o, A', c', rfl, _, _, hcell, hc1, _, hrd, _⟩ := R0.out wr kwr.out k _ (List.getElem?_eq_getElem hkl)
      by_cases hx : 300 < (ls[k]'hkl).length
      · have hx' : (300 : Int) < ((ls[k]'hkl).length : Int) := by omega
        generalize (ls[k]'hkl).length = lx at *
        clear hrd
        go_wp2_with fail
        go_ret
        exact ⟨rfl, kwr.out⟩
      · have hx' : ¬ (300 : Int) < ((ls[k]'hkl).length : Int) := by omega
        have CA : Hid (Calls Try.prog 9 #[.pointer (some ⟨g, 0, none⟩), .slice A' (ls[k]'hkl).length c'] wr fun e w' => e = .returned (.int .i64 0) ∧ Hid (M w1 w' g ⟨200, [] ++ whl (ls.take (k + 1)), 0⟩ ∧ ∀ l ∈ ls.take (k + 1), l.length ≤ 300)) := Lib.hid (by
          have h := HM.out.1.append A' (ls[k]'hkl) _ c' rfl (by omega) hrd
          rw [push_whl 200 ls k 0 [] hkl (by simp; omega), if_neg (by simp [whl_length]; omega)] at h
          refine h.mono fun e w' ⟨he, hm⟩ => ⟨he, Lib.hid ⟨hm, fun l hl => ?_⟩⟩
          rw [List.take_succ_eq_append_getElem hkl] at hl
          rcases List.mem_append.1 hl with hl | hl
          · exact HM.out.2 l hl
          · rw [List.mem_singleton] at hl
            rw [hl]
            omega)
        generalize (ls[k]'hkl).length = lx at *
        clear hrd
        go_wp2_with (go_at_call 9; refine CA.out.mono ?_; rintro e w4 ⟨rfl, D4⟩)
        go_roundg (n0 - (k + 1))
        case measure => omega
        case rel => exact ⟨k + 1, by omega, by omega, by go_num, D4⟩
    · obtain rfl : k = n0 := by omega
      have hlt' : ¬ (k : Int) < (k : Int) := by omega
      have hall : ls.take k = ls := List.take_of_length_le (by rw [← E0.out]; exact Nat.le_refl _)
      rw [hall] at HM
      have hs300 := Lib.hid HM.out.2
      have CY : Hid (Calls Try.prog 11 #[.pointer (some ⟨g, 0, none⟩)] wr fun e w' => e = .returned (.tuple #[]) ∧ Hid (M w1 w' g ⟨200, whl ls ++ whl (ms.take 0), ls.length⟩)) := Lib.hid (HM.out.1.sync.mono fun e w' ⟨he, hm⟩ => ⟨he, Lib.hid (by
        have h : Dv.sync ⟨200, [] ++ whl ls, 0⟩ = ⟨200, whl ls ++ whl (ms.take 0), ls.length⟩ := by simp [Dv.sync, whl_length, whl]
        rw [h] at hm
        exact hm)⟩)
      clear hall HM
      go_upto_region 15 with (go_at_call 11; refine CY.out.mono ?_; rintro e w5 ⟨rfl, D5⟩)
      clear CY kwr
      go_wp2_with fail
      go_loopg [62] n1 (fun gh i wr => ∃ j : Nat, j ≤ n1 ∧ n1 - j ≤ gh ∧ i = .int .i64 j ∧ Hid (M w1 wr g ⟨200, whl ls ++ whl (ms.take j), ls.length⟩))
      case atStart => exact ⟨0, by omega, by omega, rfl, D5⟩
      case round =>
        rename_i gh2 wr2
        obtain ⟨j, hj, hgj, rfl, HM⟩ := hrel
        have kwr := Lib.hid (KF.trans k1 HM.out.keep)
        rcases Nat.lt_or_ge j n1 with hlt2 | hge2
        · have hlt2' : (j : Int) < (n1 : Int) := by omega
          have hkl : j < ms.length := by rw [← E1.out]; exact hlt2
          obtain ⟨b, o, A', c', rfl, _, _, hcell, hc1, _, hrd, _⟩ := R1.out _ kwr.out j _ (List.getElem?_eq_getElem hkl)
          by_cases hx : 300 < (ms[j]'hkl).length
          · have hx' : (300 : Int) < ((ms[j]'hkl).length : Int) := by omega
            generalize (ms[j]'hkl).length = lx at *
            clear hrd
            go_wp2_with fail
            go_ret
            exact ⟨rfl, kwr.out⟩
          · have hx' : ¬ (300 : Int) < ((ms[j]'hkl).length : Int) := by omega
            have CA : Hid (Calls Try.prog 9 #[.pointer (some ⟨g, 0, none⟩), .slice A' (ms[j]'hkl).length c'] _ fun e w' => e = .returned (.int .i64 0) ∧ Hid (M w1 w' g ⟨200, whl ls ++ whl (ms.take (j + 1)), ls.length⟩)) := Lib.hid (by
              have h := HM.out.append A' (ms[j]'hkl) _ c' rfl (by omega) hrd
              rw [push_whl 200 ms j ls.length (whl ls) hkl (by rw [whl_length, ← E0.out]; omega), if_neg (by simp [whl_length, ← E0.out]; omega)] at h
              exact h.mono fun e w' ⟨he, hm⟩ => ⟨he, Lib.hid hm⟩)
            generalize (ms[j]'hkl).length = lx at *
            clear hrd
            go_wp2_with (go_at_call 9; refine CA.out.mono ?_; rintro e w4 ⟨rfl, D4⟩)
            go_roundg (n1 - (j + 1))
            case measure => omega
            case rel => exact ⟨j + 1, by omega, by omega, by go_num, D4⟩
        · obtain rfl : j = n1 := by omega
          have hlt2' : ¬ (j : Int) < (j : Int) := by omega
          have hall : ms.take j = ms := List.take_of_length_le (by rw [← E1.out]; exact Nat.le_refl _)
          rw [hall] at HM
          have CC := Lib.hid (HM.out.crash A2 picks n2 c2 E2.out (by omega) (R2.out _ kwr.out) (fun ad ha hp => Nat.lt_of_lt_of_le (R2A.out ad ha hp) k1.size))
          obtain ⟨ns, hns, hnl⟩ := lasts_crash 200 ls ms picks
          generalize Dv.crash ⟨200, whl ls ++ whl ms, ls.length⟩ picks = d' at *
          clear hall HM
          go_upto_region 23 with (go_at_call 13; refine CC.out.mono ?_; rintro e w6 ⟨rfl, D6⟩)
          have k6 := Lib.hid (KF.trans k1 D6.keep)
          have CP : Hid (Calls Try.prog 19 #[.pointer (some ⟨g, 0, none⟩)] w6 fun e w' => ∃ A n c, e = .returned (.slice A n c) ∧ (k ≤ n ∧ n ≤ k + j) ∧ n ≤ c ∧ Hid (RdS w' w6.heap.size w'.heap.size A (ls ++ ns) ∧ KF w w')) := Lib.hid (D6.pages.mono fun e w' ⟨A, n, c, he, h, kk⟩ => ⟨A, n, c, he, (by
            have h1 : n = ls.length + ns.length := by rw [h.1, hns, List.length_append]
            have := E0.out
            have := E1.out
            omega), h.2.1, Lib.hid ⟨by rw [← hns]; exact h.2.2.2, KF.trans k6.out kk⟩⟩)
          clear D6 CC
          go_upto_region 24 with (go_at_call 19; refine CP.out.mono ?_; rintro e w7 ⟨A7, n7, c7, rfl, ⟨h7, h72⟩, h71, R7⟩)
          have hq1 : (k : Int) ≤ (n7 : Int) := by omega
          have hq2 : IntKind.i64.wrap ((k : Int) + (j : Int)) = ((k + j : Nat) : Int) := by rw [IntKind.wrap_i64]; omega
          have hq3 : (n7 : Int) ≤ ((k + j : Nat) : Int) := by omega
          have hq5 : (k : Int) ≤ (c7 : Int) := by omega
          have hq6 : k ≤ c7 := by omega
          have hq4 : (n7 : Int) ≤ (k : Int) + (j : Int) := by omega
          have CL : Hid (Calls Try.prog 18 #[.slice A7 k c7, .slice A0 k c0] w7 fun e w' => e = .returned (.bool true) ∧ ∃ n, w7.drewN n = w') := Lib.hid (by
            have ht := R7.out.1.take k
            rw [E0.out, lasts_take] at ht
            have h := sameList_any A7 A0 ls ls k k c7 c0 w6.heap.size 0 w7 E0.out E0.out ht (R0.out w7 R7.out.2) (by omega) (fun l hl => Nat.le_trans (hs300.out l hl) (by decide))
            simpa using h)
          have K7 := Lib.hid R7.out.2
          clear R7 CP k6 hns hnl
          go_wp2_with (go_at_call 18; refine CL.out.mono ?_; rintro e w8 ⟨rfl, nq, rfl⟩)
          go_ret
          exact ⟨rfl, K7.out.drewN nq⟩
end Go.Proofs.Ytncenfgnhamdbaa
