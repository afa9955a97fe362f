/-
  DeviceFills, walked.
-/
import Derived.Test.YtncenfgnhamdbabDevM
namespace Go.Proofs.Ytncenfgnhamdbab
open Go.RowKit

theorem push_rep (n k : Nat) (b : List UInt8) (h : k < n) : Dv.push ⟨n, List.replicate k ⟨1, b⟩, 0⟩ b = ⟨n, List.replicate (k + 1) ⟨1, b⟩, 0⟩ := by
  rw [Dv.push_room (by simpa using h)]
  simp [List.replicate_succ']
theorem crash_nil (n : Nat) (picks : List UInt8) : Dv.crash ⟨n, [], 0⟩ picks = ⟨n, [], 0⟩ := rfl
theorem wholes_full (n : Nat) (b : List UInt8) : (wholes (List.replicate n (⟨1, b⟩ : Pg))).length = n := by rw [wholes_rep, if_pos rfl]
set_option maxRecDepth 100000 in
set_option maxHeartbeats 2000000 in
theorem fills_walk (z : Int) (A : Option Addr) (b : List UInt8) (lb c : Nat) (pk : UInt8) (w : World) (hlb : lb = b.length) (hr : Rd w w.heap.size A b) :
    Calls Try.prog 3 #[.int .i64 z, .slice A lb c, .int .u8 pk.toNat] w fun e w' => e = .returned (.bool true) ∧ KF w w' := by
  have CS := Lib.hid (speaks8 w)
  by_cases h1 : z < 1
  · clear hr hlb
    go_enter Try.func3, Try.ntmps3
    go_wp2_with (go_at_call 5; refine CS.out.mono ?_; rintro e w1 ⟨rfl, k1⟩)
    go_ret
    exact ⟨rfl, k1⟩
  by_cases h2 : 300 < z
  · clear hr hlb
    go_enter Try.func3, Try.ntmps3
    go_wp2_with (go_at_call 5; refine CS.out.mono ?_; rintro e w1 ⟨rfl, k1⟩)
    go_ret
    exact ⟨rfl, k1⟩
  obtain ⟨n, rfl⟩ : ∃ n : Nat, z = (n : Int) := ⟨z.toNat, by omega⟩
  by_cases h3 : 100 < lb
  · have h3' : (100 : Int) < (lb : Int) := by omega
    clear hr hlb
    go_enter Try.func3, Try.ntmps3
    go_wp2_with (go_at_call 5; refine CS.out.mono ?_; rintro e w1 ⟨rfl, k1⟩)
    go_ret
    exact ⟨rfl, k1⟩
  have h3' : ¬ (100 : Int) < (lb : Int) := by omega
  have hb1 : b.length ≤ 1000 := by omega
  have hn1 : 1 ≤ n := by omega
  have hn2 : n ≤ 300 := by omega
  have HR := Lib.hid fun W (k : KF w W) => (show Rd W W.heap.size A b from (hr.keepF k (Nat.le_refl _)).more k.size)
  have HLB := Lib.hid hlb
  clear hr hlb
  go_enter Try.func3, Try.ntmps3
  go_upto_region 5 with (go_at_call 5; refine CS.out.mono ?_; rintro e w1 ⟨rfl, k1⟩)
  clear CS
  have CN := Lib.hid (M.new n w1 hn1 (by omega))
  go_upto_region 6 with (go_at_call 6; refine CN.out.mono ?_; rintro e w2 ⟨rfl, D2⟩)
  obtain ⟨g, hg⟩ : ∃ g, w1.heap.size = g := ⟨_, rfl⟩
  rw [hg] at D2
  have HG := Lib.hid hg
  rw [hg]
  clear hg CN
  have HD2 := Lib.hid D2
  clear D2
  go_wp2_with fail
  go_loopg [9] n (fun gh i wr => ∃ k : Nat, k ≤ n ∧ n - k ≤ gh ∧ i = .int .i64 k ∧ Hid (M w1 wr g ⟨n, List.replicate k ⟨1, b⟩, 0⟩))
  case atStart => exact ⟨0, by omega, by omega, rfl, HD2⟩
  case round =>
    obtain ⟨k, hk, hgk, rfl, HM⟩ := hrel
    rcases Nat.lt_or_ge k n with hlt | hge
    · have hlt' : (k : Int) < (n : Int) := by omega
      have CF : Hid (Calls Try.prog 7 #[.pointer (some ⟨g, 0, none⟩)] wr fun e w' => e = .returned (.int .i64 ((n - k : Nat) : Int)) ∧ ∃ n, wr.drewN n = w') := Lib.hid (by
        have := HM.out.free
        rwa [List.length_replicate] at this)
      have CA : Hid (∀ j, Calls Try.prog 8 #[.pointer (some ⟨g, 0, none⟩), .slice A lb c] (wr.drewN j) fun e w' => e = .returned (.int .i64 0) ∧ M w1 w' g ⟨n, List.replicate (k + 1) ⟨1, b⟩, 0⟩) := Lib.hid fun j => by
        have h := (HM.out.far ((KF.refl wr).drewN j)).append A b lb c HLB.out hb1 (HR.out _ (KF.trans k1 (HM.out.far ((KF.refl wr).drewN j)).keep))
        rw [push_rep n k b hlt, List.length_replicate, if_neg (by show ¬ n ≤ k; omega)] at h
        exact h
      have hw : IntKind.i64.wrap ((n : Int) - (k : Int)) = ((n - k : Nat) : Int) := by rw [IntKind.wrap_i64]; omega
      have hw2 : (n : Int) - (k : Int) = ((n - k : Nat) : Int) := by omega
      go_wp2_with (first
        | (go_at_call 7; refine CF.out.mono ?_; rintro e w3 ⟨rfl, j, rfl⟩)
        | (go_at_call 8; refine (CA.out _).mono ?_; rintro e w4 ⟨rfl, D4⟩))
      have HD4 := Lib.hid D4
      clear D4
      go_roundg (n - (k + 1))
      case measure => omega
      case rel => exact ⟨k + 1, by omega, by omega, by go_num, HD4⟩
    · obtain rfl : k = n := by omega
      have hlt' : ¬ (k : Int) < (k : Int) := by omega
      have CA : Hid (Calls Try.prog 8 #[.pointer (some ⟨g, 0, none⟩), .slice A lb c] wr fun e w' => e = .returned (.int .i64 4) ∧ M w1 w' g ⟨k, List.replicate k ⟨1, b⟩, 0⟩) := Lib.hid (by
        have h := HM.out.append A b lb c HLB.out hb1 (HR.out _ (KF.trans k1 HM.out.keep))
        rwa [Dv.push_full (by simp), List.length_replicate, if_pos (Nat.le_refl _)] at h)
      have CF : Hid (∀ W, M w1 W g ⟨k, List.replicate k ⟨1, b⟩, 0⟩ → Calls Try.prog 7 #[.pointer (some ⟨g, 0, none⟩)] W fun e w' => e = .returned (.int .i64 0) ∧ ∃ n, W.drewN n = w') := Lib.hid fun W hM => by
        have := hM.free
        rwa [List.length_replicate, Nat.sub_self] at this
      go_upto_region 15 with (first
        | (go_at_call 8; refine CA.out.mono ?_; rintro e w3 ⟨rfl, D3⟩; have HD3 := Lib.hid D3; clear D3)
        | (go_at_call 7; refine (CF.out _ HD3.out).mono ?_; rintro e w4 ⟨rfl, j, rfl⟩)
        | (go_at_call 9; refine (HD3.out.far ((KF.refl w3).drewN j)).pages.mono ?_; rintro e w5 ⟨A5, n5, c5, rfl, ⟨h5, h51, h52, h53⟩, k5⟩; rw [wholes_full] at h5; clear h51 h52 h53; subst h5))
      have D5 : M w1 w5 g ⟨n5, List.replicate n5 ⟨1, b⟩, 0⟩ := HD3.out.far (KF.trans ((KF.refl w3).drewN j) k5)
      have CC := Lib.hid (D5.crash_lit pk)
      obtain ⟨f1, f2⟩ := fills_crash n5 b pk
      have f3 : (Dv.crash ⟨n5, List.replicate n5 ⟨1, b⟩, 0⟩ [pk]).room = n5 := rfl
      generalize Dv.crash ⟨n5, List.replicate n5 ⟨1, b⟩, 0⟩ [pk] = d' at *
      clear D5 k5 HD3 CA CF HM HD2
      go_upto_region 16 with (go_at_call 10; refine CC.out.mono ?_; rintro e w6 ⟨rfl, D6⟩)
      have HD6 := Lib.hid D6
      clear D6 CC
      have CW : Hid (∀ W, KF w6 W → Calls Try.prog 11 #[.pointer (some ⟨g, 0, none⟩)] W fun e w' => e = .returned (.tuple #[]) ∧ Hid (M w1 w' g ⟨n5, [], 0⟩)) := Lib.hid fun W k => ((HD6.out.far k).wipe).mono (fun e w' ⟨he, hm⟩ => ⟨he, Lib.hid (by
        have h : d'.wipe = ⟨n5, [], 0⟩ := by rw [← f3]; rfl
        rwa [h] at hm)⟩)
      have CN : Hid (∀ W, M w1 W g ⟨n5, [], 0⟩ → Calls Try.prog 10 #[.pointer (some ⟨g, 0, none⟩), .slice none 0 0] W fun e w' => e = .returned (.tuple #[]) ∧ Hid (M w1 w' g ⟨n5, [], 0⟩)) := Lib.hid fun W hM => ((hM.crash none [] 0 0 rfl (by decide) Rd.nil (fun ad h => by cases h))).mono (fun e w' ⟨he, hm⟩ => ⟨he, Lib.hid hm⟩)
      have CF2 : Hid (∀ W, M w1 W g ⟨n5, [], 0⟩ → Calls Try.prog 7 #[.pointer (some ⟨g, 0, none⟩)] W fun e w' => e = .returned (.int .i64 n5) ∧ ∃ n, W.drewN n = w') := Lib.hid fun W hM => hM.free
      have CP2 : Hid (∀ W, M w1 W g ⟨n5, [], 0⟩ → Calls Try.prog 9 #[.pointer (some ⟨g, 0, none⟩)] W fun e w' => ∃ A c, e = .returned (.slice A 0 c) ∧ KF W w') := Lib.hid fun W hM => hM.pages.mono (fun e w' ⟨A, n, c, he, h, k⟩ => ⟨A, c, by rw [he]; have h1 : n = 0 := h.1; rw [h1], k⟩)
      obtain ⟨F, Wn, fr, hF, hW, hld⟩ : ∃ F Wn fr : Nat, d'.room - d'.pages.length = F ∧ (wholes d'.pages).length = Wn ∧ ((pk.toNat % 3 = 0 ∧ F = n5 ∧ Wn = 0) ∨ (pk.toNat % 3 = 1 ∧ F = 0 ∧ Wn = n5) ∨ (pk.toNat % 3 = 2 ∧ F = 0 ∧ Wn = 0)) := by
        refine ⟨_, _, 0, rfl, rfl, ?_⟩
        rw [f1, f2, f3]
        rcases (by omega : pk.toNat % 3 = 0 ∨ pk.toNat % 3 = 1 ∨ pk.toNat % 3 = 2) with h | h | h
        · exact .inl ⟨h, by rw [if_pos h]; omega, by rw [if_neg (by omega)]⟩
        · exact .inr (.inl ⟨h, by rw [if_neg (by omega)]; omega, by rw [if_pos h]⟩)
        · exact .inr (.inr ⟨h, by rw [if_neg (by omega)]; omega, by rw [if_neg (by omega)]⟩)
      have CF3 : Hid (∀ W, KF w6 W → Calls Try.prog 7 #[.pointer (some ⟨g, 0, none⟩)] W fun e w' => e = .returned (.int .i64 (F : Int)) ∧ ∃ n, W.drewN n = w') := Lib.hid fun W k => by
        have := (HD6.out.far k).free
        rwa [hF] at this
      have CP3 : Hid (∀ W, KF w6 W → Calls Try.prog 9 #[.pointer (some ⟨g, 0, none⟩)] W fun e w' => ∃ A c, e = .returned (.slice A Wn c) ∧ KF W w') := Lib.hid fun W k => ((HD6.out.far k).pages).mono (fun e w' ⟨A, n, c, he, h, k⟩ => ⟨A, c, (by rw [he, h.1, hW]), k⟩)
      clear f1 f2 f3 hF hW HD6
      rcases hld with ⟨ht, rfl, rfl⟩ | ⟨ht, rfl, rfl⟩ | ⟨ht, rfl, rfl⟩
      · have htm : Int.tmod (pk.toNat : Int) 3 = 0 := by rw [Int.tmod_eq_emod_of_nonneg (by omega)]; omega
        clear ht
        go_upto_region 18 with fail
        go_upto_region 20 with (first
          | (go_at_call 7; refine (CF3.out _ (((KF.refl w6).alloc _).alloc _)).mono ?_; rintro e w7 ⟨rfl, j7, rfl⟩)
          | (go_at_call 9; refine (CP3.out _ ((((KF.refl w6).alloc _).alloc _).drewN j7)).mono ?_; rintro e w8 ⟨A8, c8, rfl, k8⟩))
        have k68 := KF.trans ((((KF.refl w6).alloc _).alloc _).drewN j7) k8
        go_upto_region 21 with (go_at_call 11; refine (CW.out _ k68).mono ?_; rintro e w9 ⟨rfl, H9⟩)
        go_upto_region 22 with (go_at_call 10; refine (CN.out _ H9.out).mono ?_; rintro e w10 ⟨rfl, H10⟩)
        clear H9 k68 k8
        go_wp2_with (first
          | (go_at_call 7; refine (CF2.out _ H10.out).mono ?_; rintro e w11 ⟨rfl, j11, rfl⟩)
          | (go_at_call 9; refine (CP2.out _ (H10.out.far ((KF.refl w10).drewN j11))).mono ?_; rintro e w12 ⟨A12, c12, rfl, k12⟩))
        go_ret
        exact ⟨rfl, KF.trans k1 (KF.trans H10.out.keep (KF.trans ((KF.refl w10).drewN j11) k12))⟩
      · have htm : Int.tmod (pk.toNat : Int) 3 = 1 := by rw [Int.tmod_eq_emod_of_nonneg (by omega)]; omega
        clear ht
        go_upto_region 18 with fail
        go_upto_region 20 with (first
          | (go_at_call 7; refine (CF3.out _ (((KF.refl w6).alloc _).alloc _)).mono ?_; rintro e w7 ⟨rfl, j7, rfl⟩)
          | (go_at_call 9; refine (CP3.out _ ((((KF.refl w6).alloc _).alloc _).drewN j7)).mono ?_; rintro e w8 ⟨A8, c8, rfl, k8⟩))
        have k68 := KF.trans ((((KF.refl w6).alloc _).alloc _).drewN j7) k8
        go_upto_region 21 with (go_at_call 11; refine (CW.out _ k68).mono ?_; rintro e w9 ⟨rfl, H9⟩)
        go_upto_region 22 with (go_at_call 10; refine (CN.out _ H9.out).mono ?_; rintro e w10 ⟨rfl, H10⟩)
        clear H9 k68 k8
        go_wp2_with (first
          | (go_at_call 7; refine (CF2.out _ H10.out).mono ?_; rintro e w11 ⟨rfl, j11, rfl⟩)
          | (go_at_call 9; refine (CP2.out _ (H10.out.far ((KF.refl w10).drewN j11))).mono ?_; rintro e w12 ⟨A12, c12, rfl, k12⟩))
        go_ret
        exact ⟨rfl, KF.trans k1 (KF.trans H10.out.keep (KF.trans ((KF.refl w10).drewN j11) k12))⟩
      · have htm : Int.tmod (pk.toNat : Int) 3 = 2 := by rw [Int.tmod_eq_emod_of_nonneg (by omega)]; omega
        clear ht
        go_upto_region 18 with fail
        go_upto_region 20 with (first
          | (go_at_call 7; refine (CF3.out _ (((KF.refl w6).alloc _).alloc _)).mono ?_; rintro e w7 ⟨rfl, j7, rfl⟩)
          | (go_at_call 9; refine (CP3.out _ ((((KF.refl w6).alloc _).alloc _).drewN j7)).mono ?_; rintro e w8 ⟨A8, c8, rfl, k8⟩))
        have k68 := KF.trans ((((KF.refl w6).alloc _).alloc _).drewN j7) k8
        go_upto_region 21 with (go_at_call 11; refine (CW.out _ k68).mono ?_; rintro e w9 ⟨rfl, H9⟩)
        go_upto_region 22 with (go_at_call 10; refine (CN.out _ H9.out).mono ?_; rintro e w10 ⟨rfl, H10⟩)
        clear H9 k68 k8
        go_wp2_with (first
          | (go_at_call 7; refine (CF2.out _ H10.out).mono ?_; rintro e w11 ⟨rfl, j11, rfl⟩)
          | (go_at_call 9; refine (CP2.out _ (H10.out.far ((KF.refl w10).drewN j11))).mono ?_; rintro e w12 ⟨A12, c12, rfl, k12⟩))
        go_ret
        exact ⟨rfl, KF.trans k1 (KF.trans H10.out.keep (KF.trans ((KF.refl w10).drewN j11) k12))⟩
end Go.Proofs.Ytncenfgnhamdbab
