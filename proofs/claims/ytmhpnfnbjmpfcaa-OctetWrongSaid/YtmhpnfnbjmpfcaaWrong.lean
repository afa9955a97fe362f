/-
  THE WALK of OctetWrong.
-/
import Derived.Test.YtmhpnfnbjmpfcaaGreat
import Derived.Test.YtmhpnfnbjmpfcaaListW
namespace Go.Proofs.Ytmhpnfnbjmpfcaa
open Go.RowKit
/-- A reader that has gone wrong. -/
def Bad (w : World) (g : Nat) : Prop := RdE w g ([], true)
theorem tk_bad (n : Nat) : tk n ([], true) = ([], true) := by simp [tk, tkR, tkB]
theorem tkL_bad (n : Nat) : tkL n [] true = [] := by simp [tkL]
theorem num_nil : num [] = 0 := rfl
/-- What a call on such a reader leaves. -/
def Still (w : World) (g : Nat) (v : Value) (e : Ending) (w' : World) : Prop := e = .returned v ∧ Bad w' g ∧ Keep (fun k => k = g) w w'
theorem byte_bad (g : Nat) (w : World) (h : Bad w g) : Hid (Calls Try.prog 10 #[.pointer (some ⟨g, 0, none⟩)] w (Still w g (.int .u8 0))) := by
  have h1 := byte_e g ([], true) w h (by simp)
  rw [tk_bad, show num (tkL 1 ([] : List UInt8) true) = 0 from rfl] at h1
  exact h1
theorem number_bad (g : Nat) (n : Int) (w : World) (h : Bad w g) : Hid (Calls Try.prog 11 #[.pointer (some ⟨g, 0, none⟩), .int .i64 n] w (Still w g (.int .u64 0))) := by
  have h1 := number_e g ([], true) n w h (by simp)
  rw [tk_bad, tkL_bad, num_nil] at h1
  exact h1
theorem int_bad (g : Nat) (w : World) (h : Bad w g) : Hid (Calls Try.prog 12 #[.pointer (some ⟨g, 0, none⟩)] w (Still w g (.int .i64 0))) := by
  have h1 := int_e g ([], true) w h (by simp)
  rw [tk_bad, tkL_bad, num_nil, show asInt64 0 = 0 from IntWalk.wrap64_in _ ⟨by omega, by omega⟩] at h1
  exact h1
theorem flag_bad (g : Nat) (w : World) (h : Bad w g) : Hid (Calls Try.prog 13 #[.pointer (some ⟨g, 0, none⟩)] w (Still w g (.bool false))) := by
  have h1 := flag_e g ([], true) w h (by simp)
  rw [show flagS ([], true) = ([], true) from rfl, tkL_bad, num_nil] at h1
  exact h1
theorem left_bad (g : Nat) (w : World) (h : Bad w g) : Hid (Calls Try.prog 14 #[.pointer (some ⟨g, 0, none⟩)] w fun e w' => e = .returned (.int .i64 0) ∧ w = w') := left_e g ([], true) w h
theorem end_bad (g : Nat) (w : World) (h : Bad w g) : Hid (Calls Try.prog 15 #[.pointer (some ⟨g, 0, none⟩)] w fun e w' => e = .returned (.int .i64 3) ∧ w = w') := end_e g ([], true) w h
theorem bytes_bad (g : Nat) (n : Int) (w : World) (h : Bad w g) : Hid (Calls Try.prog 7 #[.pointer (some ⟨g, 0, none⟩), .int .i64 n] w fun e w' => ∃ A c, e = .returned (.slice A 0 c) ∧ Bad w' g ∧ Keep (fun k => k = g) w w') := by
  have h1 := bytes_e g ([], true) n w h (by simp)
  rw [(cnt_wrong n).1, (cnt_wrong n).2, tk_bad] at h1
  refine h1.mono ?_
  rintro e w' ⟨A, n1, c, he, hn, _, _, hr, hk⟩
  have h0 : n1 = 0 := hn.out
  subst h0
  exact ⟨A, c, he, hr, hk⟩
/-- What Bytes(-1) leaves of any reader. -/
theorem bytes_minus (g : Nat) (s : List UInt8 × Bool) (w : World) (h : RdE w g s) (hb : s.1.length ≤ 70368744177664) : Hid (Calls Try.prog 7 #[.pointer (some ⟨g, 0, none⟩), .int .i64 (-1)] w fun e w' => ∃ v, e = .returned v ∧ Bad w' g ∧ Keep (fun k => k = g) w w') := by
  have h1 := bytes_e g s (-1) w h hb
  have hbad : cntBad (-1) s := .inr (by omega)
  have e1 : cntV (-1) s = 0 := by unfold cntV; rw [if_pos hbad]
  have e2 : cntS (-1) s = ([], true) := by unfold cntS; rw [if_pos hbad]
  rw [e1, e2, tk_bad] at h1
  refine h1.mono ?_
  rintro e w' ⟨A, n1, c, he, _, _, _, hr, hk⟩
  exact ⟨_, he, hr, hk⟩
theorem cell_t {w w' : World} {g b i : Nat} {v : Value} (hc : w.cell? ⟨b, i, none⟩ = some v) (hk : Keep (fun k => k = g) w w') (hne : b ≠ g) : w'.cell? ⟨b, i, none⟩ = some v :=
  (hk.cell (World.block_lt_of_cell? w _ hc) (fun h => hne h)).trans hc

set_option maxRecDepth 100000 in
set_option maxHeartbeats 1000000 in
theorem wrong_small (A1 A2 : Option Addr) (l : List UInt8) (xs : List TC) (c1 n2 c2 : Nat) (w : World) (hn : n2 = xs.length) (h60 : xs.length ≤ 9223372036854775807) (hb : l.length ≤ 500) (r1 : Rd w w.heap.size A1 l) (r2 : Things w w.heap.size A2 xs) :
    Calls Try.prog 3 #[.slice A1 l.length c1, .slice A2 n2 c2] w fun e w' => e = .returned (.bool true) ∧ Keep (fun _ => False) w w' := by
  have HN := Lib.hid hn
  have d1 : decide ((500 : Int) < (l.length : Int)) = false := by simp; omega
  clear hn
  go_enter Try.func3, Try.ntmps3
  go_wp2_with fail
  refine (speaks1_any w).mono ?_
  rintro e w1 ⟨rfl, k1⟩
  go_wp2_with fail
  refine (great_any A2 xs n2 c2 w1 HN.out h60 ((r2.keep k1 (Nat.le_refl _)).more k1.size)).mono ?_
  rintro e w2 ⟨bg, rfl, k12, hle⟩
  have k2 := k1.trans k12 (fun _ _ h => h)
  cases bg with
  | true =>
    go_wp2
    go_ret
    exact ⟨rfl, k2⟩
  | false =>
    have hn60 := hle rfl
    clear hle
    go_wp2_with fail
    refine (read_any A1 l l.length c1 w2 rfl (by omega) w.heap.size (r1.keepF k2 (Nat.le_refl _)) k2.size).mono ?_
    rintro e w3 ⟨g, A3, c3, rfl, hr3, hg, k23⟩
    have k3 := k2.trans k23 (fun _ _ h => h)
    have hgw : w.heap.size ≤ g := Nat.le_trans k2.size hg
    have B0 := bytes_minus g (l, false) w3 ⟨A3, c3, hr3⟩ (by show l.length ≤ _; omega)
    go_wp2_with fail
    refine B0.out.mono ?_
    rintro e w4 ⟨v4, rfl, hbad, k34⟩
    have k4 := k3.trans k34 (fun i hi h => by omega)
    clear B0 hr3 k23 k34 k12 r1
    go_wp2_with fail
    go_loopw [24] (fun i wr => ∃ k : Nat, k ≤ n2 ∧ i = .int .i64 k ∧ Bad wr g ∧ Keep (fun _ => False) w wr) (fun i _ => n2 - (intOf i).toNat)
    case atStart => exact ⟨0, Nat.zero_le _, rfl, hbad, k4⟩
    case round =>
      obtain ⟨k, hk, rfl, hb5, hkw⟩ := hrel
      by_cases hlt : k < n2
      · obtain ⟨b, o, rfl, hbw, hc⟩ := (r2.keep hkw (Nat.le_refl _)) k xs[k] (List.getElem?_eq_getElem (by rw [← HN.out]; exact hlt))
        generalize xs[k] = x at *
        obtain ⟨x0, x1, x2, x3, x4, x5⟩ := x
        have q0 : wr.cell? ⟨b, o + k * 4, none⟩ = some (.int .i64 x0) := hc 0 _ rfl
        have q1 : wr.cell? ⟨b, o + k * 4 + 1, none⟩ = some (.int .i64 x1) := hc 1 _ rfl
        have q2 : wr.cell? ⟨b, o + k * 4 + 2, none⟩ = some (.int .u64 x2) := hc 2 _ rfl
        have q3 : wr.cell? ⟨b, o + k * 4 + 3, none⟩ = some (.slice x3 x4 x5) := hc 3 _ rfl
        have hne : wr.heap.size ≠ g := by have := hb5.lt; omega
        clear hc
        have hb6 : Bad (wr.alloc (.cells #[.int .i64 x0, .int .i64 x1, .int .u64 x2, .slice x3 x4 x5] 31)) g := RdE.alloc hb5 _
        have z6 : (wr.alloc (.cells #[.int .i64 x0, .int .i64 x1, .int .u64 x2, .slice x3 x4 x5] 31)).cell? ⟨wr.heap.size, 1, none⟩ = some (.int .i64 x1) := by rw [World.cell?_alloc_at _ _ _ _ rfl]; rfl
        have L6 := Lib.hid (list_wrong g x1 _ hb6)
        have k6 := hkw.alloc (.cells #[.int .i64 x0, .int .i64 x1, .int .u64 x2, .slice x3 x4 x5] 31)
        clear hb6
        go_wp2_with fail
        refine L6.out.mono ?_
        rintro e w7 ⟨rfl, hb7, hk7⟩
        have z7 := cell_t z6 hk7 hne
        have k7 := k6.trans hk7 (fun i hi h => by omega)
        clear z6 k6 hk7
        go_wp2_with fail
        refine (byte_bad g w7 hb7).out.mono ?_
        rintro e w8 ⟨rfl, hb8, hk8⟩
        have z8 := cell_t z7 hk8 hne
        have k8 := k7.trans hk8 (fun i hi h => by omega)
        clear z7 k7 hk8
        go_wp2_with fail
        refine (number_bad g x1 w8 hb8).out.mono ?_
        rintro e w9 ⟨rfl, hb9, hk9⟩
        have z9 := cell_t z8 hk9 hne
        have k9 := k8.trans hk9 (fun i hi h => by omega)
        clear z8 k8 hk9
        go_wp2_with fail
        refine (int_bad g w9 hb9).out.mono ?_
        rintro e w10 ⟨rfl, hb10, hk10⟩
        have z10 := cell_t z9 hk10 hne
        have k10 := k9.trans hk10 (fun i hi h => by omega)
        clear z9 k9 hk10
        go_wp2_with fail
        refine (bytes_bad g x1 w10 hb10).out.mono ?_
        rintro e w11 ⟨A11, c11, rfl, hb11, hk11⟩
        have k11 := k10.trans hk11 (fun i hi h => by omega)
        clear z10 k10 hk11
        go_wp2_with fail
        refine (flag_bad g w11 hb11).out.mono ?_
        rintro e w12 ⟨rfl, hb12, hk12⟩
        have k12 := k11.trans hk12 (fun i hi h => by omega)
        clear k11 hk12
        go_wp2_with fail
        refine (left_bad g w12 hb12).out.mono ?_
        rintro e w13 ⟨rfl, rfl⟩
        go_wp2_with fail
        refine (end_bad g w12 hb12).out.mono ?_
        rintro e w13 ⟨rfl, rfl⟩
        go_wp2
        go_roundw
        case rel => exact ⟨k + 1, by omega, by go_num, hb12, k12⟩
        case measure => simp [intOf]; omega
      · obtain rfl : k = n2 := by omega
        go_wp2_with fail
        refine (end_bad g wr hb5).out.mono ?_
        rintro e w13 ⟨rfl, rfl⟩
        go_wp2
        go_ret
        exact ⟨rfl, hkw⟩

set_option maxHeartbeats 400000 in
theorem wrong_great (A1 A2 : Option Addr) (n1 c1 n2 c2 : Nat) (w : World) (hb : 500 < n1) :
    Calls Try.prog 3 #[.slice A1 n1 c1, .slice A2 n2 c2] w fun e w' => e = .returned (.bool true) ∧ Keep (fun _ => False) w w' := by
  have d1 : decide ((500 : Int) < (n1 : Int)) = true := by simp; omega
  go_enter Try.func3, Try.ntmps3
  go_wp2_with fail
  refine (speaks1_any w).mono ?_
  rintro e w1 ⟨rfl, k1⟩
  go_wp2
  go_ret
  exact ⟨rfl, k1⟩
theorem wrong_any (A1 A2 : Option Addr) (l : List UInt8) (xs : List TC) (c1 n2 c2 : Nat) (w : World) (hn : n2 = xs.length) (h60 : xs.length ≤ 9223372036854775807) (r1 : Rd w w.heap.size A1 l) (r2 : Things w w.heap.size A2 xs) :
    Calls Try.prog 3 #[.slice A1 l.length c1, .slice A2 n2 c2] w fun e w' => e = .returned (.bool true) ∧ Keep (fun _ => False) w w' := by
  rcases Nat.lt_or_ge 500 l.length with h | h
  · exact wrong_great A1 A2 l.length c1 n2 c2 w h
  · exact wrong_small A1 A2 l xs c1 n2 c2 w hn h60 h r1 r2
end Go.Proofs.Ytmhpnfnbjmpfcaa
