/-
  WALKS of the document's own answers: the sum bit by bit, a number's bytes, bytes with their sum, what is ahead of a sum.
-/
import Derived.Test.YtklpebfkgdklmabDoorRef
import Derived.Test.YtklpebfkgdklmabDoorCrc
import Derived.Test.YtklpebfkgdklmabDoorSumMath
namespace Go.Proofs.YtklpebfkgdklmabDoor
open Go.RowKit

/-- k bits of a sum's step, as the loop has them. -/
def Bits (t0 k t1 : Nat) : Prop := t1 = ones k t0
theorem bits_step {t0 k t1 : Nat} (h : Bits t0 k t1) : Bits t0 (k + 1) (one t1) := by
  unfold Bits at *
  rw [h]
  rfl
theorem run_bits {s0 s1 k t0 t1 : Nat} {l : List UInt8} {b : UInt8} (hk : k < l.length) (h : s1 = run s0 (l.take k)) (hb : l[k] = b) (hx : s1 ^^^ b.toNat = t0) (hn : Bits t0 8 t1) : Hid (t1 = run s0 (l.take (k + 1))) := by
  show t1 = run s0 (l.take (k + 1))
  rw [List.take_succ_eq_append_getElem hk, run_append, ← h, hn, ← hx, ← byt_ones]
  simp [run, hb]
set_option maxHeartbeats 400000 in
theorem refSum_any (A : Option Addr) (l : List UInt8) (n c : Nat) (w : World) (hl : n = l.length) (hn : n ≤ 4611686018427387904) (B : Nat) (hr : Rd w B A l) :
    Calls Tryd.prog 43 #[.slice A n c] w fun e w' => e = .returned (.int .u32 (crc l : Nat)) ∧ w = w' := by
  have HL := Lib.hid hl
  clear hl
  go_enter Tryd.func43, Tryd.ntmps43
  go_wp2
  go_loop [3, 4] (fun t i => ∃ k s1 : Nat, k ≤ n ∧ i = .int .i64 k ∧ s1 < 4294967296 ∧ Hid (s1 = run 4294967295 (l.take k)) ∧ t = .int .u32 s1) (fun _ i => n - (intOf i).toNat)
  case atStart => exact ⟨0, 4294967295, Nat.zero_le _, rfl, by omega, rfl, rfl⟩
  case round =>
    obtain ⟨k, s1, hk, rfl, hs1, H, rfl⟩ := hrel
    by_cases hlt : k < n
    · have hkl : k < l.length := by rw [← HL.out]; exact hlt
      obtain ⟨a, rfl, _, hcell⟩ := hr.cells hkl
      have hb := l[k].toNat_lt
      generalize hbk : l[k] = b at *
      have HB := Lib.hid hbk
      clear hbk
      have hb' : b.toNat < 4294967296 := by omega
      have hxb := u32_xor_nat s1 b.toNat hs1 hb'
      have ht0 := xor_lt s1 b.toNat hs1 hb'
      generalize hx0 : s1 ^^^ b.toNat = t0 at *
      have HX := Lib.hid hx0
      clear hx0 hb'
      go_wp2
      clear hxb
      go_loop [3, 5] (fun t i => ∃ j t1 : Nat, j ≤ 8 ∧ i = .int .i64 j ∧ t1 < 4294967296 ∧ Bits t0 j t1 ∧ t = .int .u32 t1) (fun _ i => 8 - (intOf i).toNat)
      case atStart => exact ⟨0, t0, by omega, rfl, ht0, rfl, rfl⟩
      case round =>
        obtain ⟨j, t1, hj, rfl, ht1, HN, rfl⟩ := hrel
        have hol := one_lt t1 ht1
        have HP : Hid (bits .xor .u32 ((t1 : Int) / 2) 3988292384 = (((t1 / 2) ^^^ 3988292384 : Nat) : Int)) := u32_xor_nat (t1 / 2) 3988292384 (by omega) (by omega)
        by_cases hj2 : j < 8
        · by_cases hp : t1 % 2 = 1
          · have hpb : ((t1 : Int) % 2 == 1) = true := by rw [beq_iff_eq]; omega
            go_wp2
            go_round
            case rel => exact ⟨j + 1, one t1, by omega, by go_num, hol, bits_step HN, by rw [HP.out]; unfold one; rw [if_pos hp]⟩
            case measure => simp [intOf]; omega
          · have hpb : ((t1 : Int) % 2 == 1) = false := by rw [beq_eq_false_iff_ne]; omega
            go_wp2
            go_round
            case rel => exact ⟨j + 1, one t1, by omega, by go_num, hol, bits_step HN, by unfold one; rw [if_neg hp, Nat.xor_zero]; rfl⟩
            case measure => simp [intOf]; omega
        · obtain rfl : j = 8 := by omega
          go_wp2
          go_round
          case rel => exact ⟨k + 1, t1, by omega, by go_num, ht1, run_bits hkl H.out HB.out HX.out HN, rfl⟩
          case measure => simp [intOf]; omega
    · obtain rfl : k = n := by omega
      go_wp2
      go_ret
      have h := H.out
      rw [HL.out, List.take_length] at h
      refine ⟨ret_int ?_, rfl⟩
      show _ = ((crcMore 0 l : Nat) : Int)
      unfold crcMore
      rw [Nat.xor_zero, ← h, flip_all s1 hs1]
      omega

/-- What is known of a row's place behind a step: the old one, or a newer one. -/
def Place (w : World) (v v' : Value) : Prop := v'.ownBlock = v.ownBlock ∨ ∃ k, v'.ownBlock = some k ∧ w.heap.size ≤ k
theorem Place.keep {a : World} {v v' : Value} (h : Place a v v') : ∀ i, i < a.heap.size → v'.ownBlock = some i → v.ownBlock = some i := by
  intro i hi hv
  rcases h with h | ⟨k, hk, hle⟩
  · rw [← h]
    exact hv
  · rw [hk] at hv
    injection hv with hv
    omega
theorem Place.next {a w : World} {v v' v1 : Value} (h : Place a v v') (hs : a.heap.size ≤ w.heap.size) (h1 : v1.ownBlock = v'.ownBlock ∨ v1.ownBlock = some w.heap.size) : Place a v v1 := by
  rcases h1 with h1 | h1
  · rcases h with h | ⟨k, hk, hle⟩
    · exact .inl (h1.trans h)
    · exact .inr ⟨k, h1.trans hk, hle⟩
  · exact .inr ⟨_, h1, hs⟩
theorem pow_step (x k y : Nat) (h : y = x / 2 ^ (8 * k)) : y / 256 = x / 2 ^ (8 * (k + 1)) := by
  rw [h, Nat.div_div_eq_div_mul, show 8 * (k + 1) = 8 * k + 8 by omega, Nat.pow_add]
theorem byte_of_nat (y : Nat) : ∃ b : UInt8, (y : Int) % 256 = (b.toNat : Int) ∧ b = UInt8.ofNat y := ⟨UInt8.ofNat y, by rw [UInt8.toNat_ofNat']; omega, rfl⟩
/-- A number's bytes behind a row of the call's own. -/
def Puts (w : World) (v : Value) (l : List UInt8) (e : Ending) (w' : World) : Prop :=
  ∃ A' m' c', e = .returned (.slice A' m' c') ∧ Own 5 w' (.slice A' m' c') l ∧ Keep (fun k => v.ownBlock = some k) w w' ∧ Place w v (.slice A' m' c')
set_option maxHeartbeats 400000 in
theorem put_any (A : Option Addr) (m c : Nat) (l : List UInt8) (x n : Nat) (w : World) (ho : Own 5 w (.slice A m c) l) (hx : x < 18446744073709551616) (hn : n ≤ 8) (hb : l.length ≤ 70368744177600) :
    Calls Tryd.prog 27 #[.slice A m c, .int .u64 x, .int .i64 n] w (Puts w (.slice A m c) (l ++ be x n)) := by
  have hd : decide ((8 : Int) < (n : Int)) = false := by simp; omega
  go_enter Tryd.func27, Tryd.ntmps27
  go_wp2
  go_loopw [0, 7] (fun s i wr => ∃ (j : Nat) (z : Int) (A1 : Option Addr) (m1 c1 : Nat), j ≤ n ∧ z = n - 1 - j ∧ i = .int .i64 z ∧ s = .slice A1 m1 c1 ∧ Own 5 wr (.slice A1 m1 c1) (l ++ (be x n).take j) ∧ Keep (fun k => (Value.slice A m c).ownBlock = some k) w wr ∧ Place w (.slice A m c) (.slice A1 m1 c1)) (fun _ i _ => (intOf i + 1).toNat)
  case atStart => exact ⟨0, (n : Int) - 1, A, m, c, Nat.zero_le _, by omega, rfl, rfl, by simpa using ho, Keep.refl _ _, .inl rfl⟩
  case round =>
    obtain ⟨j, z, A1, m1, c1, hj, hz, rfl, rfl, ho1, hk1, hp1⟩ := hrel
    by_cases hlt : j < n
    · obtain rfl : z = ((n - 1 - j : Nat) : Int) := by omega
      have HS := Lib.hid (be_step x n j hlt)
      have hi7 : n - 1 - j ≤ 7 := by omega
      have q1 : j + 1 + (n - 1 - j) ≤ n := by omega
      have q2 : n ≤ j + 1 + (n - 1 - j) := by omega
      clear hz
      generalize n - 1 - j = i at *
      obtain ⟨wo, hwo⟩ : ∃ wo : World, wo = wr := ⟨_, rfl⟩
      subst hwo
      go_wp2
      go_loop [8, 9] (fun t u => ∃ k y : Nat, k ≤ i ∧ u = .int .i64 k ∧ y < 18446744073709551616 ∧ Hid (y = x / 2 ^ (8 * k)) ∧ t = .int .u64 y) (fun _ u => i - (intOf u).toNat)
      case atStart => exact ⟨0, x, Nat.zero_le _, rfl, hx, (by simp : x = x / 2 ^ (8 * 0)), rfl⟩
      case round =>
        obtain ⟨k, y, hk, rfl, hy, HY, rfl⟩ := hrel
        by_cases hki : k < i
        · have HP := Lib.hid (pow_step x k y HY.out)
          go_wp2
          go_round
          case rel => exact ⟨k + 1, y / 256, by omega, by go_num, by omega, HP.out, rfl⟩
          case measure => simp [intOf]; omega
        · obtain rfl : k = i := by omega
          obtain ⟨b, hyb, hb1⟩ := byte_of_nat y
          have HB := Lib.hid hb1
          clear hb1
          go_wp2_with (at_builtin; refine wpList_append_u8 _ rfl _ _ _ rfl bytesT (.slice A1 m1 c1) _ rfl (ho1.alloc _) (wo.heap.size + 1) (some ⟨wo.heap.size, 0, none⟩) 1 1 [b] rfl rfl (Rd.lit wo 5 (0, 0) [b] _ rfl) (by simp; omega) ?_; intro A4 n4 c4 w4 o4 e4 h4 m4 g4 f4)
          go_roundw
          case rel => exact ⟨j + 1, (k : Int) - 1, A4, n4, c4, by omega, by omega, rfl, rfl, by rw [HS.out, ← HY.out, ← HB.out, ← List.append_assoc]; exact o4, (hk1.alloc (.cells #[.int .u8 b.toNat] 5)).grown g4 (fun i h hi => hp1.keep i hi h), hp1.next (by have := hk1.size; simp; omega) f4⟩
          case measure => first | (simp [intOf]; done) | (simp [intOf]; omega)
    · obtain rfl : j = n := by omega
      obtain rfl : z = -1 := by omega
      rw [List.take_of_length_le (by rw [be_length]; exact Nat.le_refl _)] at ho1
      clear hz
      go_wp2
      go_ret
      exact ⟨A1, m1, c1, rfl, ho1, hk1, hp1⟩

theorem refSum_is {A : Option Addr} {l : List UInt8} {n c x : Nat} {w : World} (hl : n = l.length) (hn : n ≤ 4611686018427387904) {B : Nat} (hr : Rd w B A l) (hx : crc l = x) :
    Hid (Calls Tryd.prog 43 #[.slice A n c] w fun e w' => e = .returned (.int .u32 x) ∧ w = w') := by
  subst hx
  exact refSum_any A l n c w hl hn B hr
/-- What a call leaves that gives bytes in a new row. -/
def FreshE (w : World) (l : List UInt8) (e : Ending) (w' : World) : Prop := ∃ n, n = l.length ∧ Fresh w n l e w'
set_option maxHeartbeats 400000 in
theorem refWrap_any (A : Option Addr) (l : List UInt8) (n c : Nat) (w : World) (hl : n = l.length) (hb : l.length ≤ 35184372088832) (B : Nat) (hr : Rd w B A l) (hB : B ≤ w.heap.size) :
    Calls Tryd.prog 30 #[.slice A n c] w (FreshE w (l ++ be (crc l) 4)) := by
  have hcl := crc_lt l
  obtain ⟨x, hx⟩ : ∃ x, crc l = x := ⟨_, rfl⟩
  have HX := Lib.hid hx
  have HL := Lib.hid hl
  have hwr : IntKind.u64.wrap (x : Int) = x := by rw [IntKind.wrap_u64]; omega
  clear hl hx
  go_enter Tryd.func30, Tryd.ntmps30
  go_wp2_with (first | (at_builtin; refine wpList_append_u8 _ rfl _ _ _ rfl bytesT (.slice (some ⟨w.heap.size, 0, none⟩) 0 0) [] rfl (Own.lit 5 _ [] (by decide)) B A _ c l rfl HL.out (hr.alloc hB _) (by simp; omega) ?_; intro A4 n4 c4 w4 o4 e4 h4 m4 g4 f4) | fail)
  simp only [List.nil_append] at o4
  have k4 := ((Keep.refl (fun _ => False) w).alloc (.cells #[] 5)).own g4 (NB.new (Nat.le_refl _) 0 0)
  have v4 := (NB.new (a := w) (Nat.le_refl _) 0 0).next (by simp) f4
  have S := refSum_is (c := c) HL.out (by rw [HL.out]; omega) (hr.keepF k4 hB) HX.out
  have P := Lib.hid (put_any A4 n4 c4 l x 4 w4 o4 (by rw [← HX.out]; omega) (by omega) (by omega))
  rw [show ((4 : Nat) : Int) = 4 from rfl] at P
  refine S.out.mono ?_
  rintro e w' ⟨rfl, rfl⟩
  go_wp2_with fail
  refine P.out.mono ?_
  rintro e w6 ⟨A6, n6, c6, rfl, o6, k6, p6⟩
  go_wp2
  go_ret
  rw [HX.out]
  refine ⟨n6, o6.len, A6, c6, rfl, o6, ?_, k4.trans k6 (fun i hi h => by have := v4 i h; omega)⟩
  intro i hi
  rcases p6 with p6 | ⟨q, hq, hle⟩
  · exact v4 i (p6 ▸ hi)
  · rw [hq] at hi
    injection hi with hi
    have := k4.size
    omega

theorem ahead_iff (l : List UInt8) (k : Nat) (hl : k + 4 = l.length) : (l.take k ++ be (crc (l.take k)) 4 = l) ↔ num (l.drop k) = crc (l.take k) := by
  have ht : (l.take k).length = k := by simp; omega
  constructor
  · intro h
    have h1 := congrArg (List.drop k) h
    rw [List.drop_left' ht] at h1
    rw [← h1, num_be4 _ (crc_lt _)]
  · intro h
    have h1 : l.drop k = be (crc (l.take k)) 4 := num_inj _ _ (by simp [be_length]; omega) (by rw [h, num_be4 _ (crc_lt _)])
    rw [← h1, List.take_append_drop]
end Go.Proofs.YtklpebfkgdklmabDoor
