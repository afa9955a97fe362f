/-
  What is taken of bytes: so many bytes with their count ahead; what was put is taken. Unwrap in one word.
-/
import Derived.Test.YtklpebfkgdklmabDoorUnwrap
import Derived.Test.YtklpebfkgdklmabDoorOctB
import Derived.Test.YtklpebfkgdklmabDoorCallMath
import Derived.Test.YtklpebfkgdklmabDoorText
namespace Go.Proofs.YtklpebfkgdklmabDoor
open Go.RowKit

/-- Bytes that are taken, at most so many; what is left. -/
noncomputable def byV (m : Int) (s : List UInt8 × Bool) : Txt := tkL (cntV m s) (cntS m s).1 (cntS m s).2
noncomputable def byS (m : Int) (s : List UInt8 × Bool) : List UInt8 × Bool := tk (cntV m s) (cntS m s)
theorem byS_len (m : Int) (s : List UInt8 × Bool) : (byS m s).1.length ≤ s.1.length := Nat.le_trans (tk_len _ _) (cnt_len _ _)
/-- Bytes_, the length under a name. -/
theorem by_e (g : Nat) (s : List UInt8 × Bool) (most : Int) (w : World) (h : RdE w g s) (hb : s.1.length ≤ 70368744177664) :
    Calls Tryd.prog 42 #[.pointer (some ⟨g, 0, none⟩), .int .i64 most] w fun e w' => ∃ A1 c1, e = .returned (.slice A1 (byV most s).length c1) ∧ Rd w' w'.heap.size A1 (byV most s) ∧ (byV most s).length ≤ c1 ∧ RdE w' g (byS most s) ∧ Keep (fun k => k = g) w w' := by
  refine (bytes_e g s most w h hb).mono ?_
  rintro e w' ⟨A1, n1, c1, rfl, hn, hr, hle, hs, hk⟩
  obtain rfl := hn.out
  exact ⟨A1, c1, rfl, hr, hle, hs, hk⟩

theorem unwrap_dec (A : Option Addr) (l : List UInt8) (n c : Nat) (w : World) (hn : n = l.length) (hc : n ≤ c) (hm : c ≤ maxLen) (hb : l.length ≤ 1000000000) (ht : Tab w) (hr : Rd w w.heap.size A l) :
    Calls Tryd.prog 36 #[.slice A n c] w fun e w' => KF w w' ∧ (((l.length < 4 ∨ num (l.drop (l.length - 4)) ≠ crc (l.take (l.length - 4))) ∧ e = .returned (.tuple #[.slice none 0 0, .int .i64 3])) ∨
      (¬ (l.length < 4 ∨ num (l.drop (l.length - 4)) ≠ crc (l.take (l.length - 4))) ∧ ∃ A' c', e = .returned (.tuple #[.slice A' (l.length - 4) c', .int .i64 0]) ∧ Own 5 w' (.slice A' (l.length - 4) c') (l.take (l.length - 4)) ∧ NB w (.slice A' (l.length - 4) c'))) := by
  subst hn
  simp only [maxLen] at hm
  rcases Nat.lt_or_ge l.length 4 with h4 | h4
  · refine (unwrap_few A l.length c w h4).mono ?_
    rintro e w' ⟨rfl, k⟩
    exact ⟨k, .inl ⟨.inl h4, rfl⟩⟩
  · obtain ⟨k, hk⟩ : ∃ k, l.length = k + 4 := ⟨l.length - 4, by omega⟩
    have e4 : l.length - 4 = k := by omega
    rw [e4, hk]
    refine (unwrap_full A l k c _ _ w (by omega) (by omega) (by omega) (by omega) ht w.heap.size hr (Nat.le_refl _) rfl rfl).mono ?_
    rintro e w' ⟨kk, ⟨hy, A', c', rfl, ho, hv⟩ | ⟨hy, rfl⟩⟩
    · exact ⟨kk, .inr ⟨by rintro (h | h); omega; exact h hy, A', c', rfl, ho, hv⟩⟩
    · exact ⟨kk, .inl ⟨.inr hy, rfl⟩⟩

theorem tkL_front {n : Nat} {l r : List UInt8} (h : l.length = n) : tkL n (l ++ r) false = l := by
  unfold tkL
  rw [if_neg (by simp; omega), ← h, List.take_left]
theorem tk_front {n : Nat} {l r : List UInt8} (h : l.length = n) : tk n (l ++ r, false) = (r, false) := by
  unfold tk tkR tkB
  simp only
  rw [if_neg (by simp; omega), if_neg (by simp; omega), ← h, List.drop_left]
theorem cnt_front {n : Nat} {most : Int} {r : List UInt8} (hn : n < 4294967296) (hm : (n : Int) ≤ most) : cntV most (be n 4 ++ r, false) = n ∧ cntS most (be n 4 ++ r, false) = (r, false) := by
  have h1 : tkL 4 (be n 4 ++ r) false = be n 4 := tkL_front (be_length n 4)
  have h2 : tk 4 (be n 4 ++ r, false) = (r, false) := tk_front (be_length n 4)
  have hb : ¬ cntBad most (be n 4 ++ r, false) := by
    unfold cntBad
    simp only
    rw [h1, h2, num_be4 n hn]
    rintro (h | h)
    · cases h
    · omega
  unfold cntV cntS
  rw [if_neg hb, if_neg hb]
  simp only
  rw [h1, h2, num_be4 n hn]
  exact ⟨rfl, rfl⟩
theorem by_front {most : Int} {l r : List UInt8} (hl : l.length < 4294967296) (hm : (l.length : Int) ≤ most) : byV most (tx l ++ r, false) = l ∧ byS most (tx l ++ r, false) = (r, false) := by
  unfold tx
  rw [List.append_assoc]
  obtain ⟨h1, h2⟩ := cnt_front (most := most) (r := l ++ r) hl hm
  unfold byV byS
  rw [h1, h2]
  exact ⟨tkL_front rfl, tk_front rfl⟩
theorem asInt_u64 {z : Int} (h : -9223372036854775808 ≤ z ∧ z ≤ 9223372036854775807) : asInt64 (u64 z) = z := by
  unfold asInt64
  rw [← IntWalk.i64_left, IntKind.wrap_i64]
  unfold u64
  omega
theorem int_front {z : Int} {r : List UInt8} (h : -9223372036854775808 ≤ z ∧ z ≤ 9223372036854775807) : asInt64 (num (tkL 8 (be (u64 z) 8 ++ r) false)) = z ∧ tk 8 (be (u64 z) 8 ++ r, false) = (r, false) := by
  rw [tkL_front (be_length _ 8), num_be8 _ (u64_lt z), asInt_u64 h]
  exact ⟨rfl, tk_front (be_length _ 8)⟩
end Go.Proofs.YtklpebfkgdklmabDoor
