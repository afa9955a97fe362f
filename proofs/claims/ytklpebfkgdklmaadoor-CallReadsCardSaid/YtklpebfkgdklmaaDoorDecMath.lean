/-
  The call of a call's bytes is that call.
-/
import Derived.Test.YtklpebfkgdklmaaDoorDecode
namespace Go.Proofs.YtklpebfkgdklmaaDoor
open Go.RowKit

theorem tkL_front {n : Nat} {l r : List UInt8} (h : l.length = n) : tkL n (l ++ r) false = l := by
  unfold tkL
  rw [if_neg (by simp; omega), ← h, List.take_left]
theorem tk_front {n : Nat} {l r : List UInt8} (h : l.length = n) : tk n (l ++ r, false) = (r, false) := by
  unfold tk tkR tkB
  simp only
  rw [if_neg (by simp; omega), if_neg (by simp; omega), ← h, List.drop_left]
theorem cnt_front {n : Nat} {most : Int} {r : List UInt8} (hn : n < 4294967296) (hm : (n : Int) ≤ most) : cntV most (be n 4 ++ r, false) = n ∧ cntS most (be n 4 ++ r, false) = (r, false) := by
  have h1 : tkL 4 (be n 4 ++ r) false = be n 4 := tkL_front (be_length n 4)
  have h2 : tk 4 (be n 4 ++ r, false) = (r, false) := tk_front (be_length n 4)
  have hb : ¬ cntBad most (be n 4 ++ r, false) := by
    unfold cntBad
    simp only
    rw [h1, h2, num_be4 n hn]
    rintro (h | h)
    · cases h
    · omega
  unfold cntV cntS
  rw [if_neg hb, if_neg hb]
  simp only
  rw [h1, h2, num_be4 n hn]
  exact ⟨rfl, rfl⟩
theorem by_front {most : Int} {l r : List UInt8} (hl : l.length < 4294967296) (hm : (l.length : Int) ≤ most) : byV most (tx l ++ r, false) = l ∧ byS most (tx l ++ r, false) = (r, false) := by
  unfold tx
  rw [List.append_assoc]
  obtain ⟨h1, h2⟩ := cnt_front (most := most) (r := l ++ r) hl hm
  unfold byV byS
  rw [h1, h2]
  exact ⟨tkL_front rfl, tk_front rfl⟩
theorem asInt_u64 {z : Int} (h : -9223372036854775808 ≤ z ∧ z ≤ 9223372036854775807) : asInt64 (u64 z) = z := by
  unfold asInt64
  rw [← IntWalk.i64_left, IntKind.wrap_i64]
  unfold u64
  omega
theorem int_front {z : Int} {r : List UInt8} (h : -9223372036854775808 ≤ z ∧ z ≤ 9223372036854775807) : asInt64 (num (tkL 8 (be (u64 z) 8 ++ r) false)) = z ∧ tk 8 (be (u64 z) 8 ++ r, false) = (r, false) := by
  rw [tkL_front (be_length _ 8), num_be8 _ (u64_lt z), asInt_u64 h]
  exact ⟨rfl, tk_front (be_length _ 8)⟩
/-- A call that may be read. -/
structure CallSm (c : TCall) : Prop extends CallOk c where
  path3 : c.path.length ≤ 300
  other3 : c.other.length ≤ 300
  data4 : c.data.length ≤ 4096
theorem take_enc {c : TCall} (h : CallSm c) : takeC (encC c, false) = c ∧ takeS 6 (encC c, false) = ([], false) := by
  have e : encC c = [b8 c.kind] ++ (tx c.path ++ (tx c.other ++ (be (u64 c.off) 8 ++ (be (u64 c.n) 8 ++ (tx c.data ++ []))))) := by unfold encC; simp only [List.append_assoc, List.append_nil]
  rw [e]
  have t1 : tk 1 ([b8 c.kind] ++ (tx c.path ++ (tx c.other ++ (be (u64 c.off) 8 ++ (be (u64 c.n) 8 ++ (tx c.data ++ []))))), false) = _ := tk_front rfl
  obtain ⟨p1, p2⟩ := by_front (most := 300) (r := tx c.other ++ (be (u64 c.off) 8 ++ (be (u64 c.n) 8 ++ (tx c.data ++ [])))) h.path (by have := h.path3; omega)
  obtain ⟨o1, o2⟩ := by_front (most := 300) (r := be (u64 c.off) 8 ++ (be (u64 c.n) 8 ++ (tx c.data ++ []))) h.other (by have := h.other3; omega)
  obtain ⟨f1, f2⟩ := int_front (r := be (u64 c.n) 8 ++ (tx c.data ++ [])) h.off
  obtain ⟨n1, n2⟩ := int_front (r := tx c.data ++ []) h.n
  obtain ⟨d1, d2⟩ := by_front (most := 4096) (r := []) h.data (by have := h.data4; omega)
  have k1 : ((num (tkL 1 ([b8 c.kind] ++ (tx c.path ++ (tx c.other ++ (be (u64 c.off) 8 ++ (be (u64 c.n) 8 ++ (tx c.data ++ [])))))) false) : Nat) : Int) = c.kind := by
    rw [tkL_front (n := 1) (l := [b8 c.kind]) rfl]
    show ((0 * 256 + (b8 c.kind).toNat : Nat) : Int) = c.kind
    rw [b8_toNat]
    have := h.kind
    omega
  constructor
  · unfold takeC
    simp only [takeS]
    rw [t1, p1, p2, o1, o2, f2, n2, d1, k1]
    simp only
    rw [f1, n1]
  · simp only [takeS]
    rw [t1, p2, o2, f2, n2, d2]
theorem dec_enc {c : TCall} (h : CallSm c) : decC (wrapB (encC c)) = some c := by
  unfold decC
  have hl : (wrapB (encC c)).length - 4 = (encC c).length := by rw [wrapB_length]; omega
  have ht : (wrapB (encC c)).take (encC c).length = encC c := List.take_left
  have hd : (wrapB (encC c)).drop (encC c).length = be (crc (encC c)) 4 := List.drop_left
  rw [hl, ht, hd, num_be4 _ (crc_lt _), if_neg (by rw [wrapB_length]; rintro (h | h); omega; exact h rfl)]
  obtain ⟨h1, h2⟩ := take_enc h
  rw [h2, h1]
  rfl
end Go.Proofs.YtklpebfkgdklmaaDoor
