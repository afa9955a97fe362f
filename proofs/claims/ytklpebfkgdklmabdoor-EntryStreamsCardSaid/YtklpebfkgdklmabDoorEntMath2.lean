/-
  The entry of an entry's bytes is that entry.
-/
import Derived.Test.YtklpebfkgdklmabDoorEntTake
namespace Go.Proofs.YtklpebfkgdklmabDoor
open Go.RowKit

theorem four_front {z : Int} {r : List UInt8} (h : 0 ≤ z ∧ z ≤ 2147483647) : ((num (tkL 4 (be (u64 z) 4 ++ r) false) : Nat) : Int) = z ∧ tk 4 (be (u64 z) 4 ++ r, false) = (r, false) := by
  have hu : ((u64 z : Nat) : Int) = z := by unfold u64; omega
  rw [tkL_front (be_length _ 4), num_be4 _ (by omega)]
  exact ⟨hu, tk_front (be_length _ 4)⟩
theorem one_front {z : Int} {r : List UInt8} (h : 0 ≤ z ∧ z ≤ 255) : ((num (tkL 1 ([b8 z] ++ r) false) : Nat) : Int) = z ∧ tk 1 ([b8 z] ++ r, false) = (r, false) := by
  rw [tkL_front (n := 1) (l := [b8 z]) rfl]
  refine ⟨?_, tk_front rfl⟩
  show ((0 * 256 + (b8 z).toNat : Nat) : Int) = z
  rw [b8_toNat]
  omega
theorem take_encE {x : TLog} (h : rightB x = true) : takeE (encE x, false) = x ∧ eS 7 (encE x, false) = ([], false) := by
  obtain ⟨h1, h2, h3, h4, h5, h6, h7⟩ := (rightB_iff x).1 h
  have e : encE x = [b8 x.kind] ++ (be (u64 x.client) 4 ++ (be (u64 x.birth) 4 ++ (be (u64 x.number) 4 ++ ([b8 x.stream] ++ (be (u64 x.back) 8 ++ (tx x.pay ++ [])))))) := by unfold encE; simp only [List.append_assoc, List.append_nil]
  rw [e]
  obtain ⟨k1, k2⟩ := one_front (z := x.kind) (r := be (u64 x.client) 4 ++ (be (u64 x.birth) 4 ++ (be (u64 x.number) 4 ++ ([b8 x.stream] ++ (be (u64 x.back) 8 ++ (tx x.pay ++ [])))))) (by omega)
  obtain ⟨c1, c2⟩ := four_front (z := x.client) (r := be (u64 x.birth) 4 ++ (be (u64 x.number) 4 ++ ([b8 x.stream] ++ (be (u64 x.back) 8 ++ (tx x.pay ++ []))))) h2
  obtain ⟨b1, b2⟩ := four_front (z := x.birth) (r := be (u64 x.number) 4 ++ ([b8 x.stream] ++ (be (u64 x.back) 8 ++ (tx x.pay ++ [])))) h3
  obtain ⟨n1, n2⟩ := four_front (z := x.number) (r := [b8 x.stream] ++ (be (u64 x.back) 8 ++ (tx x.pay ++ []))) h4
  obtain ⟨s1, s2⟩ := one_front (z := x.stream) (r := be (u64 x.back) 8 ++ (tx x.pay ++ [])) (by omega)
  obtain ⟨a1, a2⟩ := int_front (z := x.back) (r := tx x.pay ++ []) (by omega)
  obtain ⟨p1, p2⟩ := by_front (most := 65506) (l := x.pay) (r := []) (by omega) (by omega)
  constructor
  · unfold takeE
    simp only [eS]
    rw [k2, c2, b2, n2, s2, a2, p1]
    simp only
    rw [k1, c1, b1, n1, s1, a1]
  · simp only [eS]
    rw [k2, c2, b2, n2, s2, a2, p2]
theorem dec_encE {x : TLog} (h : rightB x = true) : decE (wrapB (encE x)) = some x := by
  have ht : takenE (wrapB (encE x)) = some x := by
    unfold takenE
    have hl : (wrapB (encE x)).length - 4 = (encE x).length := by rw [wrapB_length]; omega
    have ht : (wrapB (encE x)).take (encE x).length = encE x := List.take_left
    have hd : (wrapB (encE x)).drop (encE x).length = be (crc (encE x)) 4 := List.drop_left
    rw [hl, ht, hd, num_be4 _ (crc_lt _), if_neg (by rw [wrapB_length]; rintro (h | h); omega; exact h rfl)]
    obtain ⟨h1, h2⟩ := take_encE h
    rw [h2, h1]
    rfl
  unfold decE
  rw [ht]
  simp [Option.filter, h]
theorem wrapE_same {x y : TLog} (hx : rightB x = true) (hy : rightB y = true) : decide (wrapB (encE x) = wrapB (encE y)) = sameE x y := by
  rw [Bool.eq_iff_iff, decide_eq_true_eq, sameE_iff]
  constructor
  · intro h
    have h1 := dec_encE hx
    rw [h, dec_encE hy] at h1
    injection h1 with h1
    exact h1.symm
  · rintro rfl
    rfl
/-- Bytes with one of them changed are none. -/
theorem decE_turned (x : TLog) (i : Nat) (t : UInt8) (hi : i < (wrapB (encE x)).length) (ht : t ≠ 0) : decE ((wrapB (encE x)).set i ((wrapB (encE x))[i] ^^^ t)) = none := by
  have h := wrapB_turned (encE x) i t hi
  unfold decE takenE
  have e4 : ((wrapB (encE x)).set i ((wrapB (encE x))[i] ^^^ t)).length - 4 = (encE x).length := by rw [List.length_set, wrapB_length]; omega
  rw [e4, if_pos (.inr (fun h' => ht (h.1 h')))]
  rfl
end Go.Proofs.YtklpebfkgdklmabDoor
