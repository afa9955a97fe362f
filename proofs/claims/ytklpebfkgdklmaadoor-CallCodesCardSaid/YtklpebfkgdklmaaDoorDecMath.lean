/-
  The call of a call's bytes is that call.
-/
import Derived.Test.YtklpebfkgdklmaaDoorDecode
namespace Go.Proofs.YtklpebfkgdklmaaDoor
open Go.RowKit

/-- A call that may be read. -/
structure CallSm (c : TCall) : Prop extends CallOk c where
  path3 : c.path.length ≤ 300
  other3 : c.other.length ≤ 300
  data4 : c.data.length ≤ 4096
theorem take_enc {c : TCall} (h : CallSm c) : takeC (encC c, false) = c ∧ takeS 6 (encC c, false) = ([], false) := by
  have e : encC c = [b8 c.kind] ++ (tx c.path ++ (tx c.other ++ (be (u64 c.off) 8 ++ (be (u64 c.n) 8 ++ (tx c.data ++ []))))) := by unfold encC; simp only [List.append_assoc, List.append_nil]
  rw [e]
  have t1 : tk 1 ([b8 c.kind] ++ (tx c.path ++ (tx c.other ++ (be (u64 c.off) 8 ++ (be (u64 c.n) 8 ++ (tx c.data ++ []))))), false) = _ := tk_front rfl
  obtain ⟨p1, p2⟩ := by_front (most := 300) (r := tx c.other ++ (be (u64 c.off) 8 ++ (be (u64 c.n) 8 ++ (tx c.data ++ [])))) h.path (by have := h.path3; omega)
  obtain ⟨o1, o2⟩ := by_front (most := 300) (r := be (u64 c.off) 8 ++ (be (u64 c.n) 8 ++ (tx c.data ++ []))) h.other (by have := h.other3; omega)
  obtain ⟨f1, f2⟩ := int_front (r := be (u64 c.n) 8 ++ (tx c.data ++ [])) h.off
  obtain ⟨n1, n2⟩ := int_front (r := tx c.data ++ []) h.n
  obtain ⟨d1, d2⟩ := by_front (most := 4096) (r := []) h.data (by have := h.data4; omega)
  have k1 : ((num (tkL 1 ([b8 c.kind] ++ (tx c.path ++ (tx c.other ++ (be (u64 c.off) 8 ++ (be (u64 c.n) 8 ++ (tx c.data ++ [])))))) false) : Nat) : Int) = c.kind := by
    rw [tkL_front (n := 1) (l := [b8 c.kind]) rfl]
    show ((0 * 256 + (b8 c.kind).toNat : Nat) : Int) = c.kind
    rw [b8_toNat]
    have := h.kind
    omega
  constructor
  · unfold takeC
    simp only [takeS]
    rw [t1, p1, p2, o1, o2, f2, n2, d1, k1]
    simp only
    rw [f1, n1]
  · simp only [takeS]
    rw [t1, p2, o2, f2, n2, d2]
theorem dec_enc {c : TCall} (h : CallSm c) : decC (wrapB (encC c)) = some c := by
  unfold decC
  have hl : (wrapB (encC c)).length - 4 = (encC c).length := by rw [wrapB_length]; omega
  have ht : (wrapB (encC c)).take (encC c).length = encC c := List.take_left
  have hd : (wrapB (encC c)).drop (encC c).length = be (crc (encC c)) 4 := List.drop_left
  rw [hl, ht, hd, num_be4 _ (crc_lt _), if_neg (by rw [wrapB_length]; rintro (h | h); omega; exact h rfl)]
  obtain ⟨h1, h2⟩ := take_enc h
  rw [h2, h1]
  rfl
end Go.Proofs.YtklpebfkgdklmaaDoor
