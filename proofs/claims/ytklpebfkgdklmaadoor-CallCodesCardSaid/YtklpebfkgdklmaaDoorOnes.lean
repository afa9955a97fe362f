/-
  What Decode and DecodeAnswer give, in one word; how great it is.
-/
import Derived.Test.YtklpebfkgdklmaaDoorDecA
import Derived.Test.YtklpebfkgdklmaaDoorCallLaw
namespace Go.Proofs.YtklpebfkgdklmaaDoor
open Go.RowKit

def zC : TCall := ⟨0, [], [], 0, 0, []⟩
def zA : IAns := ⟨0, 0, 0, 0, [], []⟩
/-- What Decode gives, in one word. -/
theorem Decs.one {l : List UInt8} {w w' : World} {e : Ending} (h : Decs l w e w') :
    KF w w' ∧ ∃ A c, e = .returned (.tuple #[cval ((decC l).getD zC) A ((decC l).getD zC).data.length c, .int .i64 (if (decC l).isSome = true then 0 else 3)]) ∧ Rd w' w'.heap.size A ((decC l).getD zC).data := by
  obtain ⟨k, ⟨x, A, c, hx, rfl, hr⟩ | ⟨hx, rfl⟩⟩ := h
  · rw [hx]; exact ⟨k, A, c, rfl, hr⟩
  · rw [hx]; exact ⟨k, none, 0, rfl, Rd.nil⟩
theorem DecsA.one {l : List UInt8} {w w' : World} {e : Ending} (h : DecsA l w e w') :
    KF w w' ∧ ∃ A c B d, e = .returned (.tuple #[.agg (ansV ((decA l).getD zA) A c B d), .int .i64 (if (decA l).isSome = true then 0 else 3)]) ∧ Rd w' w'.heap.size A ((decA l).getD zA).data ∧ Strs w' w'.heap.size B (((decA l).getD zA).names.map ba) := by
  obtain ⟨k, ⟨x, A, c, B, d, hx, rfl, hr, hs, _⟩ | ⟨hx, rfl⟩⟩ := h
  · rw [hx]; exact ⟨k, A, c, B, d, rfl, hr, hs⟩
  · rw [hx]; exact ⟨k, none, 0, none, 0, rfl, Rd.nil, Strs.nil⟩
theorem byV_le (m : Int) (s : List UInt8 × Bool) (h : 0 ≤ m) : ((byV m s).length : Int) ≤ m := by
  have h1 := tkL_le (cntV m s) (cntS m s).1 (cntS m s).2
  have h2 := cntV_le m s h
  unfold byV
  omega
theorem decC_le (l : List UInt8) : ((decC l).getD zC).data.length ≤ 4096 := by
  unfold decC
  split
  · exact Nat.zero_le _
  · split
    · have := byV_le 4096 (takeS 5 (l.take (l.length - 4), false)) (by decide)
      show (takeC _).data.length ≤ _
      unfold takeC
      simp only
      omega
    · exact Nat.zero_le _
theorem decA_le (l : List UInt8) : ((decA l).getD zA).data.length ≤ 4096 ∧ ((decA l).getD zA).names.length ≤ 64 := by
  unfold decA
  split
  · exact ⟨Nat.zero_le _, Nat.zero_le _⟩
  · split
    · have h1 := byV_le 4096 (ansS 4 (l.take (l.length - 4), false)) (by decide)
      have h2 := cntV_le 64 (ansS 5 (l.take (l.length - 4), false)) (by decide)
      show (takeA _).data.length ≤ _ ∧ (takeA _).names.length ≤ _
      unfold takeA
      simp only
      refine ⟨by omega, ?_⟩
      unfold lstX
      split
      · simp
      · rw [lstN_length]; omega
    · exact ⟨Nat.zero_le _, Nat.zero_le _⟩
theorem sameC_self (x : TCall) : sameC x x = true := by simp [sameC]
end Go.Proofs.YtklpebfkgdklmaaDoor
