/-
  The answer of an answer's bytes is that answer.
-/
import Derived.Test.YtklpebfkgdklmaaDoorEncA
import Derived.Test.YtklpebfkgdklmaaDoorDecMath
namespace Go.Proofs.YtklpebfkgdklmaaDoor
open Go.RowKit

def I64 (z : Int) : Prop := -9223372036854775808 ≤ z ∧ z ≤ 9223372036854775807
/-- The ints of an answer are Go's. -/
def IntsA (x : IAns) : Prop := I64 x.err ∧ I64 x.kind ∧ I64 x.size ∧ I64 x.links
/-- An answer that may be read. -/
structure AnsSm (x : IAns) : Prop where
  ints : IntsA x
  data : x.data.length ≤ 4096
  names : x.names.length ≤ 64
  each : ∀ p ∈ x.names, p.length ≤ 300
theorem lst_at (r : List UInt8) : ∀ (k : Nat) (xs : List Txt), (∀ p ∈ xs, p.length ≤ 300) → k ≤ xs.length → lstS k (xs.flatMap tx ++ r, false) = ((xs.drop k).flatMap tx ++ r, false)
  | 0, xs, _, _ => by simp [lstS]
  | k + 1, xs, hx, hk => by
    have ih := lst_at r k xs hx (by omega)
    have hd : xs.drop k = xs[k] :: xs.drop (k + 1) := List.drop_eq_getElem_cons (by omega)
    show byS 300 (lstS k (xs.flatMap tx ++ r, false)) = _
    rw [ih, hd, List.flatMap_cons, List.append_assoc]
    have hl := hx xs[k] (List.getElem_mem (by omega))
    exact (by_front (most := 300) (by omega) (by omega)).2
theorem lst_val (r : List UInt8) (xs : List Txt) (hx : ∀ p ∈ xs, p.length ≤ 300) (k : Nat) (hk : k < xs.length) : lstV k (xs.flatMap tx ++ r, false) = xs[k] := by
  unfold lstV
  rw [lst_at r k xs hx (by omega)]
  have hd : xs.drop k = xs[k] :: xs.drop (k + 1) := List.drop_eq_getElem_cons (by omega)
  rw [hd, List.flatMap_cons, List.append_assoc]
  have hl := hx xs[k] (List.getElem_mem (by omega))
  exact (by_front (most := 300) (by omega) (by omega)).1
theorem lst_front {xs : List Txt} {r : List UInt8} (hx : ∀ p ∈ xs, p.length ≤ 300) (hn : xs.length ≤ 64) : lstX 64 (lst tx xs ++ r, false) = xs ∧ lstE 64 (lst tx xs ++ r, false) = (r, false) := by
  unfold lst
  rw [List.append_assoc]
  obtain ⟨h1, h2⟩ := cnt_front (n := xs.length) (most := 64) (r := xs.flatMap tx ++ r) (by omega) (by omega)
  have he : lstS xs.length (xs.flatMap tx ++ r, false) = (r, false) := by
    rw [lst_at r xs.length xs hx (Nat.le_refl _)]
    simp
  have hN : lstN xs.length (xs.flatMap tx ++ r, false) = xs := by
    unfold lstN
    apply List.ext_getElem
    · simp
    · intro i h3 h4
      simp only [List.getElem_map, List.getElem_range]
      exact lst_val r xs hx i h4
  unfold lstX lstE
  rw [h1, h2, he, hN]
  simp
theorem take_encA {x : IAns} (h : AnsSm x) : takeA (encA x, false) = x ∧ ansS 6 (encA x, false) = ([], false) := by
  obtain ⟨⟨i1, i2, i3, i4⟩, hd, hn, hx⟩ := h
  have e : encA x = be (u64 x.err) 8 ++ (be (u64 x.kind) 8 ++ (be (u64 x.size) 8 ++ (be (u64 x.links) 8 ++ (tx x.data ++ (lst tx x.names ++ []))))) := by unfold encA; simp only [List.append_assoc, List.append_nil]
  rw [e]
  obtain ⟨a1, a2⟩ := int_front (z := x.err) (r := be (u64 x.kind) 8 ++ (be (u64 x.size) 8 ++ (be (u64 x.links) 8 ++ (tx x.data ++ (lst tx x.names ++ []))))) i1
  obtain ⟨b1, b2⟩ := int_front (z := x.kind) (r := be (u64 x.size) 8 ++ (be (u64 x.links) 8 ++ (tx x.data ++ (lst tx x.names ++ [])))) i2
  obtain ⟨c1, c2⟩ := int_front (z := x.size) (r := be (u64 x.links) 8 ++ (tx x.data ++ (lst tx x.names ++ []))) i3
  obtain ⟨d1, d2⟩ := int_front (z := x.links) (r := tx x.data ++ (lst tx x.names ++ [])) i4
  obtain ⟨e1, e2⟩ := by_front (most := 4096) (l := x.data) (r := lst tx x.names ++ []) (by omega) (by omega)
  obtain ⟨f1, f2⟩ := lst_front (r := []) hx hn
  constructor
  · unfold takeA
    simp only [ansS]
    rw [a2, b2, c2, d2, e2, f1, e1]
    simp only
    rw [a1, b1, c1, d1]
  · simp only [ansS]
    rw [a2, b2, c2, d2, e2, f2]
theorem dec_encA {x : IAns} (h : AnsSm x) : decA (wrapB (encA x)) = some x := by
  unfold decA
  have hl : (wrapB (encA x)).length - 4 = (encA x).length := by rw [wrapB_length]; omega
  have ht : (wrapB (encA x)).take (encA x).length = encA x := List.take_left
  have hd : (wrapB (encA x)).drop (encA x).length = be (crc (encA x)) 4 := List.drop_left
  rw [hl, ht, hd, num_be4 _ (crc_lt _), if_neg (by rw [wrapB_length]; rintro (h | h); omega; exact h rfl)]
  obtain ⟨h1, h2⟩ := take_encA h
  rw [h2, h1]
  rfl
end Go.Proofs.YtklpebfkgdklmaaDoor
