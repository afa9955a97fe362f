/-
  What makes the sum tell a byte that was changed; numbers and their bytes.
-/
import Derived.Test.YtklpebfkgdklmabDoorOctR
import Derived.Test.YtklpebfkgdklmabDoorCrc
namespace Go.Proofs.YtklpebfkgdklmabDoor

theorem nib_zero (d : Nat) (hd : d < 4294967296) (h : nib d = 0) : d = 0 := by
  have h1 : d / 16 = tab.getD (d % 16) 0 := by
    have e : tab.getD (d % 16) 0 = (d / 16) ^^^ nib d := by unfold nib; rw [xor_twice]
    rw [e, h, Nat.xor_zero]
  have h2 : ∀ i : Fin 16, tab.getD i.1 0 < 268435456 → i.1 = 0 := by decide
  have h3 := h2 ⟨d % 16, by omega⟩ (by show tab.getD (d % 16) 0 < _; rw [← h1]; omega)
  simp only at h3
  rw [h3] at h1
  have h4 : tab.getD 0 0 = 0 := by decide
  omega
theorem xor_zero_eq (a b : Nat) (h : a ^^^ b = 0) : a = b := by
  have h1 : (a ^^^ b) ^^^ b = 0 ^^^ b := by rw [h]
  rw [Nat.xor_assoc, Nat.xor_self, Nat.xor_zero, Nat.zero_xor] at h1
  exact h1
theorem nib_inj (a b : Nat) (ha : a < 4294967296) (hb : b < 4294967296) (h : nib a = nib b) : a = b := by
  refine xor_zero_eq a b (nib_zero _ (xor_lt a b ha hb) ?_)
  rw [nib_xor, h, Nat.xor_self]
theorem byt_inj (s t x y : Nat) (hs : s < 4294967296) (ht : t < 4294967296) (hx : x < 4294967296) (hy : y < 4294967296) (h : byt s x = byt t y) : s ^^^ x = t ^^^ y :=
  nib_inj _ _ (xor_lt s x hs hx) (xor_lt t y ht hy) (nib_inj _ _ (nib_lt _ (xor_lt s x hs hx)) (nib_lt _ (xor_lt t y ht hy)) h)
theorem xor_right (a b x : Nat) (h : a ^^^ x = b ^^^ x) : a = b := by
  have h1 : (a ^^^ x) ^^^ x = (b ^^^ x) ^^^ x := by rw [h]
  rwa [Nat.xor_assoc, Nat.xor_assoc, Nat.xor_self, Nat.xor_zero, Nat.xor_zero] at h1
theorem xor_left (a x y : Nat) (h : a ^^^ x = a ^^^ y) : x = y := xor_right x y a (by rw [Nat.xor_comm x, Nat.xor_comm y]; exact h)
theorem run_inj : ∀ (l : List UInt8) (s t : Nat), s < 4294967296 → t < 4294967296 → run s l = run t l → s = t
  | [], _, _, _, _, h => h
  | b :: l, s, t, hs, ht, h => by
    have hb : b.toNat < 4294967296 := by have := b.toNat_lt; omega
    have h1 := run_inj l _ _ (byt_lt s _ hs hb) (byt_lt t _ ht hb) h
    exact xor_right s t _ (byt_inj s t _ _ hs ht hb hb h1)
theorem run_set : ∀ (l : List UInt8) (s i : Nat) (x : UInt8) (hi : i < l.length), s < 4294967296 → run s (l.set i x) = run s l → x = l[i]
  | b :: l, s, 0, x, _, hs, h => by
    have hb : b.toNat < 4294967296 := by have := b.toNat_lt; omega
    have hx : x.toNat < 4294967296 := by have := x.toNat_lt; omega
    have h1 := run_inj l _ _ (byt_lt s _ hs hx) (byt_lt s _ hs hb) h
    exact UInt8.toNat_inj.1 (xor_left s _ _ (byt_inj s s _ _ hs hs hx hb h1))
  | b :: l, s, i + 1, x, hi, hs, h => by
    have hb : b.toNat < 4294967296 := by have := b.toNat_lt; omega
    exact run_set l _ i x (by simpa using hi) (byt_lt s _ hs hb) h
theorem crc_set (l : List UInt8) (i : Nat) (x : UInt8) (hi : i < l.length) (h : crc (l.set i x) = crc l) : x = l[i] :=
  run_set l _ i x hi (by decide) (xor_left _ _ _ h)

theorem foldl_num_inj : ∀ (l m : List UInt8) (v u : Nat), l.length = m.length → l.foldl (fun v b => v * 256 + b.toNat) v = m.foldl (fun v b => v * 256 + b.toNat) u → l = m ∧ v = u
  | [], [], _, _, _, h => ⟨rfl, h⟩
  | b :: l, c :: m, v, u, hl, h => by
    obtain ⟨rfl, h2'⟩ := foldl_num_inj l m _ _ (by simpa using hl) h
    have h2 : v * 256 + b.toNat = u * 256 + c.toNat := h2'
    have hb := b.toNat_lt
    have hc := c.toNat_lt
    have e : b.toNat = c.toNat := by omega
    exact ⟨by rw [UInt8.toNat_inj.1 e], by omega⟩
  | [], _ :: _, _, _, hl, _ => by simp at hl
  | _ :: _, [], _, _, hl, _ => by simp at hl
theorem num_inj (l m : List UInt8) (hl : l.length = m.length) (h : num l = num m) : l = m := (foldl_num_inj l m 0 0 hl h).1
theorem num_be4 (x : Nat) (hx : x < 4294967296) : num (be x 4) = x := by
  simp only [num, be, List.range, List.range.loop, List.map, List.foldl, UInt8.toNat_ofNat']
  omega
/-- Bytes with their sum behind, one of which is changed. -/
theorem turned (l : List UInt8) (i : Nat) (t : UInt8) (hi : i < (l ++ be (crc l) 4).length) :
    num (((l ++ be (crc l) 4).set i ((l ++ be (crc l) 4)[i] ^^^ t)).drop l.length) = crc (((l ++ be (crc l) 4).set i ((l ++ be (crc l) 4)[i] ^^^ t)).take l.length) ↔ t = 0 := by
  have hc := crc_lt l
  constructor
  · intro h
    by_cases hl : i < l.length
    · rw [List.set_append_left _ _ hl, List.drop_left' (by simp), List.take_left' (by simp), num_be4 _ hc, List.getElem_append_left hl] at h
      have h1 := crc_set l i _ hl h.symm
      have h2 := congrArg UInt8.toNat h1
      rw [toNat_xor] at h2
      refine UInt8.toNat_inj.1 (xor_left l[i].toNat _ _ ?_)
      rw [h2]
      simp
    · have hi' : i - l.length < (be (crc l) 4).length := by simp at hi ⊢; omega
      rw [List.set_append_right _ _ (by omega), List.drop_left, List.take_left, List.getElem_append_right (by omega)] at h
      have h0 : num ((be (crc l) 4).set (i - l.length) ((be (crc l) 4)[i - l.length] ^^^ t)) = num (be (crc l) 4) := by rw [h, num_be4 _ hc]
      have h1 := num_inj _ _ (by simp) h0
      have h2 : ((be (crc l) 4).set (i - l.length) ((be (crc l) 4)[i - l.length] ^^^ t))[i - l.length]'(by simpa using hi') = (be (crc l) 4)[i - l.length] := by
        simp only [h1]
      rw [List.getElem_set_self] at h2
      have h3 := congrArg UInt8.toNat h2
      rw [toNat_xor] at h3
      refine UInt8.toNat_inj.1 (xor_left ((be (crc l) 4)[i - l.length]).toNat _ _ ?_)
      rw [h3]
      simp
  · rintro rfl
    simp only [UInt8.xor_zero, List.set_getElem_self]
    rw [List.drop_left, List.take_left, num_be4 _ hc]
end Go.Proofs.YtklpebfkgdklmabDoor
