/-
  WALKS of package octet, the reader's side: Read, take, fail, Number.
-/
import Derived.Test.YtklpebfkgdklmabDoorOctW
namespace Go.Proofs.YtklpebfkgdklmabDoor
open Go.RowKit

/-- A reader lies in block g; it has l left; it has gone wrong, if bad. -/
structure Rr (w : World) (g : Nat) (A : Option Addr) (c : Nat) (l : List UInt8) (bad : Bool) : Prop where
  block : w.heap[g]? = some (.cells #[.slice A l.length c, .bool bad] 79 (0, 0))
  rd : Rd w w.heap.size A l
  cap : l.length ≤ c
  nil : bad = true → l = []
theorem Rr.lt {w : World} {g : Nat} {A : Option Addr} {c : Nat} {l : List UInt8} {bad : Bool} (h : Rr w g A c l bad) : g < w.heap.size := lt_of_block h.block
theorem Rr.cell0 {w : World} {g : Nat} {A : Option Addr} {c : Nat} {l : List UInt8} {bad : Bool} (h : Rr w g A c l bad) : w.cell? ⟨g, 0, none⟩ = some (.slice A l.length c) := by simp [World.cell?, h.block]
theorem Rr.cell1 {w : World} {g : Nat} {A : Option Addr} {c : Nat} {l : List UInt8} {bad : Bool} (h : Rr w g A c l bad) : w.cell? ⟨g, 1, none⟩ = some (.bool bad) := by simp [World.cell?, h.block]
theorem Rr.free {w : World} {g : Nat} {A : Option Addr} {c : Nat} {l : List UInt8} {bad : Bool} (h : Rr w g A c l bad) (i : Nat) : w.frozen? ⟨g, i, none⟩ = false := by simp [World.frozen?, h.block]
theorem Rr.no {A : Option Addr} {n c : Nat} {bad : Bool} : ∀ x ∈ (#[Value.slice A n c, .bool bad] : Array Value).toList, ∀ z, x ≠ .int .u8 z := by
  intro x hx z he
  subst he
  simp at hx

/-- What is taken of l, if n bytes are asked for. -/
def tkL (n : Nat) (l : List UInt8) (bad : Bool) : List UInt8 := if bad = true ∨ l.length < n then [] else l.take n
def tkR (n : Nat) (l : List UInt8) (bad : Bool) : List UInt8 := if bad = true ∨ l.length < n then [] else l.drop n
def tkB (n : Nat) (l : List UInt8) (bad : Bool) : Bool := if bad = true ∨ l.length < n then true else false

theorem fail_any (g : Nat) (A : Option Addr) (c : Nat) (l : List UInt8) (bad : Bool) (w : World) (h : Rr w g A c l bad) :
    Calls Tryd.prog 51 #[.pointer (some ⟨g, 0, none⟩)] w fun e w' => e = .returned (.tuple #[]) ∧ Rr w' g none 0 [] true ∧ Keep (fun k => k = g) w w' := by
  have h0 := h.cell0
  have h1 := h.cell1
  have hf0 := h.free 0
  have hf1 := h.free 1
  go_enter Tryd.func51, Tryd.ntmps51
  go_wp2
  go_end0
  have e1 := heap_setCell_same w g 0 _ _ (.slice none 0 0) h.block
  have e2 := heap_setCell_same _ g 1 _ _ (.bool true) e1
  exact ⟨rfl, ⟨e2, Rd.nil, Nat.le_refl _, fun _ => rfl⟩, ((Keep.refl (fun k => k = g) w).setCell (.inr rfl) _).setCell (.inr rfl) _⟩

/-- What lies at A2 lies in the block of A. -/
def From (A A2 : Option Addr) : Prop := ∀ a : Addr, A2 = some a → ∃ a0 : Addr, A = some a0 ∧ a.block = a0.block
theorem From.refl (A : Option Addr) : From A A := fun a h => ⟨a, h, rfl⟩
theorem From.none (A : Option Addr) : From A none := fun a h => nomatch h
theorem From.map (A : Option Addr) (n : Nat) : From A (A.map (·.add n)) := fun a h => by
  cases A with
  | none => cases h
  | some a0 =>
    injection h with h
    exact ⟨a0, rfl, by rw [← h, block_add]⟩
/-- What 'take' leaves. -/
def Taken (w : World) (g n : Nat) (A : Option Addr) (l : List UInt8) (bad : Bool) (e : Ending) (w' : World) : Prop :=
  ∃ A1 c1 A2 c2, e = .returned (.slice A1 (tkL n l bad).length c1) ∧ Rd w' w'.heap.size A1 (tkL n l bad) ∧ (tkL n l bad).length ≤ c1 ∧ Rr w' g A2 c2 (tkR n l bad) (tkB n l bad) ∧ Keep (fun k => k = g) w w' ∧ From A A2
theorem take_few (g : Nat) (A : Option Addr) (c : Nat) (l : List UInt8) (bad : Bool) (n : Nat) (w : World) (h : Rr w g A c l bad) (hn : l.length < n) (_hb : n ≤ 9223372036854775807) :
    Calls Tryd.prog 47 #[.pointer (some ⟨g, 0, none⟩), .int .i64 n] w (Taken w g n A l bad) := by
  have h0 := h.cell0
  have H := Lib.hid (fail_any g A c l bad w h)
  have eL : tkL n l bad = [] := by simp [tkL, hn]
  have eR : tkR n l bad = [] := by simp [tkR, hn]
  have eB : tkB n l bad = true := by simp [tkB, hn]
  have HL := Lib.hid eL
  have HR := Lib.hid eR
  have HB := Lib.hid eB
  clear eL eR eB
  go_enter Tryd.func47, Tryd.ntmps47
  go_wp2_with fail
  refine H.out.mono ?_
  rintro e w1 ⟨rfl, hr, hk⟩
  have h1 := hr.cell1
  go_wp2
  go_ret
  refine ⟨none, 0, none, 0, by rw [HL.out]; rfl, by rw [HL.out]; exact Rd.nil, by rw [HL.out]; exact Nat.le_refl _, by rw [HR.out, HB.out]; exact hr, hk, From.none A⟩
theorem take_bad (g : Nat) (A : Option Addr) (c : Nat) (l : List UInt8) (n : Nat) (w : World) (h : Rr w g A c l true) (hn : n ≤ l.length) (hb : l.length ≤ 70368744177664) :
    Calls Tryd.prog 47 #[.pointer (some ⟨g, 0, none⟩), .int .i64 n] w (Taken w g n A l true) := by
  have h0 := h.cell0
  have h1 := h.cell1
  have HL := Lib.hid (show tkL n l true = [] by simp [tkL])
  have HR := Lib.hid (show tkR n l true = [] by simp [tkR])
  have HB := Lib.hid (show tkB n l true = true by simp [tkB])
  go_enter Tryd.func47, Tryd.ntmps47
  go_wp2
  go_ret
  have hl := h.nil rfl
  subst hl
  exact ⟨none, 0, A, c, by rw [HL.out]; rfl, by rw [HL.out]; exact Rd.nil, by rw [HL.out]; exact Nat.le_refl _, by rw [HR.out, HB.out]; exact h, Keep.refl _ _, From.refl A⟩
theorem taken_of {w : World} {g : Nat} {A : Option Addr} {c : Nat} {l : List UInt8} {n : Nat} (h : Rr w g A c l false) (hn : n ≤ l.length) {A2 : Option Addr} {c2 : Nat} (hA2 : Rd w w.heap.size A2 (l.drop n)) (hc2 : l.length - n ≤ c2) (hf : From A A2) :
    Taken w g n A l false (.returned (.slice A n n)) (w.setCell ⟨g, 0, none⟩ (.slice A2 (l.length - n) c2)) := by
  have eL : tkL n l false = l.take n := by simp [tkL]; omega
  have eR : tkR n l false = l.drop n := by simp [tkR]; omega
  have eB : tkB n l false = false := by simp [tkB]; omega
  have hl : (l.take n).length = n := by simp; omega
  have hb := heap_setCell_same w g 0 _ _ (.slice A2 (l.length - n) c2) h.block
  have hz : (w.setCell ⟨g, 0, none⟩ (.slice A2 (l.length - n) c2)).heap.size = w.heap.size := by simp [World.setCell]
  refine ⟨A, n, A2, c2, by rw [eL, hl], ?_, by rw [eL, hl]; exact Nat.le_refl _, ⟨?_, ?_, ?_, ?_⟩, (Keep.refl (fun k => k = g) w).setCell (.inr rfl) _, hf⟩
  · rw [eL, hz]
    exact (h.rd.take n).store h.block Rr.no 0 _
  · rw [eR, eB, List.length_drop]
    exact hb
  · rw [eR, hz]
    exact hA2.store h.block Rr.no 0 _
  · rw [eR, List.length_drop]
    exact hc2
  · rw [eB]
    intro h
    cases h
theorem take_good (g : Nat) (A : Option Addr) (c : Nat) (l : List UInt8) (n : Nat) (w : World) (hrr : Rr w g A c l false) (hn : n ≤ l.length) (_hb : l.length ≤ 70368744177664) :
    Calls Tryd.prog 47 #[.pointer (some ⟨g, 0, none⟩), .int .i64 n] w (Taken w g n A l false) := by
  have h0 := hrr.cell0
  have h1 := hrr.cell1
  have hf0 := hrr.free 0
  have hcap := hrr.cap
  have hnc : n ≤ c := by omega
  go_enter Tryd.func47, Tryd.ntmps47
  go_wp2
  · have hcn : c = n := by assumption
    go_ret
    exact taken_of hrr (by omega) (by rw [List.drop_of_length_le (by omega)]; exact Rd.nil) (by omega) (by first | exact From.refl _ | exact From.none _ | exact From.map _ _)
  · have hcn : ¬ c = n := by assumption
    go_ret
    have hcut := hrr.rd.cut (k := n) hcap
    rw [if_neg hcn] at hcut
    exact taken_of hrr (by omega) hcut (by omega) (From.map _ _)
theorem take_any (g : Nat) (A : Option Addr) (c : Nat) (l : List UInt8) (bad : Bool) (n : Nat) (w : World) (h : Rr w g A c l bad) (hn : n ≤ 9223372036854775807) (hb : l.length ≤ 70368744177664) :
    Calls Tryd.prog 47 #[.pointer (some ⟨g, 0, none⟩), .int .i64 n] w (Taken w g n A l bad) := by
  rcases Nat.lt_or_ge l.length n with hl | hl
  · exact take_few g A c l bad n w h hl hn
  · cases bad
    · exact take_good g A c l n w h hl hb
    · exact take_bad g A c l n w h hl hb

/-- The number that bytes are. -/
def num (l : List UInt8) : Nat := l.foldl (fun v b => v * 256 + b.toNat) 0
theorem num_snoc (l : List UInt8) (b : UInt8) : num (l ++ [b]) = num l * 256 + b.toNat := by simp [num]
theorem num_lt' : ∀ (l : List UInt8) (v : Nat), l.foldl (fun v b => v * 256 + b.toNat) v < (v + 1) * 256 ^ l.length
  | [], v => by simp
  | b :: l, v => by
    have h := num_lt' l (v * 256 + b.toNat)
    have hb := b.toNat_lt
    simp only [List.foldl_cons, List.length_cons, Nat.pow_succ]
    refine Nat.lt_of_lt_of_le h ?_
    rw [Nat.mul_comm (256 ^ l.length) 256, ← Nat.mul_assoc]
    exact Nat.mul_le_mul_right _ (by omega)
theorem num_lt (l : List UInt8) : num l < 256 ^ l.length := by simpa [num] using num_lt' l 0
theorem num_lt7 (l : List UInt8) (h : l.length ≤ 7) : num l < 72057594037927936 := by
  have h1 := num_lt l
  have h2 : 256 ^ l.length ≤ 256 ^ 7 := Nat.pow_le_pow_right (by omega) h
  omega
theorem tkL_le (n : Nat) (l : List UInt8) (bad : Bool) : (tkL n l bad).length ≤ n := by unfold tkL; split <;> simp; omega
theorem or_byte (v b : Nat) (hv : v < 72057594037927936) (hb : b < 2 ^ 8) : bits .or .u64 ((v : Int) * 256) (b : Int) = ((v * 256 + b : Nat) : Int) := by
  have h := u64_or_nat (v * 256) b (by omega) (by omega)
  rw [show (((v * 256 : Nat) : Int)) = (v : Int) * 256 by simp] at h
  rw [h]
  have h2 := Nat.two_pow_add_eq_or_of_lt hb v
  rw [Nat.mul_comm v 256]
  congr 1
  exact h2.symm
theorem number_take (g : Nat) (A : Option Addr) (c : Nat) (l : List UInt8) (bad : Bool) (n : Int) (w : World) (h : Rr w g A c l bad) (hb : l.length ≤ 70368744177664) :
    Calls Tryd.prog 40 #[.pointer (some ⟨g, 0, none⟩), .int .i64 n] w fun e w' => e = .returned (.int .u64 (num (tkL (sz n) l bad) : Nat)) ∧ (∃ A2 c2, Rr w' g A2 c2 (tkR (sz n) l bad) (tkB (sz n) l bad) ∧ From A A2) ∧ Keep (fun k => k = g) w w' := by
  have hs := Lib.hid (size_any n w)
  have hz := sz_le n
  generalize sz n = m at *
  have ht := Lib.hid (take_any g A c l bad m w h (by omega) hb)
  have hL := tkL_le m l bad
  unfold Taken at ht
  generalize tkL m l bad = L at *
  go_enter Tryd.func40, Tryd.ntmps40
  go_wp2_with fail
  refine hs.out.mono ?_
  rintro e w' ⟨rfl, rfl⟩
  go_wp2_with fail
  refine ht.out.mono ?_
  rintro e w1 ⟨A1, c1, A2, c2, rfl, hrd, hle, hr, hk, hfr⟩
  go_wp2
  go_loop [5, 13] (fun v i => ∃ k v1 : Nat, k ≤ L.length ∧ i = .int .i64 k ∧ Hid (v1 = num (L.take k)) ∧ v = .int .u64 v1) (fun _ i => L.length - (intOf i).toNat)
  case atStart => exact ⟨0, 0, Nat.zero_le _, rfl, rfl, rfl⟩
  case round =>
    obtain ⟨k, v1, hk1, rfl, HV, rfl⟩ := hrel
    by_cases hlt : k < L.length
    · obtain ⟨a, rfl, _, hcell⟩ := hrd.cells hlt
      have hb1 := L[k].toNat_lt
      have hv1 : v1 < 72057594037927936 := by rw [HV.out]; exact num_lt7 _ (by simp; omega)
      have HN : Hid (num (L.take (k + 1)) = v1 * 256 + L[k].toNat) := by
        show num (L.take (k + 1)) = v1 * 256 + L[k].toNat
        rw [List.take_succ_eq_append_getElem hlt, num_snoc, ← HV.out]
      generalize L[k].toNat = b at *
      go_wp2
      go_round
      case rel => exact ⟨k + 1, v1 * 256 + b, by omega, by go_num, HN.out.symm, by rw [or_byte v1 b hv1 hb1]⟩
      case measure => simp [intOf]; omega
    · obtain rfl : k = L.length := by omega
      go_wp2
      go_ret
      have := HV.out
      rw [List.take_length] at this
      exact ⟨by rw [← this]; rfl, ⟨_, ⟨_, hr⟩, hfr⟩, hk⟩

/-- A reader of bytes. -/
theorem read_any (A : Option Addr) (l : List UInt8) (n c : Nat) (w : World) (hl : n = l.length) (hb : l.length ≤ 70368744177664) (B : Nat) (hr : Rd w B A l) (hB : B ≤ w.heap.size) :
    Calls Tryd.prog 37 #[.slice A n c] w fun e w' => ∃ g A' c', e = .returned (.pointer (some ⟨g, 0, none⟩)) ∧ Rr w' g A' c' l false ∧ w.heap.size ≤ g ∧ Keep (fun _ => False) w w' := by
  subst hl
  have H := Lib.hid (clone_any A l l.length c w rfl hb B hr hB)
  go_enter Tryd.func37, Tryd.ntmps37
  go_wp2_with fail
  refine H.out.mono ?_
  rintro e w1 ⟨A1, c1, rfl, ho, hn, hk⟩
  go_wp2
  go_ret
  have hcap : l.length ≤ c1 := by
    obtain ⟨A', c', e, h1, _⟩ := ho.shape
    injection e with _ _ e
    omega
  refine ⟨w1.heap.size, A1, c1, rfl, ⟨heap_alloc_new w1 _, ?_, hcap, fun h => by cases h⟩, hk.size, hk.alloc _⟩
  exact (ho.rd.alloc (Nat.le_refl _) _).more (by simp)
end Go.Proofs.YtklpebfkgdklmabDoor
