/-
  Calls as bytes: what Encode gives, and that no two calls have the same bytes.
-/
import Derived.Test.YtklpebfkgdklmabDoorSumMath
import Derived.Test.YtklpebfkgdklmabDoorTreeMath
namespace Go.Proofs.YtklpebfkgdklmabDoor

/-- A number that may be below 0, as its unsigned one. -/
def u64 (z : Int) : Nat := (z % 18446744073709551616).toNat
theorem u64_lt (z : Int) : u64 z < 18446744073709551616 := by unfold u64; omega
theorem u64_inj {a b : Int} (ha : -9223372036854775808 ≤ a ∧ a ≤ 9223372036854775807) (hb : -9223372036854775808 ≤ b ∧ b ≤ 9223372036854775807) (h : u64 a = u64 b) : a = b := by unfold u64 at h; omega
/-- Bytes, and how many there are, ahead of them. -/
def tx (l : Txt) : List UInt8 := be l.length 4 ++ l
/-- A byte of a number. -/
def b8 (z : Int) : UInt8 := UInt8.ofNat (z % 256).toNat
theorem b8_toNat (z : Int) : (b8 z).toNat = (z % 256).toNat := by
  unfold b8
  rw [UInt8.toNat_ofNat']
  omega
theorem b8_inj {a b : Int} (ha : 0 ≤ a ∧ a ≤ 255) (hb : 0 ≤ b ∧ b ≤ 255) (h : b8 a = b8 b) : a = b := by
  have h1 := congrArg UInt8.toNat h
  rw [b8_toNat, b8_toNat] at h1
  omega
/-- A call as bytes, ahead of its sum. -/
def encC (c : TCall) : List UInt8 := [b8 c.kind] ++ tx c.path ++ tx c.other ++ be (u64 c.off) 8 ++ be (u64 c.n) 8 ++ tx c.data
/-- Bytes with their sum behind. -/
def wrapB (l : List UInt8) : List UInt8 := l ++ be (crc l) 4
theorem wrapB_length (l : List UInt8) : (wrapB l).length = l.length + 4 := by unfold wrapB; rw [List.length_append, be_length]
theorem tx_length (l : Txt) : (tx l).length = 4 + l.length := by unfold tx; rw [List.length_append, be_length]
theorem encC_length (c : TCall) : (encC c).length = 29 + c.path.length + c.other.length + c.data.length := by
  unfold encC
  simp only [List.length_append, tx_length, be_length, List.length_cons, List.length_nil]
  omega
theorem be_snoc (x n : Nat) : be x (n + 1) = be (x / 256) n ++ [UInt8.ofNat x] := by
  unfold be
  rw [List.range_succ, List.map_append]
  congr 1
  · apply List.map_congr_left
    intro i hi
    have hi := List.mem_range.1 hi
    congr 1
    rw [Nat.div_div_eq_div_mul]
    congr 1
    rw [show (256 : Nat) = 2 ^ 8 from rfl, ← Nat.pow_add]
    congr 1
    omega
  · simp
theorem num_be : ∀ (n x : Nat), num (be x n) = x % 256 ^ n
  | 0, x => by simp [be, num, Nat.mod_one]
  | n + 1, x => by
    rw [be_snoc, num_snoc, num_be n, UInt8.toNat_ofNat', show 256 ^ (n + 1) = 256 * 256 ^ n by rw [Nat.pow_succ, Nat.mul_comm], Nat.mod_mul]
    show x / 256 % 256 ^ n * 256 + x % 256 = _
    omega
theorem num_be8 (x : Nat) (hx : x < 18446744073709551616) : num (be x 8) = x := by rw [num_be]; exact Nat.mod_eq_of_lt hx
theorem be_inj {x y n : Nat} (hx : x < 256 ^ n) (hy : y < 256 ^ n) (h : be x n = be y n) : x = y := by
  have h1 := congrArg num h
  rw [num_be, num_be, Nat.mod_eq_of_lt hx, Nat.mod_eq_of_lt hy] at h1
  exact h1
theorem be_head {x y n : Nat} {r s : List UInt8} (hx : x < 256 ^ n) (hy : y < 256 ^ n) (h : be x n ++ r = be y n ++ s) : x = y ∧ r = s := by
  obtain ⟨h1, h2⟩ := List.append_inj h (by rw [be_length, be_length])
  exact ⟨be_inj hx hy h1, h2⟩
theorem tx_head {p q r s : List UInt8} (hp : p.length < 4294967296) (hq : q.length < 4294967296) (h : tx p ++ r = tx q ++ s) : p = q ∧ r = s := by
  unfold tx at h
  rw [List.append_assoc, List.append_assoc] at h
  obtain ⟨h1, h2⟩ := be_head (n := 4) hp hq h
  exact List.append_inj h2 h1
theorem wrapB_inj {l m : List UInt8} (h : wrapB l = wrapB m) : l = m := by
  unfold wrapB at h
  exact (List.append_inj' h (by rw [be_length, be_length])).1
/-- The numbers of a call are ints of Go, its rows are no longer than may be put. -/
structure CallOk (c : TCall) : Prop where
  kind : 0 ≤ c.kind ∧ c.kind ≤ 255
  off : -9223372036854775808 ≤ c.off ∧ c.off ≤ 9223372036854775807
  n : -9223372036854775808 ≤ c.n ∧ c.n ≤ 9223372036854775807
  path : c.path.length < 4294967296
  other : c.other.length < 4294967296
  data : c.data.length < 4294967296
theorem encC_inj {a b : TCall} (ha : CallOk a) (hb : CallOk b) (h : encC a = encC b) : a = b := by
  unfold encC at h
  simp only [List.append_assoc] at h
  obtain ⟨h0, h⟩ := List.append_inj h (by rfl)
  obtain ⟨h1, h⟩ := tx_head ha.path hb.path h
  obtain ⟨h2, h⟩ := tx_head ha.other hb.other h
  obtain ⟨h3, h⟩ := be_head (n := 8) (u64_lt _) (u64_lt _) h
  obtain ⟨h4, h⟩ := be_head (n := 8) (u64_lt _) (u64_lt _) h
  have h5 := (tx_head (r := []) (s := []) ha.data hb.data (by rw [List.append_nil, List.append_nil]; exact h)).1
  obtain ⟨k, p, o, f, n, d⟩ := a
  obtain ⟨k', p', o', f', n', d'⟩ := b
  injection h0 with h0
  have e0 := b8_inj ha.kind hb.kind h0
  have e3 := u64_inj ha.off hb.off h3
  have e4 := u64_inj ha.n hb.n h4
  simp only at e0 h1 h2 e3 e4 h5
  rw [e0, h1, h2, e3, e4, h5]
/-- Are two calls one? -/
def sameC (a b : TCall) : Bool := a.kind == b.kind && a.path == b.path && a.other == b.other && a.off == b.off && a.n == b.n && decide (a.data = b.data)
theorem sameC_iff {a b : TCall} : sameC a b = true ↔ a = b := by
  obtain ⟨k, p, o, f, n, d⟩ := a
  obtain ⟨k', p', o', f', n', d'⟩ := b
  unfold sameC
  simp only [Bool.and_eq_true, beq_iff_eq, decide_eq_true_eq, TCall.mk.injEq]
  constructor
  · rintro ⟨⟨⟨⟨⟨h0, h1⟩, h2⟩, h3⟩, h4⟩, h5⟩
    exact ⟨h0, h1, h2, h3, h4, h5⟩
  · rintro ⟨h0, h1, h2, h3, h4, h5⟩
    exact ⟨⟨⟨⟨⟨h0, h1⟩, h2⟩, h3⟩, h4⟩, h5⟩
theorem same_bytes {a b : TCall} (ha : CallOk a) (hb : CallOk b) : decide (wrapB (encC a) = wrapB (encC b)) = sameC a b := by
  by_cases h : a = b
  · subst h
    rw [decide_eq_true rfl, sameC_iff.2 rfl]
  · rw [decide_eq_false fun h' => h (encC_inj ha hb (wrapB_inj h'))]
    symm
    rw [← Bool.not_eq_true]
    exact fun h' => h (sameC_iff.1 h')
/-- Bytes with their sum behind, one of which is changed: the sum tells. -/
theorem wrapB_turned (l : List UInt8) (i : Nat) (t : UInt8) (hi : i < (wrapB l).length) :
    num (((wrapB l).set i ((wrapB l)[i] ^^^ t)).drop l.length) = crc (((wrapB l).set i ((wrapB l)[i] ^^^ t)).take l.length) ↔ t = 0 := turned l i t hi
end Go.Proofs.YtklpebfkgdklmabDoor
