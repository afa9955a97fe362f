/-
  The sum as numbers: the table's step by four bits, the step by a byte, the run over bytes. It speaks of no program.
-/
import Derived.Laws.BitsAllLaws
namespace Go.Proofs.YtklpebfkgdklmabDoor

/-- What four bits do to a sum when they have gone out of it. -/
def tab : List Nat := [0, 498536548, 997073096, 651767980, 1994146192, 1802195444, 1303535960, 1342533948, 3988292384, 4027552580, 3604390888, 3412177804, 2607071920, 2262029012, 2685067896, 3183342108]
/-- A step by four bits. -/
def nib (s : Nat) : Nat := (s / 16) ^^^ tab.getD (s % 16) 0
/-- A step by a byte. -/
def byt (s x : Nat) : Nat := nib (nib (s ^^^ x))
def run (s : Nat) (l : List UInt8) : Nat := l.foldl (fun s b => byt s b.toNat) s
/-- The sum of bytes behind others whose sum is s. -/
def crcMore (s : Nat) (l : List UInt8) : Nat := 4294967295 ^^^ run (4294967295 ^^^ s) l
def crc (l : List UInt8) : Nat := crcMore 0 l

theorem tab_lt (i : Nat) : tab.getD i 0 < 4294967296 := by
  by_cases h : i < 16
  · have : ∀ i : Fin 16, tab.getD i.1 0 < 4294967296 := by decide
    exact this ⟨i, h⟩
  · have : tab.length ≤ i := by simp [tab]; omega
    simp [List.getD, List.getElem?_eq_none this]
theorem xor_lt (a b : Nat) (ha : a < 4294967296) (hb : b < 4294967296) : a ^^^ b < 4294967296 := Nat.xor_lt_two_pow (n := 32) ha hb
theorem nib_lt (s : Nat) (hs : s < 4294967296) : nib s < 4294967296 := xor_lt _ _ (by omega) (tab_lt _)
theorem byt_lt (s x : Nat) (hs : s < 4294967296) (hx : x < 4294967296) : byt s x < 4294967296 := nib_lt _ (nib_lt _ (xor_lt _ _ hs hx))
theorem run_lt (l : List UInt8) : ∀ s, s < 4294967296 → run s l < 4294967296 := by
  induction l with
  | nil => intro s hs; exact hs
  | cons b l ih => intro s hs; exact ih _ (byt_lt _ _ hs (by have := b.toNat_lt; omega))
theorem run_append (s : Nat) (l m : List UInt8) : run s (l ++ m) = run (run s l) m := by simp [run]
theorem crcMore_lt (s : Nat) (hs : s < 4294967296) (l : List UInt8) : crcMore s l < 4294967296 := xor_lt _ _ (by omega) (run_lt _ _ (xor_lt _ _ (by omega) hs))
theorem crc_lt (l : List UInt8) : crc l < 4294967296 := crcMore_lt 0 (by omega) l
theorem xor_twice (a b : Nat) : a ^^^ (a ^^^ b) = b := by rw [← Nat.xor_assoc, Nat.xor_self, Nat.zero_xor]
/-- The sum in two parts. -/
theorem crcMore_append (s : Nat) (l m : List UInt8) : crcMore (crcMore s l) m = crcMore s (l ++ m) := by simp only [crcMore, xor_twice, run_append]
theorem crc_append (l m : List UInt8) : crcMore (crc l) m = crc (l ++ m) := crcMore_append 0 l m
theorem crcMore_nil (s : Nat) : crcMore s [] = s := by simp only [crcMore, run, List.foldl_nil, xor_twice]

/-! ## The sum is linear. -/
theorem tab_xor (i j : Nat) (hi : i < 16) (hj : j < 16) : tab.getD (i ^^^ j) 0 = tab.getD i 0 ^^^ tab.getD j 0 := by
  have : ∀ i j : Fin 16, tab.getD (i.1 ^^^ j.1) 0 = tab.getD i.1 0 ^^^ tab.getD j.1 0 := by decide
  exact this ⟨i, hi⟩ ⟨j, hj⟩
theorem xor_swap (a b c d : Nat) : (a ^^^ b) ^^^ (c ^^^ d) = (a ^^^ c) ^^^ (b ^^^ d) := by
  rw [Nat.xor_assoc, ← Nat.xor_assoc b c d, Nat.xor_comm b c, Nat.xor_assoc c b d, ← Nat.xor_assoc]
theorem nib_xor (a b : Nat) : nib (a ^^^ b) = nib a ^^^ nib b := by
  unfold nib
  rw [show (a ^^^ b) / 16 = (a / 16) ^^^ (b / 16) from Nat.xor_div_two_pow (n := 4), show (a ^^^ b) % 16 = (a % 16) ^^^ (b % 16) from Nat.xor_mod_two_pow (n := 4), tab_xor _ _ (by omega) (by omega)]
  exact xor_swap _ _ _ _
theorem byt_xor (a b x y : Nat) : byt (a ^^^ b) (x ^^^ y) = byt a x ^^^ byt b y := by
  unfold byt
  rw [xor_swap, nib_xor, nib_xor]
/-- Two rows, Xor each other. -/
def xors (a b : List UInt8) : List UInt8 := List.zipWith (· ^^^ ·) a b
theorem toNat_xor (a b : UInt8) : (a ^^^ b).toNat = a.toNat ^^^ b.toNat := by simp
theorem run_xor : ∀ (a b : List UInt8) (s t : Nat), a.length = b.length → run (s ^^^ t) (xors a b) = run s a ^^^ run t b
  | [], [], _, _, _ => rfl
  | x :: a, y :: b, s, t, h => by
    show run (byt (s ^^^ t) (x ^^^ y).toNat) (xors a b) = run (byt s x.toNat) a ^^^ run (byt t y.toNat) b
    rw [toNat_xor, byt_xor]
    exact run_xor a b _ _ (by simpa using h)
  | [], _ :: _, _, _, h => by simp at h
  | _ :: _, [], _, _, h => by simp at h
theorem xors_zeros : ∀ (a : List UInt8), xors a (List.replicate a.length 0) = a
  | [] => rfl
  | x :: a => by
    show (x ^^^ 0) :: xors a (List.replicate a.length 0) = x :: a
    rw [xors_zeros a]
    simp
theorem crc_xor (a b : List UInt8) (h : a.length = b.length) : crc (xors a b) ^^^ crc (List.replicate a.length 0) = crc a ^^^ crc b := by
  have h1 := run_xor a b 4294967295 4294967295 h
  have hl : (xors a b).length = a.length := by simp [xors, h]
  have h2 := run_xor (xors a b) (List.replicate a.length 0) 4294967295 4294967295 (by simp [hl])
  have hz := xors_zeros (xors a b)
  rw [hl] at hz
  rw [hz, Nat.xor_self] at h2
  rw [Nat.xor_self] at h1
  simp only [crc, crcMore, Nat.xor_zero]
  rw [xor_swap, Nat.xor_self, Nat.zero_xor, xor_swap, Nat.xor_self, Nat.zero_xor, ← h1, ← h2]

/-! ## Bit by bit. -/
def one (s : Nat) : Nat := (s / 2) ^^^ (if s % 2 = 1 then 3988292384 else 0)
theorem one_xor (a b : Nat) : one (a ^^^ b) = one a ^^^ one b := by
  unfold one
  rw [show (a ^^^ b) / 2 = (a / 2) ^^^ (b / 2) from Nat.xor_div_two_pow (n := 1), show (a ^^^ b) % 2 = (a % 2) ^^^ (b % 2) from Nat.xor_mod_two_pow (n := 1), xor_swap]
  congr 1
  rcases Nat.mod_two_eq_zero_or_one a with h | h <;> rcases Nat.mod_two_eq_zero_or_one b with h' | h' <;> simp [h, h']
theorem one_lt (s : Nat) (hs : s < 4294967296) : one s < 4294967296 := xor_lt _ _ (by omega) (by split <;> omega)
theorem one_even (q : Nat) : one (2 * q) = q := by
  unfold one
  rw [if_neg (by omega), Nat.xor_zero]
  omega
theorem nib_one (s : Nat) : nib s = one (one (one (one s))) := by
  have h1 : s = (16 * (s / 16)) ^^^ (s % 16) := by
    have e1 : ((16 * (s / 16)) ^^^ (s % 16)) / 16 = (16 * (s / 16)) / 16 ^^^ (s % 16) / 16 := Nat.xor_div_two_pow (n := 4)
    have e2 : ((16 * (s / 16)) ^^^ (s % 16)) % 16 = (16 * (s / 16)) % 16 ^^^ (s % 16) % 16 := Nat.xor_mod_two_pow (n := 4)
    rw [show (16 * (s / 16)) / 16 = s / 16 by omega, show s % 16 / 16 = 0 by omega, Nat.xor_zero] at e1
    rw [show (16 * (s / 16)) % 16 = 0 by omega, show s % 16 % 16 = s % 16 by omega, Nat.zero_xor] at e2
    omega
  have h2 : one (one (one (one (16 * (s / 16))))) = s / 16 := by
    rw [show 16 * (s / 16) = 2 * (8 * (s / 16)) by omega, one_even, show 8 * (s / 16) = 2 * (4 * (s / 16)) by omega, one_even, show 4 * (s / 16) = 2 * (2 * (s / 16)) by omega, one_even, one_even]
  have h3 : one (one (one (one (s % 16)))) = tab.getD (s % 16) 0 := by
    have : ∀ i : Fin 16, one (one (one (one i.1))) = tab.getD i.1 0 := by decide
    exact this ⟨s % 16, by omega⟩
  have h4 : one (one (one (one s))) = one (one (one (one ((16 * (s / 16)) ^^^ (s % 16))))) := by rw [← h1]
  rw [h4, one_xor, one_xor, one_xor, one_xor, h2, h3]
  rfl
/-- k bits. -/
def ones : Nat → Nat → Nat
  | 0, s => s
  | k + 1, s => one (ones k s)
theorem ones_lt (k s : Nat) (hs : s < 4294967296) : ones k s < 4294967296 := by
  induction k with
  | zero => exact hs
  | succ k ih => exact one_lt _ ih
theorem byt_ones (s x : Nat) : byt s x = ones 8 (s ^^^ x) := by
  unfold byt
  rw [nib_one, nib_one]
  rfl
theorem flip_all (s : Nat) (hs : s < 4294967296) : 4294967295 ^^^ s = 4294967295 - s := by
  have h := congrArg BitVec.toNat (BitVec.xor_allOnes (x := BitVec.ofNat 32 s))
  rw [BitVec.toNat_xor, BitVec.toNat_not, BitVec.toNat_allOnes, BitVec.toNat_ofNat, Nat.mod_eq_of_lt (by omega)] at h
  rw [Nat.xor_comm]
  exact h
end Go.Proofs.YtklpebfkgdklmabDoor
