/-
  Entries of the log as plain data, and as bytes. It speaks of no program.
-/
import Derived.Test.YtklpebfkgdklmabDoorCallMath
namespace Go.Proofs.YtklpebfkgdklmabDoor

structure TLog where
  kind : Int
  client : Int
  birth : Int
  number : Int
  stream : Int
  back : Int
  pay : Txt
def encE (x : TLog) : List UInt8 := [b8 x.kind] ++ be (u64 x.client) 4 ++ be (u64 x.birth) 4 ++ be (u64 x.number) 4 ++ [b8 x.stream] ++ be (u64 x.back) 8 ++ tx x.pay
theorem encE_length (x : TLog) : (encE x).length = 26 + x.pay.length := by
  unfold encE
  simp only [List.length_append, tx_length, be_length, List.length_cons, List.length_nil]
  omega
def cntB (z : Int) : Bool := decide (0 ≤ z) && decide (z ≤ 2147483647)
def kindB (x : TLog) : Bool := x.kind == 1 || x.kind == 2
def idB (x : TLog) : Bool := (cntB x.client && cntB x.birth) && cntB x.number
def streamB (x : TLog) : Bool := decide (0 ≤ x.stream) && decide (x.stream < 8)
def backB (x : TLog) : Bool := decide (-1 ≤ x.back) && decide (x.back ≤ 4294967296)
/-- May an entry be? -/
def rightB (x : TLog) : Bool := (((kindB x && idB x) && streamB x) && backB x) && decide ((x.pay.length : Int) ≤ 65506)
/-- Are two entries one? -/
def sameE (x y : TLog) : Bool := (((x.kind == y.kind && (x.client == y.client && (x.birth == y.birth && x.number == y.number))) && x.stream == y.stream) && x.back == y.back) && decide (x.pay = y.pay)
theorem sameE_iff (x y : TLog) : sameE x y = true ↔ x = y := by
  cases x; cases y
  simp [sameE, and_assoc]
theorem rightB_iff (x : TLog) : rightB x = true ↔ (x.kind = 1 ∨ x.kind = 2) ∧ (0 ≤ x.client ∧ x.client ≤ 2147483647) ∧ (0 ≤ x.birth ∧ x.birth ≤ 2147483647) ∧ (0 ≤ x.number ∧ x.number ≤ 2147483647) ∧ (0 ≤ x.stream ∧ x.stream ≤ 7) ∧ (-1 ≤ x.back ∧ x.back ≤ 4294967296) ∧ x.pay.length ≤ 65506 := by
  simp only [rightB, kindB, idB, streamB, backB, cntB, Bool.and_eq_true, Bool.or_eq_true, decide_eq_true_eq, beq_iff_eq]
  constructor
  · rintro ⟨⟨⟨⟨h1, ⟨h2, h3⟩, h4⟩, h5⟩, h6⟩, h7⟩
    exact ⟨h1, h2, h3, h4, ⟨h5.1, by omega⟩, h6, by omega⟩
  · rintro ⟨h1, h2, h3, h4, h5, h6, h7⟩
    exact ⟨⟨⟨⟨h1, ⟨h2, h3⟩, h4⟩, ⟨h5.1, by omega⟩⟩, h6⟩, by omega⟩
end Go.Proofs.YtklpebfkgdklmabDoor
