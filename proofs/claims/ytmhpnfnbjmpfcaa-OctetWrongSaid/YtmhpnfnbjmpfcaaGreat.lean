/-
  A row of things that came in; THE WALK of 'great'.
-/
import Derived.Test.YtmhpnfnbjmpfcaaSpeak
namespace Go.Proofs.Ytmhpnfnbjmpfcaa
open Go.RowKit
/-- A thing's four cells. -/
structure TC where
  kind : Int
  n : Int
  v : Int
  A : Option Addr
  m : Nat
  c : Nat
def TC.cells (x : TC) : List Value := [.int .i64 x.kind, .int .i64 x.n, .int .u64 x.v, .slice x.A x.m x.c]
/-- The cells from A on are those of the things xs, in blocks below B. -/
def Things (w : World) (B : Nat) (A : Option Addr) (xs : List TC) : Prop :=
  ∀ i x, xs[i]? = some x → ∃ b o, A = some ⟨b, o, none⟩ ∧ b < B ∧ ∀ j u, x.cells[j]? = some u → w.cell? ⟨b, o + i * 4 + j, none⟩ = some u
theorem Things.keep {w w' : World} {B : Nat} {A : Option Addr} {xs : List TC} (h : Things w B A xs) (hk : Keep (fun _ => False) w w') (hB : B ≤ w.heap.size) : Things w' B A xs := fun i x hi => by
  obtain ⟨b, o, rfl, hb, hc⟩ := h i x hi
  exact ⟨b, o, rfl, hb, fun j u hu => (hk.cell (p := ⟨b, o + i * 4 + j, none⟩) (by show b < _; omega) (fun h => h)).trans (hc j u hu)⟩
theorem Things.more {w : World} {B B' : Nat} {A : Option Addr} {xs : List TC} (h : Things w B A xs) (hB : B ≤ B') : Things w B' A xs := fun i x hi => by
  obtain ⟨b, o, e, hb, hc⟩ := h i x hi
  exact ⟨b, o, e, by omega, hc⟩
set_option maxHeartbeats 400000 in
theorem great_any (A : Option Addr) (xs : List TC) (n c : Nat) (w : World) (hn : n = xs.length) (_hx : xs.length ≤ 9223372036854775807) (hr : Things w w.heap.size A xs) :
    Calls Try.prog 5 #[.slice A n c] w fun e w' => ∃ b, e = .returned (.bool b) ∧ Keep (fun _ => False) w w' ∧ (b = false → n ≤ 60) := by
  have HN := Lib.hid hn
  clear hn
  by_cases h60 : 60 < n
  · have d : decide ((60 : Int) < (n : Int)) = true := by simp; omega
    go_enter Try.func5, Try.ntmps5
    go_wp2
    go_ret
    exact ⟨true, rfl, Keep.refl _ _, fun h => by cases h⟩
  · have d : decide ((60 : Int) < (n : Int)) = false := by simp; omega
    go_enter Try.func5, Try.ntmps5
    go_wp2
    go_loopw [10] (fun i wr => ∃ k : Nat, k ≤ n ∧ i = .int .i64 k ∧ Keep (fun _ => False) w wr) (fun i _ => n - (intOf i).toNat)
    case atStart => exact ⟨0, Nat.zero_le _, rfl, Keep.refl _ _⟩
    case round =>
      obtain ⟨k, hk, rfl, hkw⟩ := hrel
      by_cases hlt : k < n
      · obtain ⟨b, o, rfl, hb, hc⟩ := (hr.keep hkw (Nat.le_refl _)) k xs[k] (List.getElem?_eq_getElem (by rw [← HN.out]; exact hlt))
        generalize xs[k] = x at *
        obtain ⟨x0, x1, x2, x3, x4, x5⟩ := x
        have q0 : wr.cell? ⟨b, o + k * 4, none⟩ = some (.int .i64 x0) := hc 0 _ rfl
        have q1 : wr.cell? ⟨b, o + k * 4 + 1, none⟩ = some (.int .i64 x1) := hc 1 _ rfl
        have q2 : wr.cell? ⟨b, o + k * 4 + 2, none⟩ = some (.int .u64 x2) := hc 2 _ rfl
        have q3 : wr.cell? ⟨b, o + k * 4 + 3, none⟩ = some (.slice x3 x4 x5) := hc 3 _ rfl
        clear hc hr
        by_cases h3 : 300 < x4
        · have d3 : decide ((300 : Int) < (x4 : Int)) = true := by simp; omega
          go_wp2
          go_ret
          refine ⟨true, rfl, ?_, fun h => by cases h⟩
          exact hkw.alloc _
        · have d3 : decide ((300 : Int) < (x4 : Int)) = false := by simp; omega
          go_wp2
          go_roundw
          case rel => exact ⟨k + 1, by omega, by go_num, hkw.alloc _⟩
          case measure => simp [intOf]; omega
      · obtain rfl : k = n := by omega
        go_wp2
        go_ret
        exact ⟨false, rfl, hkw, fun _ => by omega⟩
end Go.Proofs.Ytmhpnfnbjmpfcaa
