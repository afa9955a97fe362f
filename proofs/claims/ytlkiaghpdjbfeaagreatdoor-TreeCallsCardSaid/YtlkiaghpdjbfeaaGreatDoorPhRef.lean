/-
  WALKS of the document's own answers: Same, Put, the sum bit by bit, Wrap, Unwrap.
-/
import Derived.Test.YtlkiaghpdjbfeaaGreatDoorChecked
import Derived.Test.YtlkiaghpdjbfeaaGreatDoorPk0
import Derived.BigQuiet
namespace Go.Proofs.YtlkiaghpdjbfeaaGreatDoor
open Go.RowKit

theorem same_unlike (A1 A2 : Option Addr) (n1 n2 c1 c2 : Nat) (w : World) (h : n1 ≠ n2) :
    Calls Tryz.prog 20 #[.slice A1 n1 c1, .slice A2 n2 c2] w fun e w' => e = .returned (.bool false) ∧ ∃ n, w.drewN n = w' := by
  have hb : ((n1 : Int) != (n2 : Int)) = true := by simp; omega
  go_enter Tryz.func20, Tryz.ntmps20
  go_wp2
  go_ret
  exact ⟨rfl, 0, rfl⟩
theorem take_next {l m : List UInt8} {k : Nat} (h : l.take k = m.take k) (hl : k < l.length) (hm : k < m.length) (he : l[k] = m[k]) : l.take (k + 1) = m.take (k + 1) := by
  rw [List.take_succ_eq_append_getElem hl, List.take_succ_eq_append_getElem hm, h, he]
theorem same_len (A1 A2 : Option Addr) (l1 l2 : List UInt8) (n c1 c2 : Nat) (w : World) (h1 : n = l1.length) (h2 : n = l2.length) (hn : n ≤ 4611686018427387904) (B1 B2 : Nat) (r1 : Rd w B1 A1 l1) (r2 : Rd w B2 A2 l2) :
    Calls Tryz.prog 20 #[.slice A1 n c1, .slice A2 n c2] w fun e w' => e = .returned (.bool (decide (l1 = l2))) ∧ ∃ n, w.drewN n = w' := by
  have H1 := Lib.hid h1
  have H2 := Lib.hid h2
  clear h1 h2
  go_enter Tryz.func20, Tryz.ntmps20
  go_wp2
  go_loopw [5] (fun i wr => ∃ k nq : Nat, k ≤ n ∧ i = .int .i64 k ∧ Hid (l1.take k = l2.take k) ∧ wr = w.drewN nq) (fun i _ => n - (RowKit.intOf i).toNat)
  case atStart => exact ⟨0, 0, Nat.zero_le _, rfl, rfl, rfl⟩
  case round =>
    obtain ⟨k, nq, hk, rfl, HT, rfl⟩ := hrel
    by_cases hlt : k < n
    · have q1 : k < l1.length := by rw [← H1.out]; exact hlt
      have q2 : k < l2.length := by rw [← H2.out]; exact hlt
      obtain ⟨a1, rfl, _, hc1⟩ := r1.cells q1
      obtain ⟨a2, rfl, _, hc2⟩ := r2.cells q2
      by_cases he : l1[k] = l2[k]
      · have HN := Lib.hid (take_next HT.out q1 q2 he)
        have hbb : ((l1[k].toNat : Int) != (l2[k].toNat : Int)) = false := by rw [he]; simp
        generalize l1[k].toNat = x1 at *
        generalize l2[k].toNat = x2 at *
        go_wp2
        go_quiet (fail)
        go_wp2
        go_roundw
        case rel => exact ⟨k + 1, _, by omega, by go_num, HN.out, rfl⟩
        case measure => simp [RowKit.intOf]; omega
      · have hbb : ((l1[k].toNat : Int) != (l2[k].toNat : Int)) = true := by
          rw [bne_iff_ne]
          intro h
          exact he (UInt8.toNat_inj.1 (by omega))
        have HD := Lib.hid (show decide (l1 = l2) = false by
          rw [decide_eq_false_iff_not]
          rintro rfl
          exact he rfl)
        generalize l1[k].toNat = x1 at *
        generalize l2[k].toNat = x2 at *
        go_wp2
        go_quiet (fail)
        go_wp2
        go_ret
        refine ⟨by rw [HD.out]; rfl, ?_⟩
        simp only [World.drewN_drewN]
        exact ⟨_, rfl⟩
    · obtain rfl : k = n := by omega
      have HD := Lib.hid (show decide (l1 = l2) = true by
        have h := HT.out
        rw [List.take_of_length_le (by rw [← H1.out]; exact Nat.le_refl _), List.take_of_length_le (by rw [← H2.out]; exact Nat.le_refl _)] at h
        simp [h])
      go_wp2
      go_ret
      exact ⟨by rw [HD.out]; rfl, _, rfl⟩
/-- Are two rows of bytes one? -/
theorem same_any (A1 A2 : Option Addr) (l1 l2 : List UInt8) (n1 n2 c1 c2 : Nat) (w : World) (h1 : n1 = l1.length) (h2 : n2 = l2.length) (hn : n1 ≤ 4611686018427387904) (B1 B2 : Nat) (r1 : Rd w B1 A1 l1) (r2 : Rd w B2 A2 l2) :
    Calls Tryz.prog 20 #[.slice A1 n1 c1, .slice A2 n2 c2] w fun e w' => e = .returned (.bool (decide (l1 = l2))) ∧ ∃ n, w.drewN n = w' := by
  by_cases h : n1 = n2
  · subst h
    exact same_len A1 A2 l1 l2 n1 c1 c2 w h1 h2 hn B1 B2 r1 r2
  · rw [show decide (l1 = l2) = false by
      rw [decide_eq_false_iff_not]
      rintro rfl
      omega]
    exact same_unlike A1 A2 n1 n2 c1 c2 w h
theorem same_is {A1 A2 : Option Addr} {l : List UInt8} {n1 n2 c1 c2 : Nat} {w : World} (h1 : n1 = l.length) (h2 : n2 = l.length) (hn : l.length ≤ 4611686018427387904) {B1 B2 : Nat} (r1 : Rd w B1 A1 l) (r2 : Rd w B2 A2 l) :
    Hid (Calls Tryz.prog 20 #[.slice A1 n1 c1, .slice A2 n2 c2] w fun e w' => e = .returned (.bool true) ∧ ∃ n, w.drewN n = w') := by
  have h := same_any A1 A2 l l n1 n2 c1 c2 w h1 h2 (by omega) B1 B2 r1 r2
  rwa [show decide (l = l) = true by simp] at h
end Go.Proofs.YtlkiaghpdjbfeaaGreatDoor
