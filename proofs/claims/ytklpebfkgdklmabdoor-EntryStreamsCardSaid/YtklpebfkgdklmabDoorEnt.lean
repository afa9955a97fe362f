/-
  WALKS: entry.right, entry.Encode.
-/
import Derived.Test.YtklpebfkgdklmabDoorPut
import Derived.Test.YtklpebfkgdklmabDoorLog7
import Derived.Test.YtklpebfkgdklmabDoorEntMath
import Derived.Shelf.Abstract
namespace Go.Proofs.YtklpebfkgdklmabDoor
open Go.RowKit Go.Shelf

theorem counts_any (z : Int) (w : World) : Calls Tryd.prog 31 #[.int .i64 z] w fun e w' => e = .returned (.bool (cntB z)) ∧ w = w' := by
  have hz : Hid (cntB z = (decide (0 ≤ z) && decide (z ≤ 2147483647))) := Lib.hid rfl
  by_cases h0 : 0 ≤ z
  · have h1 : Hid (cntB z = decide (z ≤ 2147483647)) := Lib.hid (by rw [hz.out]; simp [h0])
    go_enter Tryd.func31, Tryd.ntmps31
    go_wp2_with fail
    go_ret
    exact ⟨by rw [h1.out]; rfl, rfl⟩
  · have h1 : Hid (cntB z = false) := Lib.hid (by rw [hz.out]; simp [h0])
    go_enter Tryd.func31, Tryd.ntmps31
    go_wp2_with fail
    go_ret
    exact ⟨by rw [h1.out]; rfl, rfl⟩
/-- An entry's value. -/
abbrev ecells (x : TLog) (A : Option Addr) (d c : Nat) : Array Value := #[.int .i64 x.kind, .int .i64 x.client, .int .i64 x.birth, .int .i64 x.number, .int .i64 x.stream, .int .i64 x.back, .slice A d c]
set_option maxRecDepth 100000 in
set_option maxHeartbeats 1000000 in
theorem right_any (x : TLog) (A : Option Addr) (d c : Nat) (w : World) (hd : d = x.pay.length) :
    Calls Tryd.prog 17 #[.agg (ecells x A d c)] w fun e w' => e = .returned (.bool (rightB x)) ∧ KF w w' := by
  obtain ⟨w1, hw1⟩ : ∃ w1, w.alloc (.cells (ecells x A d c) 26) = w1 := ⟨_, rfl⟩
  obtain ⟨g0, hg0⟩ : ∃ g0, w.heap.size = g0 := ⟨_, rfl⟩
  have P : Lg w1 g0 (.int .i64 x.kind) (.int .i64 x.client) (.int .i64 x.birth) (.int .i64 x.number) (.int .i64 x.stream) (.int .i64 x.back) (.slice A d c) := ⟨by rw [← hw1, ← hg0]; exact heap_alloc_new w _⟩
  have k01 : KF w w1 := by rw [← hw1]; exact (KF.refl _).alloc _
  obtain ⟨p0, p1, p2, p3, p4, p5, p6⟩ := P.cells
  have HW1 := Lib.hid hw1
  have HG0 := Lib.hid hg0
  have HR : Hid (rightB x = ((((kindB x && idB x) && streamB x) && backB x) && decide ((d : Int) ≤ 65506))) := Lib.hid (by rw [hd]; rfl)
  have HK : Hid (kindB x = (x.kind == 1 || x.kind == 2)) := Lib.hid rfl
  have HI : Hid (idB x = ((cntB x.client && cntB x.birth) && cntB x.number)) := Lib.hid rfl
  have HS : Hid (streamB x = (decide (0 ≤ x.stream) && decide (x.stream < 8))) := Lib.hid rfl
  have HB : Hid (backB x = (decide (-1 ≤ x.back) && decide (x.back ≤ 4294967296))) := Lib.hid rfl
  generalize rightB x = rb at *
  generalize kindB x = kb at *
  generalize idB x = ib at *
  generalize streamB x = sb at *
  generalize backB x = bb at *
  have C1 := Lib.hid (counts_any x.client w1)
  have C2 := Lib.hid (counts_any x.birth w1)
  have C3 := Lib.hid (counts_any x.number w1)
  clear hw1 hg0 hd P
  go_enter Tryd.func17, Tryd.ntmps17
  go_upto_region 1 with fail
  rw [HW1.out, HG0.out]
  clear HW1 HG0
  go_cut [3] (fun s wx => s = .bool kb ∧ wx = w1)
  case first =>
    by_cases h1 : x.kind = 1
    · have z : (x.kind == 1) = true := by rw [h1]; rfl
      go_wp2_with fail
      go_meet
      exact ⟨by rw [HK.out, h1]; rfl, rfl⟩
    · have z : (x.kind == 1) = false := beq_eq_false_iff_ne.2 h1
      have HK2 : Hid (kb = (x.kind == 2)) := Lib.hid (by rw [HK.out, z]; rfl)
      go_wp2_with fail
      go_meet
      exact ⟨by rw [HK2.out], rfl⟩
  case rest =>
    obtain ⟨rfl, rfl⟩ := hcut
    clear HK
    generalize cntB x.client = c1 at *
    generalize cntB x.birth = c2 at *
    generalize cntB x.number = c3 at *
    go_upto_region 2 with fail
    go_cut [4] (fun s wx => s = .bool ib ∧ wx = wc)
    case first =>
      go_wp2_with fail
      refine C1.out.mono ?_
      rintro e w2 ⟨rfl, rfl⟩
      rcases c1 with _ | _
      · go_wp2_with fail
        go_meet
        exact ⟨by rw [HI.out]; rfl, rfl⟩
      go_wp2_with fail
      refine C2.out.mono ?_
      rintro e w2 ⟨rfl, rfl⟩
      rcases c2 with _ | _
      · go_wp2_with fail
        go_meet
        exact ⟨by rw [HI.out]; rfl, rfl⟩
      go_wp2_with fail
      refine C3.out.mono ?_
      rintro e w2 ⟨rfl, rfl⟩
      rcases c3 with _ | _
      all_goals (go_wp2_with fail)
      all_goals go_meet
      all_goals exact ⟨by rw [HI.out]; rfl, rfl⟩
    case rest =>
      obtain ⟨rfl, rfl⟩ := hcut
      clear HI C1 C2 C3
      go_upto_region 3 with fail
      go_cut [5] (fun s wx => s = .bool sb ∧ wx = wc)
      case first =>
        by_cases h1 : 0 ≤ x.stream
        · have H2 : Hid (sb = decide (x.stream < 8)) := Lib.hid (by rw [HS.out]; simp [h1])
          go_wp2_with fail
          go_meet
          exact ⟨by rw [H2.out], rfl⟩
        · have H2 : Hid (sb = false) := Lib.hid (by rw [HS.out]; simp [h1])
          go_wp2_with fail
          go_meet
          exact ⟨by rw [H2.out], rfl⟩
      case rest =>
        obtain ⟨rfl, rfl⟩ := hcut
        clear HS
        go_upto_region 4 with fail
        go_cut [6] (fun s wx => s = .bool bb ∧ wx = wc)
        case first =>
          by_cases h1 : -1 ≤ x.back
          · have H2 : Hid (bb = decide (x.back ≤ 4294967296)) := Lib.hid (by rw [HB.out]; simp [h1])
            go_wp2_with fail
            go_meet
            exact ⟨by rw [H2.out], rfl⟩
          · have H2 : Hid (bb = false) := Lib.hid (by rw [HB.out]; simp [h1])
            go_wp2_with fail
            go_meet
            exact ⟨by rw [H2.out], rfl⟩
        case rest =>
          obtain ⟨rfl, rfl⟩ := hcut
          clear HB
          rcases kb with _ | _
          · have H2 : Hid (rb = false) := Lib.hid (by rw [HR.out]; rfl)
            go_wp2_with fail
            go_ret
            exact ⟨by rw [H2.out]; rfl, k01⟩
          rcases ib with _ | _
          · have H2 : Hid (rb = false) := Lib.hid (by rw [HR.out]; rfl)
            go_wp2_with fail
            go_ret
            exact ⟨by rw [H2.out]; rfl, k01⟩
          rcases sb with _ | _
          · have H2 : Hid (rb = false) := Lib.hid (by rw [HR.out]; rfl)
            go_wp2_with fail
            go_ret
            exact ⟨by rw [H2.out]; rfl, k01⟩
          rcases bb with _ | _
          · have H2 : Hid (rb = false) := Lib.hid (by rw [HR.out]; rfl)
            go_wp2_with fail
            go_ret
            exact ⟨by rw [H2.out]; rfl, k01⟩
          have H2 : Hid (rb = decide ((d : Int) ≤ 65506)) := Lib.hid (by rw [HR.out]; rfl)
          go_wp2_with fail
          go_ret
          exact ⟨by rw [H2.out]; rfl, k01⟩
end Go.Proofs.YtklpebfkgdklmabDoor
