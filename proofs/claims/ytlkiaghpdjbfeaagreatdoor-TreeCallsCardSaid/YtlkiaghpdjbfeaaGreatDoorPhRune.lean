/-
  strings.IndexRune in the two signs that no name has, of a sign beyond ASCII: it isn't there.
-/
import Derived.Test.YtlkiaghpdjbfeaaGreatDoorChecked
import Derived.Test.YtlkiaghpdjbfeaaGreatDoorShelf
import Derived.Test.YtlkiaghpdjbfeaaGreatDoorPk0
import Derived.Laws.Runes
import Derived.Laws.RangeAny
import Derived.Deep.LoopGhost
import Derived.WalkMore
import Derived.Deep.CutRange
import Derived.Deep.DeepCutAuto
import Derived.Deep.QuietTactic
import Derived.BigQuiet
import Derived.Deep.DrawnRows
import Derived.Deep.RegionWith
namespace Go.Proofs.YtlkiaghpdjbfeaaGreatDoor
open Go.RowKit

theorem valid_any (r : Int) (w : World) : Calls Tryz.prog 189 #[.int .i32 r] w fun e w' => e = .returned (.bool (validRune r)) ∧ w = w' := by
  go_enter Tryz.func189, Tryz.ntmps189
  go_wp2
  all_goals (go_ret; refine ⟨?_, rfl⟩; congr 2; unfold validRune; show Value.bool _ = Value.bool _; congr 1; first | (symm; apply decide_eq_true; omega) | (symm; apply decide_eq_false; omega))

set_option maxRecDepth 100000 in
theorem rune_far (r : Int) (w : World) (h0 : 128 ≤ r) :
    Calls Tryz.prog 177 #[.string ⟨#[47, 0]⟩, .int .i32 r] w fun e w' => e = .returned (.int .i64 (-1)) ∧ KF w w' := by
  have g1 : decide (r < 128) = false := decide_eq_false (by omega)
  have g0 : decide (0 ≤ r) = true := decide_eq_true (by omega)
  by_cases he : r = 65533
  · subst he
    have g2 : ((65533:Int) == 65533) = true := rfl
    go_enter Tryz.func177, Tryz.ntmps177
    go_wp2_with fail
    go_loopg [5, 6] 2 (fun g _ _ wx => ∃ i : Nat, i + g = 2 ∧ wx = w.iter ⟨#[47, 0]⟩ i)
    case atStart => exact ⟨0, rfl, rfl⟩
    case round =>
      obtain ⟨i, hi, rfl⟩ := hrel
      have h47 := fun ty => run_next_ascii (P := Tryz.prog) w ⟨#[47, 0]⟩ 0 ty (by decide) (by decide)
      have h00 := fun ty => run_next_ascii (P := Tryz.prog) w ⟨#[47, 0]⟩ 1 ty (by decide) (by decide)
      rcases gk with _ | _ | _ | gk
      · obtain rfl : i = 2 := by omega
        have hend := fun ty => run_next_end (P := Tryz.prog) w ⟨#[47, 0]⟩ 2 ty (by decide)
        go_wp2_with fail
        go_ret
        exact ⟨rfl, KF.of_below ((Below.refl _ _).alloc (Nat.le_refl _) _)⟩
      · obtain rfl : i = 1 := by omega
        go_wp2_with fail
        all_goals try (exfalso; revert ‹(_ == (65533:Int)) = true›; decide)
        go_roundg 0
        case measure => omega
        case rel => exact ⟨2, rfl, rfl⟩
      · obtain rfl : i = 0 := by omega
        go_wp2_with fail
        all_goals try (exfalso; revert ‹(_ == (65533:Int)) = true›; decide)
        go_roundg 1
        case measure => omega
        case rel => exact ⟨1, rfl, rfl⟩
      · omega
  · have g2 : (r == 65533) = false := by simp [he]
    cases hv : validRune r with
    | false =>
      have hV := valid_any r
      rw [hv] at hV
      go_enter Tryz.func177, Tryz.ntmps177
      go_wp2_with fail
      refine (hV _).mono ?_
      rintro e w1 ⟨rfl, rfl⟩
      go_wp2_with fail
      go_ret
      exact ⟨rfl, KF.refl _⟩
    | true =>
      have hV := valid_any r
      rw [hv] at hV
      have hu := hv
      rw [← validRune_eq] at hu
      obtain ⟨e2, e4, el⟩ := encode_facts r hu h0
      have hcv := fun w => run_convert_int_string (P := Tryz.prog) w 21 9 .i32 r (by kernel_rfl) Tryz.underlying9
      generalize Utf8.encode r = E at e2 e4 el hcv
      go_enter Tryz.func177, Tryz.ntmps177
      go_wp2_with fail
      refine (hV _).mono ?_
      rintro e w1 ⟨rfl, rfl⟩
      go_wp2_with fail
      go_step3
      rcases Nat.lt_or_ge 2 E.size with h3 | h2
      · have q1 : decide (((E.size : Int) - 1) < 2) = false := decide_eq_false (by omega)
        go_wp2_with fail
        go_loopg [9] 0 (fun _ s9 wx => s9 = .int .i64 ((E.size : Int) - 1) ∧ wx = w)
        case atStart => exact ⟨rfl, rfl⟩
        case round =>
          obtain ⟨rfl, rfl⟩ := hrel
          go_wp2_with fail
          rw [Exit.noGoto_ret]
          go_ret
          exact ⟨rfl, KF.refl _⟩
      · obtain ⟨a, b, rfl, hb⟩ : ∃ a b : UInt8, E = ⟨#[a, b]⟩ ∧ 128 ≤ b.toNat := by
          obtain ⟨⟨l⟩⟩ := E
          match l, e2, h2, el with
          | [a, b], _, _, el => exact ⟨a, b, rfl, el (Nat.lt_succ_self 1)⟩
          | [], h, _, _ => exact absurd h (by decide)
          | [_], h, _, _ => exact absurd h (by simp [ByteArray.size])
          | _ :: _ :: _ :: _, _, h, _ => exact absurd h (by simp [ByteArray.size])
        clear e2 h2 e4 el
        go_wp2_with fail
        go_loopg [9] 0 (fun _ s9 wx => s9 = .int .i64 1 ∧ wx = w)
        case atStart => exact ⟨rfl, rfl⟩
        case round =>
          obtain ⟨rfl, rfl⟩ := hrel
          have nb : ((0:Int) != (b.toNat : Int)) = true := by rw [bne_iff_ne]; omega
          have hIB := fun n => Tryz.strings_IndexByte ⟨#[]⟩ (b.toNat : Int) (wr.drewN n)
          have hI0 : Lib.indexByte (ByteArray.mk #[]).data.toList ((b.toNat : Int)).toNat.toUInt8 = -1 := rfl
          rw [hI0] at hIB
          go_wp2
          go_step3
          go_wp2
          go_quiet (fail)
          go_wp2
          · go_quiet ((go_at_call 188; exact (hIB _).mono fun _ _ ⟨he, hw⟩ => ⟨he, _, hw⟩))
            go_wp2
            show Exit.noGoto _ Exit.ret _ _
            simp only [Exit.noGoto_ret, Exit.inBlock, Exit.then]
            go_ret
            exact ⟨rfl, (KF.refl _).drewN _⟩
          · exfalso
            have h : ((0:Int) != (b.toNat : Int)) = false := by assumption
            rw [nb] at h
            cases h
end Go.Proofs.YtlkiaghpdjbfeaaGreatDoor
