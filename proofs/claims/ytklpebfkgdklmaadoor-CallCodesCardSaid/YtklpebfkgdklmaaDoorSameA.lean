/-
  The reference's SameAnswer, of two answers that are one (their numbers whatever ints).
-/
import Derived.Test.YtklpebfkgdklmaaDoorRefPath
import Derived.Test.YtklpebfkgdklmaaDoorRef
import Derived.Test.YtklpebfkgdklmaaDoorTakeA
namespace Go.Proofs.YtklpebfkgdklmaaDoor
open Go.RowKit

set_option maxRecDepth 100000 in
set_option maxHeartbeats 4000000 in
theorem sameAnswerI_one (r : IAns) (A A1 B B1 : Option Addr) (c c1 d d1 : Nat) (w : World) (hd : r.data.length ≤ 1000000) (hn : r.names.length ≤ 1000000) (h1 : Rd w w.heap.size A r.data) (h2 : Strs w w.heap.size B (r.names.map ba)) (h3 : Rd w w.heap.size A1 r.data) (h4 : Strs w w.heap.size B1 (r.names.map ba)) :
    Calls Tryd.prog 19 #[.agg (ansV r A c B d), .agg (ansV r A1 c1 B1 d1)] w fun e w' => e = .returned (.bool true) ∧ KF w w' := by
  have kA : ∀ X Y, KF w ((w.alloc X).alloc Y) := fun X Y => ((KF.refl w).alloc X).alloc Y
  have SB := Lib.hid fun X Y => same_is (c1 := c) (c2 := c1) (w := (w.alloc X).alloc Y) rfl rfl (by omega) (h1.keepF (kA X Y) (Nat.le_refl _)) (h3.keepF (kA X Y) (Nat.le_refl _))
  have ST := Lib.hid fun X Y (nq : Nat) => texts_same B B1 r.names.length r.names.length d d1 r.names r.names (((w.alloc X).alloc Y).drewN nq) rfl rfl (by omega) (by omega) ((h2.kept (kA X Y)).drewN nq) ((h4.kept (kA X Y)).drewN nq)
  clear h1 h2 h3 h4
  unfold ansV
  generalize r.err = e0 at *
  generalize r.kind = e1 at *
  generalize r.size = e2 at *
  generalize r.links = e3 at *
  simp only [decide_true] at ST
  generalize r.data.length = ld at *
  generalize r.names.length = ln at *
  go_enter Tryd.func19, Tryd.ntmps19
  go_wp2_with fail
  refine ((SB.out _ _).out).mono ?_
  rintro e w1 ⟨rfl, nq, rfl⟩
  go_wp2_with fail
  refine (ST.out _ _ nq).mono ?_
  rintro e w2 ⟨rfl, k2⟩
  go_wp2_with fail
  go_ret
  exact ⟨rfl, KF.trans (Keep.drewN (kA _ _) nq) k2⟩
end Go.Proofs.YtklpebfkgdklmaaDoor
