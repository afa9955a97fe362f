/-
  Closed facts of this seat that every law's row asks: the table's place, its type, a world in which it holds what its text says.
-/
import Derived.Test.YtmhpnfnbjmpfcaaDoorSum
import Derived.Test.YtmhpnfnbjmpfcaaDoorLaw
import Derived.Test.YtmhpnfnbjmpfcaaDoorCards
import Derived.Test.YtmhpnfnbjmpfcaaDoorTie
import Derived.Deep.DeepHandedRow
import Derived.Lib.LaidTab
namespace Go.Proofs.YtmhpnfnbjmpfcaaDoor
open Go.RowKit Go.ChangeShapes Go.WideShapes Go.ChangeAt
theorem own : ownKnob Tryd.prog.godebug = none := by kernel_rfl
theorem laidOut : laidOutB Tryd.prog = true := by kernel_rfl
theorem gTab : Tryd.prog.globalNamed "tideline/check.four" = some 0 := by kernel_rfl
theorem gTabType : (Tryd.prog.globals[0]?).map (·.type) = some 41 := by kernel_rfl
theorem cellsTab : Tryd.prog.cellsOf 41 = 16 := by kernel_rfl
theorem cellsU32 : Tryd.prog.cellsOf 29 = 1 := by kernel_rfl
theorem cellsU8 : Tryd.prog.cellsOf 5 = 1 := by kernel_rfl
def tabInts : List Int := [0, 498536548, 997073096, 651767980, 1994146192, 1802195444, 1303535960, 1342533948, 3988292384, 4027552580, 3604390888, 3412177804, 2607071920, 2262029012, 2685067896, 3183342108]
theorem tabInts_at (i : Nat) (h : i < 16) : tabInts.getD i 0 = ((tab.getD i 0 : Nat) : Int) := by
  have : ∀ i : Fin 16, tabInts.getD i.1 0 = ((tab.getD i.1 0 : Nat) : Int) := by decide
  exact this ⟨i, h⟩
/-- A world for the witness: the settled one, the table holding what its initialiser lays. -/
noncomputable def laidWorld (os : Os) : World :=
  { World.holding Tryd.prog os ⟨#[], #[], []⟩ with heap := (World.holding Tryd.prog os ⟨#[], #[], []⟩).heap.modify 0 fun
      | .cells _ t frozen => .cells (tabInts.map (Value.int .u32)).toArray t frozen
      | o => o }
end Go.Proofs.YtmhpnfnbjmpfcaaDoor
