/-
  DERIVED. GIVEN WITH THE SEED: THE CARDS: each row of YtlkiaghpdjbfeaaDoorRows.lean that lists a variable, with what it lists TIED to the program's text (the seventh form; the later family's looks); each row that meets fmt, with fmt's text TOLD by the authors' own Lean function (tested against real Go, not proved from fmt's source: count such statements apart). THE CARD IS WHAT COUNTS. Prove the row's statement (the work); the ties are given (YtlkiaghpdjbfeaaDoorTie.lean); close each card by the builder's one call (the guide's Derived/Test/ToyasCard.lean, 'card_holds'). Laid BY PROGRAM, IN A SANDBOX (cutbox-door.mjs). By AI agents, Wed Nov 11 2026. No macro, syntax, notation, axiom, sorry.
-/
import Derived.Test.YtlkiaghpdjbfeaaDoorRows
import GoSem.ClaimSeven
namespace Go.Proofs.YtlkiaghpdjbfeaaDoor
namespace Rows

/-- THE TIED CARD OF 'tidelinelaw05.CallAnswers'. -/
def callAnswersCard : Claim7 := { stood := { row := callAnswersRow, standIns := [], harness := (true, "b6b8d7f4839fdcdf5ff56ddf95a09c0ab21f146fcc269571c0a0bc81efe403e5"), looks := false }, kinds := [], alts := [], laidByText := true, laidKinds := [.data, .data, .pinned], laidTests := true, laidLooks := .later }
def CallAnswersCardSaid : Prop := Claim7.holds Tryd.pinned (.plain (OpenSpec.ofChange callAnswersSpec)) callAnswersCard

/-- THE SECOND FORM's CARD OF 'tidelinelaw05.CallAnswers'. -/
def callAnswersUptoCard : Claim7 := { stood := { row := callAnswersUptoRow, standIns := [], harness := (true, "b6b8d7f4839fdcdf5ff56ddf95a09c0ab21f146fcc269571c0a0bc81efe403e5"), looks := false }, kinds := [], alts := [], laidByText := true, laidKinds := [.data, .data, .pinned], laidTests := true, laidLooks := .later }
def CallAnswersUptoCardSaid : Prop := Claim7.holds Tryd.pinned (.plain (OpenSpec.upto callAnswersSpec)) callAnswersUptoCard
end Rows
end Go.Proofs.YtlkiaghpdjbfeaaDoor
