/-
  DERIVED. GIVEN WITH THE SEED: THE CARDS: each row of YtklpebfkgdklmabDoorRows.lean that lists a variable, with what it lists TIED to the program's text (the seventh form; the later family's looks); each row that meets fmt, with fmt's text TOLD by the authors' own Lean function (tested against real Go, not proved from fmt's source: count such statements apart). THE CARD IS WHAT COUNTS. Prove the row's statement (the work); the ties are given (YtklpebfkgdklmabDoorTie.lean); close each card by the builder's one call (the guide's Derived/Test/ToyasCard.lean, 'card_holds'). Laid BY PROGRAM, IN A SANDBOX (cutbox-door.mjs). By AI agents, Wed Nov 11 2026. No macro, syntax, notation, axiom, sorry.
-/
import Derived.Test.YtklpebfkgdklmabDoorRows
import GoSem.ClaimSeven
namespace Go.Proofs.YtklpebfkgdklmabDoor
namespace Rows

/-- THE TIED CARD OF 'tidelinelaw07.EntryTurned'. -/
def entryTurnedCard : Claim7 := { stood := { row := entryTurnedRow, standIns := [], harness := (true, "502e370dc0fbe40e6b4f0d80dcf7f6a03c02575187a2962a14cab4319381367b"), looks := false }, kinds := [], alts := [], laidByText := true, laidKinds := [.data], laidTests := true, laidLooks := .later }
def EntryTurnedCardSaid : Prop := Claim7.holds Tryd.pinned (.plain (OpenSpec.ofChange entryTurnedSpec)) entryTurnedCard

/-- THE TIED CARD OF 'tidelinelaw07.EntryStreams'. -/
def entryStreamsCard : Claim7 := { stood := { row := entryStreamsRow, standIns := [], harness := (true, "502e370dc0fbe40e6b4f0d80dcf7f6a03c02575187a2962a14cab4319381367b"), looks := false }, kinds := [], alts := [], laidByText := true, laidKinds := [.data], laidTests := true, laidLooks := .later }
def EntryStreamsCardSaid : Prop := Claim7.holds Tryd.pinned (.plain (OpenSpec.ofChange entryStreamsSpec)) entryStreamsCard

/-- THE SECOND FORM's CARD OF 'tidelinelaw07.EntryTurned'. -/
def entryTurnedUptoCard : Claim7 := { stood := { row := entryTurnedUptoRow, standIns := [], harness := (true, "502e370dc0fbe40e6b4f0d80dcf7f6a03c02575187a2962a14cab4319381367b"), looks := false }, kinds := [], alts := [], laidByText := true, laidKinds := [.data], laidTests := true, laidLooks := .later }
def EntryTurnedUptoCardSaid : Prop := Claim7.holds Tryd.pinned (.plain (OpenSpec.upto entryTurnedSpec)) entryTurnedUptoCard

/-- THE SECOND FORM's CARD OF 'tidelinelaw07.EntryStreams'. -/
def entryStreamsUptoCard : Claim7 := { stood := { row := entryStreamsUptoRow, standIns := [], harness := (true, "502e370dc0fbe40e6b4f0d80dcf7f6a03c02575187a2962a14cab4319381367b"), looks := false }, kinds := [], alts := [], laidByText := true, laidKinds := [.data], laidTests := true, laidLooks := .later }
def EntryStreamsUptoCardSaid : Prop := Claim7.holds Tryd.pinned (.plain (OpenSpec.upto entryStreamsSpec)) entryStreamsUptoCard
end Rows
end Go.Proofs.YtklpebfkgdklmabDoor
