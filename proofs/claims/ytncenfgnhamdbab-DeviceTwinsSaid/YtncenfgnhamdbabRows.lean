/-
  No cell of these rows narrows 'for every input' (looked for: loops, veiled, ifaces, maps, wideKeys, modest, calm, conditions, laid).
  DERIVED. THE GIVEN ROWS OF THIS SEAT. 2 by the template 'for every input the law returns true; each argument reads behind the call as it read before'; 0 by the template 'total and deterministic' (their statements: YtncenfgnhamdbabTotals.lean).
  GIVEN WITH THE SEED: the statements are not yours to turn. If you find one false, say at which input.
  Laid BY PROGRAM, IN A SANDBOX (cutbox-rows.mjs): the forced cells as the released guide's own fill.sh prints them over the translation 1bdafb3ee7904692… (all of the seat's roots in one cut). By AI agents, Wed Nov 11 2026. No macro, syntax, notation, axiom, sorry.
-/
import Derived.Test.YtncenfgnhamdbabChecked
import GoSem.Claim
import GoSem.ClaimJoined
import GoSem.ClaimMapViews
import Derived.JoinedTies
import Derived.KernelRfl
namespace Go.Proofs.Ytncenfgnhamdbab
/- THE CELL 'sum', in the pinned program and in every row, IS THE sha256 OF THE DUMP (.gsa) THAT YtncenfgnhamdbabProg.lean LOADS. Nothing in Lean hashes anything: it is a label: what it is worth is what the hold of that sum in a sandbox is worth. -/
noncomputable def Try.pinned : Pinned := { name := "ytncenfgnhamdbab", sum := "1bdafb3ee7904692fddba9d605a9ba64c2c28b9f67ec6a0d0a5d5e72eb3d84bb", checked := Try.checked }
namespace Rows
def none {H : Type} : Left H := { results := [], args := [] }

/-- 'tidelinelaw08.DeviceFills': WHATEVER THE INPUT: true; the input reads as it did. -/
def deviceFillsSpec : ChangeSpec := { name := "deviceFills", fn := fun _ => fun
  | [d1, d2, d3] => { results := [.lit (.bool true)], args := [d1, d2, d3] }
  | _ => none }
def deviceFillsRow : OpenClaim := { program := "ytncenfgnhamdbab", sum := "1bdafb3ee7904692fddba9d605a9ba64c2c28b9f67ec6a0d0a5d5e72eb3d84bb", func := "tideline/tidelinelaw08.DeviceFills", spec := "deviceFills", unfollowed := true, recurses := true, apart := false }
def DeviceFillsSaid : Prop := deviceFillsRow.holds Try.pinned (OpenSpec.ofChange deviceFillsSpec)

/-- ITS FALSE NEIGHBOUR: 'it returns false'. Refute it at one input. -/
def deviceFillsWrong : ChangeSpec := { name := "deviceFills", fn := fun _ => fun
  | [d1, d2, d3] => { results := [.lit (.bool false)], args := [d1, d2, d3] }
  | _ => none }
def DeviceFillsWrongFalsely : Prop := deviceFillsRow.holds Try.pinned (OpenSpec.ofChange deviceFillsWrong)

/-- 'tidelinelaw08.DeviceTwins': WHATEVER THE INPUT: true; the input reads as it did. -/
def deviceTwinsSpec : ChangeSpec := { name := "deviceTwins", fn := fun _ => fun
  | [d1, d2] => { results := [.lit (.bool true)], args := [d1, d2] }
  | _ => none }
def deviceTwinsRow : OpenClaim := { program := "ytncenfgnhamdbab", sum := "1bdafb3ee7904692fddba9d605a9ba64c2c28b9f67ec6a0d0a5d5e72eb3d84bb", func := "tideline/tidelinelaw08.DeviceTwins", spec := "deviceTwins", unfollowed := true, recurses := true, apart := false }
def DeviceTwinsSaid : Prop := deviceTwinsRow.holds Try.pinned (OpenSpec.ofChange deviceTwinsSpec)

/-- ITS FALSE NEIGHBOUR: 'it returns false'. Refute it at one input. -/
def deviceTwinsWrong : ChangeSpec := { name := "deviceTwins", fn := fun _ => fun
  | [d1, d2] => { results := [.lit (.bool false)], args := [d1, d2] }
  | _ => none }
def DeviceTwinsWrongFalsely : Prop := deviceTwinsRow.holds Try.pinned (OpenSpec.ofChange deviceTwinsWrong)

/- THE SECOND FORM. 'bulk': how many values and letters a reading holds, each counted each time it is reached (what is shared counts as often as it is met; a slice's spare places count too). A statement '..UptoSaid' is the law's where the arguments, and the package variables that the reading takes, are together of bulk at most 1048576: NARROWER than '..Said'. Prove '..Said' where nothing that the law and all that it calls make is longer than what came in: it says more and counts as full. Else prove '..UptoSaid'. A law counts once. -/
mutual
def uptoBulk {H : Type} : DataW H → Nat
  | .lit (.string bytes) => bytes.length + 1
  | .lit _ => 1
  | .nil => 1
  | .ptr d => uptoBulk d + 1
  | .slice elems spare => uptoBulkAll elems + uptoBulkAll spare + 1
  | .agg parts => uptoBulkAll parts + 1
  | .iface _ d => uptoBulk d + 1
  | .map entries => uptoBulkEntries entries + 1
  | .held _ => 1
def uptoBulkAll {H : Type} : List (DataW H) → Nat
  | [] => 0
  | d :: r => uptoBulk d + uptoBulkAll r
def uptoBulkEntries {H : Type} : List (Lit × DataW H) → Nat
  | [] => 0
  | x :: r => uptoBulkEntry x + uptoBulkEntries r
def uptoBulkEntry {H : Type} : Lit × DataW H → Nat
  | (.string bytes, d) => bytes.length + uptoBulk d + 1
  | (_, d) => uptoBulk d + 1
 end
def uptoSmall : (H : Type) → List (DataW H) → Bool := fun _ ds => decide (uptoBulkAll ds ≤ 1048576)
def OpenSpec.upto (s : _root_.Go.ChangeSpec) : _root_.Go.OpenSpec := { _root_.Go.OpenSpec.ofChange s with cond := some uptoSmall }

/-- 'tidelinelaw08.DeviceFills', WHERE WHAT IT READS IS OF BULK AT MOST 1048576: true; the input reads as it did. -/
def deviceFillsUptoRow : OpenClaim := { program := "ytncenfgnhamdbab", sum := "1bdafb3ee7904692fddba9d605a9ba64c2c28b9f67ec6a0d0a5d5e72eb3d84bb", func := "tideline/tidelinelaw08.DeviceFills", spec := "deviceFills", unfollowed := true, recurses := true, apart := false, narrowed := true }
def DeviceFillsUptoSaid : Prop := deviceFillsUptoRow.holds Try.pinned (OpenSpec.upto deviceFillsSpec)

/-- 'tidelinelaw08.DeviceTwins', WHERE WHAT IT READS IS OF BULK AT MOST 1048576: true; the input reads as it did. -/
def deviceTwinsUptoRow : OpenClaim := { program := "ytncenfgnhamdbab", sum := "1bdafb3ee7904692fddba9d605a9ba64c2c28b9f67ec6a0d0a5d5e72eb3d84bb", func := "tideline/tidelinelaw08.DeviceTwins", spec := "deviceTwins", unfollowed := true, recurses := true, apart := false, narrowed := true }
def DeviceTwinsUptoSaid : Prop := deviceTwinsUptoRow.holds Try.pinned (OpenSpec.upto deviceTwinsSpec)

end Rows
end Go.Proofs.Ytncenfgnhamdbab
