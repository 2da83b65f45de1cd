/-
  No cell of these rows narrows 'for every input' (looked for: loops, veiled, ifaces, maps, wideKeys, modest, calm, conditions, laid).
  DERIVED. THE GIVEN ROWS OF THIS SEAT. 2 by the template 'for every input the law returns true; each argument reads behind the call as it read before'; 0 by the template 'total and deterministic' (their statements: YtpmndmbhkfbljaaTotals.lean).
  GIVEN WITH THE SEED: the statements are not yours to turn. If you find one false, say at which input.
  Laid BY PROGRAM, IN A SANDBOX (cutbox-rows.mjs): the forced cells as the released guide's own fill.sh prints them over the translation 4865362cf467820d… (all of the seat's roots in one cut). By AI agents, Wed Nov 11 2026. No macro, syntax, notation, axiom, sorry.
-/
import Derived.Test.YtpmndmbhkfbljaaChecked
import GoSem.Claim
import GoSem.ClaimJoined
import GoSem.ClaimMapViews
import Derived.JoinedTies
import Derived.KernelRfl
namespace Go.Proofs.Ytpmndmbhkfbljaa
/- THE CELL 'sum', in the pinned program and in every row, IS THE sha256 OF THE DUMP (.gsa) THAT YtpmndmbhkfbljaaProg.lean LOADS. Nothing in Lean hashes anything: it is a label: what it is worth is what the hold of that sum in a sandbox is worth. -/
noncomputable def Try.pinned : Pinned := { name := "ytpmndmbhkfbljaa", sum := "4865362cf467820d5ecb2eba10f53457f0bac58ddb8f9e2b244d7b049fb13741", checked := Try.checked }
namespace Rows
def none {H : Type} : Left H := { results := [], args := [] }

/-- 'sindrilaw13.AbbrevTakes': WHATEVER THE INPUT: true; the input reads as it did. -/
def abbrevTakesSpec : ChangeSpec := { name := "abbrevTakes", fn := fun _ => fun
  | [d1, d2] => { results := [.lit (.bool true)], args := [d1, d2] }
  | _ => none }
def abbrevTakesRow : OpenClaim := { program := "ytpmndmbhkfbljaa", sum := "4865362cf467820d5ecb2eba10f53457f0bac58ddb8f9e2b244d7b049fb13741", func := "sindri/sindrilaw13.AbbrevTakes", spec := "abbrevTakes", unfollowed := true, recurses := true, apart := false }
def AbbrevTakesSaid : Prop := abbrevTakesRow.holds Try.pinned (OpenSpec.ofChange abbrevTakesSpec)

/-- ITS FALSE NEIGHBOUR: 'it returns false'. Refute it at one input. -/
def abbrevTakesWrong : ChangeSpec := { name := "abbrevTakes", fn := fun _ => fun
  | [d1, d2] => { results := [.lit (.bool false)], args := [d1, d2] }
  | _ => none }
def AbbrevTakesWrongFalsely : Prop := abbrevTakesRow.holds Try.pinned (OpenSpec.ofChange abbrevTakesWrong)

/-- 'sindrilaw13.AbbrevPuts': WHATEVER THE INPUT: true; the input reads as it did. -/
def abbrevPutsSpec : ChangeSpec := { name := "abbrevPuts", fn := fun _ => fun
  | [d1, d2, d3] => { results := [.lit (.bool true)], args := [d1, d2, d3] }
  | _ => none }
def abbrevPutsRow : OpenClaim := { program := "ytpmndmbhkfbljaa", sum := "4865362cf467820d5ecb2eba10f53457f0bac58ddb8f9e2b244d7b049fb13741", func := "sindri/sindrilaw13.AbbrevPuts", spec := "abbrevPuts", unfollowed := true, recurses := true, apart := false }
def AbbrevPutsSaid : Prop := abbrevPutsRow.holds Try.pinned (OpenSpec.ofChange abbrevPutsSpec)

/-- ITS FALSE NEIGHBOUR: 'it returns false'. Refute it at one input. -/
def abbrevPutsWrong : ChangeSpec := { name := "abbrevPuts", fn := fun _ => fun
  | [d1, d2, d3] => { results := [.lit (.bool false)], args := [d1, d2, d3] }
  | _ => none }
def AbbrevPutsWrongFalsely : Prop := abbrevPutsRow.holds Try.pinned (OpenSpec.ofChange abbrevPutsWrong)

/- THE SECOND FORM. 'bulk': how many values and letters a reading holds, each counted each time it is reached (what is shared counts as often as it is met; a slice's spare places count too). A statement '..UptoSaid' is the law's where the arguments, and the package variables that the reading takes, are together of bulk at most 1048576: NARROWER than '..Said'. Prove '..Said' where nothing that the law and all that it calls make is longer than what came in: it says more and counts as full. Else prove '..UptoSaid'. A law counts once. -/
mutual
def uptoBulk {H : Type} : DataW H → Nat
  | .lit (.string bytes) => bytes.length + 1
  | .lit _ => 1
  | .nil => 1
  | .ptr d => uptoBulk d + 1
  | .slice elems spare => uptoBulkAll elems + uptoBulkAll spare + 1
  | .agg parts => uptoBulkAll parts + 1
  | .iface _ d => uptoBulk d + 1
  | .map entries => uptoBulkEntries entries + 1
  | .held _ => 1
def uptoBulkAll {H : Type} : List (DataW H) → Nat
  | [] => 0
  | d :: r => uptoBulk d + uptoBulkAll r
def uptoBulkEntries {H : Type} : List (Lit × DataW H) → Nat
  | [] => 0
  | x :: r => uptoBulkEntry x + uptoBulkEntries r
def uptoBulkEntry {H : Type} : Lit × DataW H → Nat
  | (.string bytes, d) => bytes.length + uptoBulk d + 1
  | (_, d) => uptoBulk d + 1
 end
def uptoSmall : (H : Type) → List (DataW H) → Bool := fun _ ds => decide (uptoBulkAll ds ≤ 1048576)
def OpenSpec.upto (s : _root_.Go.ChangeSpec) : _root_.Go.OpenSpec := { _root_.Go.OpenSpec.ofChange s with cond := some uptoSmall }

/-- 'sindrilaw13.AbbrevTakes', WHERE WHAT IT READS IS OF BULK AT MOST 1048576: true; the input reads as it did. -/
def abbrevTakesUptoRow : OpenClaim := { program := "ytpmndmbhkfbljaa", sum := "4865362cf467820d5ecb2eba10f53457f0bac58ddb8f9e2b244d7b049fb13741", func := "sindri/sindrilaw13.AbbrevTakes", spec := "abbrevTakes", unfollowed := true, recurses := true, apart := false, narrowed := true }
def AbbrevTakesUptoSaid : Prop := abbrevTakesUptoRow.holds Try.pinned (OpenSpec.upto abbrevTakesSpec)

/-- 'sindrilaw13.AbbrevPuts', WHERE WHAT IT READS IS OF BULK AT MOST 1048576: true; the input reads as it did. -/
def abbrevPutsUptoRow : OpenClaim := { program := "ytpmndmbhkfbljaa", sum := "4865362cf467820d5ecb2eba10f53457f0bac58ddb8f9e2b244d7b049fb13741", func := "sindri/sindrilaw13.AbbrevPuts", spec := "abbrevPuts", unfollowed := true, recurses := true, apart := false, narrowed := true }
def AbbrevPutsUptoSaid : Prop := abbrevPutsUptoRow.holds Try.pinned (OpenSpec.upto abbrevPutsSpec)

end Rows
end Go.Proofs.Ytpmndmbhkfbljaa
