/-
  No cell of these rows narrows 'for every input' (looked for: loops, veiled, ifaces, maps, wideKeys, modest, calm, conditions, laid).
  DERIVED. THE GIVEN ROWS OF THIS SEAT. 3 by the template 'for every input the law returns true; each argument reads behind the call as it read before'; 0 by the template 'total and deterministic' (their statements: YtidegcibmdincaaTotals.lean).
  GIVEN WITH THE SEED: the statements are not yours to turn. If you find one false, say at which input.
  Laid BY PROGRAM, IN A SANDBOX (cutbox-rows.mjs): the forced cells as the released guide's own fill.sh prints them over the translation 222c9ff98e12d4a7… (all of the seat's roots in one cut). By AI agents, Wed Nov 11 2026. No macro, syntax, notation, axiom, sorry.
-/
import Derived.Test.YtidegcibmdincaaChecked
import GoSem.Claim
import GoSem.ClaimJoined
import GoSem.ClaimMapViews
import Derived.JoinedTies
import Derived.KernelRfl
namespace Go.Proofs.Ytidegcibmdincaa
/- THE CELL 'sum', in the pinned program and in every row, IS THE sha256 OF THE DUMP (.gsa) THAT YtidegcibmdincaaProg.lean LOADS. Nothing in Lean hashes anything: it is a label: what it is worth is what the hold of that sum in a sandbox is worth. -/
noncomputable def Try.pinned : Pinned := { name := "ytidegcibmdincaa", sum := "222c9ff98e12d4a72bebee52b2e70bf89168252608966733a2eb82225164aa78", checked := Try.checked }
namespace Rows
def none {H : Type} : Left H := { results := [], args := [] }

/-- 'sindrilaw12.RelocSizes': WHATEVER THE INPUT: true; the input reads as it did. -/
def relocSizesSpec : ChangeSpec := { name := "relocSizes", fn := fun _ => fun
  | [d1, d2, d3, d4] => { results := [.lit (.bool true)], args := [d1, d2, d3, d4] }
  | _ => none }
def relocSizesRow : OpenClaim := { program := "ytidegcibmdincaa", sum := "222c9ff98e12d4a72bebee52b2e70bf89168252608966733a2eb82225164aa78", func := "sindri/sindrilaw12.RelocSizes", spec := "relocSizes", inPlace := ["internal/bytealg.IndexByteString"], unfollowed := true, recurses := true, plainKeys := false, apart := false }
def RelocSizesSaid : Prop := relocSizesRow.holds Try.pinned (OpenSpec.ofChange relocSizesSpec)

/-- ITS FALSE NEIGHBOUR: 'it returns false'. Refute it at one input. -/
def relocSizesWrong : ChangeSpec := { name := "relocSizes", fn := fun _ => fun
  | [d1, d2, d3, d4] => { results := [.lit (.bool false)], args := [d1, d2, d3, d4] }
  | _ => none }
def RelocSizesWrongFalsely : Prop := relocSizesRow.holds Try.pinned (OpenSpec.ofChange relocSizesWrong)

/-- 'sindrilaw12.RelocStays': WHATEVER THE INPUT: true; the input reads as it did. -/
def relocStaysSpec : ChangeSpec := { name := "relocStays", fn := fun _ => fun
  | [d1, d2, d3, d4] => { results := [.lit (.bool true)], args := [d1, d2, d3, d4] }
  | _ => none }
def relocStaysRow : OpenClaim := { program := "ytidegcibmdincaa", sum := "222c9ff98e12d4a72bebee52b2e70bf89168252608966733a2eb82225164aa78", func := "sindri/sindrilaw12.RelocStays", spec := "relocStays", inPlace := ["internal/bytealg.IndexByteString"], unfollowed := true, recurses := true, plainKeys := false, apart := false }
def RelocStaysSaid : Prop := relocStaysRow.holds Try.pinned (OpenSpec.ofChange relocStaysSpec)

/-- ITS FALSE NEIGHBOUR: 'it returns false'. Refute it at one input. -/
def relocStaysWrong : ChangeSpec := { name := "relocStays", fn := fun _ => fun
  | [d1, d2, d3, d4] => { results := [.lit (.bool false)], args := [d1, d2, d3, d4] }
  | _ => none }
def RelocStaysWrongFalsely : Prop := relocStaysRow.holds Try.pinned (OpenSpec.ofChange relocStaysWrong)

/-- 'sindrilaw12.RelocMoves': WHATEVER THE INPUT: true; the input reads as it did. -/
def relocMovesSpec : ChangeSpec := { name := "relocMoves", fn := fun _ => fun
  | [d1, d2, d3, d4, d5, d6] => { results := [.lit (.bool true)], args := [d1, d2, d3, d4, d5, d6] }
  | _ => none }
def relocMovesRow : OpenClaim := { program := "ytidegcibmdincaa", sum := "222c9ff98e12d4a72bebee52b2e70bf89168252608966733a2eb82225164aa78", func := "sindri/sindrilaw12.RelocMoves", spec := "relocMoves", inPlace := ["internal/bytealg.IndexByteString"], unfollowed := true, recurses := true, plainKeys := false, apart := false }
def RelocMovesSaid : Prop := relocMovesRow.holds Try.pinned (OpenSpec.ofChange relocMovesSpec)

/-- ITS FALSE NEIGHBOUR: 'it returns false'. Refute it at one input. -/
def relocMovesWrong : ChangeSpec := { name := "relocMoves", fn := fun _ => fun
  | [d1, d2, d3, d4, d5, d6] => { results := [.lit (.bool false)], args := [d1, d2, d3, d4, d5, d6] }
  | _ => none }
def RelocMovesWrongFalsely : Prop := relocMovesRow.holds Try.pinned (OpenSpec.ofChange relocMovesWrong)

/- THE SECOND FORM. 'bulk': how many values and letters a reading holds, each counted each time it is reached (what is shared counts as often as it is met; a slice's spare places count too). A statement '..UptoSaid' is the law's where the arguments, and the package variables that the reading takes, are together of bulk at most 1048576: NARROWER than '..Said'. Prove '..Said' where nothing that the law and all that it calls make is longer than what came in: it says more and counts as full. Else prove '..UptoSaid'. A law counts once. -/
mutual
def uptoBulk {H : Type} : DataW H → Nat
  | .lit (.string bytes) => bytes.length + 1
  | .lit _ => 1
  | .nil => 1
  | .ptr d => uptoBulk d + 1
  | .slice elems spare => uptoBulkAll elems + uptoBulkAll spare + 1
  | .agg parts => uptoBulkAll parts + 1
  | .iface _ d => uptoBulk d + 1
  | .map entries => uptoBulkEntries entries + 1
  | .held _ => 1
def uptoBulkAll {H : Type} : List (DataW H) → Nat
  | [] => 0
  | d :: r => uptoBulk d + uptoBulkAll r
def uptoBulkEntries {H : Type} : List (Lit × DataW H) → Nat
  | [] => 0
  | x :: r => uptoBulkEntry x + uptoBulkEntries r
def uptoBulkEntry {H : Type} : Lit × DataW H → Nat
  | (.string bytes, d) => bytes.length + uptoBulk d + 1
  | (_, d) => uptoBulk d + 1
 end
def uptoSmall : (H : Type) → List (DataW H) → Bool := fun _ ds => decide (uptoBulkAll ds ≤ 1048576)
def OpenSpec.upto (s : _root_.Go.ChangeSpec) : _root_.Go.OpenSpec := { _root_.Go.OpenSpec.ofChange s with cond := some uptoSmall }

/-- 'sindrilaw12.RelocSizes', WHERE WHAT IT READS IS OF BULK AT MOST 1048576: true; the input reads as it did. -/
def relocSizesUptoRow : OpenClaim := { program := "ytidegcibmdincaa", sum := "222c9ff98e12d4a72bebee52b2e70bf89168252608966733a2eb82225164aa78", func := "sindri/sindrilaw12.RelocSizes", spec := "relocSizes", inPlace := ["internal/bytealg.IndexByteString"], unfollowed := true, recurses := true, plainKeys := false, apart := false, narrowed := true }
def RelocSizesUptoSaid : Prop := relocSizesUptoRow.holds Try.pinned (OpenSpec.upto relocSizesSpec)

/-- 'sindrilaw12.RelocStays', WHERE WHAT IT READS IS OF BULK AT MOST 1048576: true; the input reads as it did. -/
def relocStaysUptoRow : OpenClaim := { program := "ytidegcibmdincaa", sum := "222c9ff98e12d4a72bebee52b2e70bf89168252608966733a2eb82225164aa78", func := "sindri/sindrilaw12.RelocStays", spec := "relocStays", inPlace := ["internal/bytealg.IndexByteString"], unfollowed := true, recurses := true, plainKeys := false, apart := false, narrowed := true }
def RelocStaysUptoSaid : Prop := relocStaysUptoRow.holds Try.pinned (OpenSpec.upto relocStaysSpec)

/-- 'sindrilaw12.RelocMoves', WHERE WHAT IT READS IS OF BULK AT MOST 1048576: true; the input reads as it did. -/
def relocMovesUptoRow : OpenClaim := { program := "ytidegcibmdincaa", sum := "222c9ff98e12d4a72bebee52b2e70bf89168252608966733a2eb82225164aa78", func := "sindri/sindrilaw12.RelocMoves", spec := "relocMoves", inPlace := ["internal/bytealg.IndexByteString"], unfollowed := true, recurses := true, plainKeys := false, apart := false, narrowed := true }
def RelocMovesUptoSaid : Prop := relocMovesUptoRow.holds Try.pinned (OpenSpec.upto relocMovesSpec)

end Rows
end Go.Proofs.Ytidegcibmdincaa
