/-
  NARROWER THAN 'FOR EVERY INPUT', by the rows' own cells (each row's printed sentence says how): SectsTakes: laid · SectsPuts: laid · SectsBack: laid.
  DERIVED. THE GIVEN ROWS OF THIS SEAT. 3 by the template 'for every input the law returns true; each argument reads behind the call as it read before'; 0 by the template 'total and deterministic' (their statements: YtpdjpafchfbabaaDoorTotals.lean).
  GIVEN WITH THE SEED: the statements are not yours to turn. If you find one false, say at which input.
  Laid BY PROGRAM, IN A SANDBOX (cutbox-rows.mjs): the forced cells as the released guide's own fill.sh prints them over the translation 410ca30c1bdbcb83… (all of the seat's roots in one cut). By AI agents, Wed Nov 11 2026. No macro, syntax, notation, axiom, sorry.
-/
import Derived.Test.YtpdjpafchfbabaaDoorChecked
import GoSem.Claim
import GoSem.ClaimJoined
import GoSem.ClaimMapViews
import Derived.JoinedTies
import Derived.KernelRfl
namespace Go.Proofs.YtpdjpafchfbabaaDoor
/- THE CELL 'sum', in the pinned program and in every row, IS THE sha256 OF THE DUMP (.gsa) THAT YtpdjpafchfbabaaDoorProg.lean LOADS. Nothing in Lean hashes anything: it is a label: what it is worth is what the hold of that sum in a sandbox is worth. -/
noncomputable def Tryd.pinned : Pinned := { name := "ytpdjpafchfbabaadoor", sum := "410ca30c1bdbcb83f8015ed89d8f203d2ef353fd67b4cbdf1fc2a40869afbad6", checked := Tryd.checked }
namespace Rows
def none {H : Type} : Left H := { results := [], args := [] }

/- WHAT THE LISTED PACKAGE-LEVEL VARIABLES READ AS WHEN THE CALL BEGINS. Each datum BY PROGRAM (the guide's laid-datum.mjs) off the statement by which the dump's own 'gosem.cut.vars' lays the variable. In a bare row this is a premise. The card (YtpdjpafchfbabaaDoorCards.lean) ties it to the program's text. -/
def laid_sindri_elfhead_magic {H : Type} : DataW H := .agg [.lit (.int .u8 127), .lit (.int .u8 69), .lit (.int .u8 76), .lit (.int .u8 70), .lit (.int .u8 2), .lit (.int .u8 1), .lit (.int .u8 1)]

/-- 'sindrilaw07.SectsTakes': WHATEVER THE INPUT: true; the input reads as it did. -/
def sectsTakesSpec : ChangeSpec := { name := "sectsTakes", fn := fun _ => fun
  | [d] => { results := [.lit (.bool true)], args := [d] }
  | _ => none }
def sectsTakesRow : OpenClaim := { program := "ytpdjpafchfbabaadoor", sum := "410ca30c1bdbcb83f8015ed89d8f203d2ef353fd67b4cbdf1fc2a40869afbad6", func := "sindri/sindrilaw07.SectsTakes", spec := "sectsTakes", inPlace := ["internal/bytealg.IndexByteString", "internal/bytealg.Count", "internal/bytealg.IndexByte", "internal/bytealg.Index", "internal/bytealg.IndexString"], unfollowed := true, recurses := true, named := ["internal/bytealg.MaxLen", "sindri/elfhead.magic"], apart := false, laid := [("sindri/elfhead.magic", laid_sindri_elfhead_magic)] }
def SectsTakesSaid : Prop := sectsTakesRow.holds Tryd.pinned (OpenSpec.ofChange sectsTakesSpec)

/-- ITS FALSE NEIGHBOUR: 'it returns false'. Refute it at one input. -/
def sectsTakesWrong : ChangeSpec := { name := "sectsTakes", fn := fun _ => fun
  | [d] => { results := [.lit (.bool false)], args := [d] }
  | _ => none }
def SectsTakesWrongFalsely : Prop := sectsTakesRow.holds Tryd.pinned (OpenSpec.ofChange sectsTakesWrong)

/-- 'sindrilaw07.SectsPuts': WHATEVER THE INPUT: true; the input reads as it did. -/
def sectsPutsSpec : ChangeSpec := { name := "sectsPuts", fn := fun _ => fun
  | [d1, d2, d3, d4] => { results := [.lit (.bool true)], args := [d1, d2, d3, d4] }
  | _ => none }
def sectsPutsRow : OpenClaim := { program := "ytpdjpafchfbabaadoor", sum := "410ca30c1bdbcb83f8015ed89d8f203d2ef353fd67b4cbdf1fc2a40869afbad6", func := "sindri/sindrilaw07.SectsPuts", spec := "sectsPuts", inPlace := ["internal/bytealg.IndexByteString", "internal/bytealg.Count", "internal/bytealg.IndexByte", "internal/bytealg.Index", "internal/bytealg.IndexString"], unfollowed := true, recurses := true, named := ["internal/bytealg.MaxLen", "sindri/elfhead.magic"], apart := false, laid := [("sindri/elfhead.magic", laid_sindri_elfhead_magic)] }
def SectsPutsSaid : Prop := sectsPutsRow.holds Tryd.pinned (OpenSpec.ofChange sectsPutsSpec)

/-- ITS FALSE NEIGHBOUR: 'it returns false'. Refute it at one input. -/
def sectsPutsWrong : ChangeSpec := { name := "sectsPuts", fn := fun _ => fun
  | [d1, d2, d3, d4] => { results := [.lit (.bool false)], args := [d1, d2, d3, d4] }
  | _ => none }
def SectsPutsWrongFalsely : Prop := sectsPutsRow.holds Tryd.pinned (OpenSpec.ofChange sectsPutsWrong)

/-- 'sindrilaw07.SectsBack': WHATEVER THE INPUT: true; the input reads as it did. -/
def sectsBackSpec : ChangeSpec := { name := "sectsBack", fn := fun _ => fun
  | [d1, d2, d3] => { results := [.lit (.bool true)], args := [d1, d2, d3] }
  | _ => none }
def sectsBackRow : OpenClaim := { program := "ytpdjpafchfbabaadoor", sum := "410ca30c1bdbcb83f8015ed89d8f203d2ef353fd67b4cbdf1fc2a40869afbad6", func := "sindri/sindrilaw07.SectsBack", spec := "sectsBack", inPlace := ["internal/bytealg.IndexByteString", "internal/bytealg.Count", "internal/bytealg.IndexByte", "internal/bytealg.Index", "internal/bytealg.IndexString"], unfollowed := true, recurses := true, named := ["internal/bytealg.MaxLen", "sindri/elfhead.magic"], apart := false, laid := [("sindri/elfhead.magic", laid_sindri_elfhead_magic)] }
def SectsBackSaid : Prop := sectsBackRow.holds Tryd.pinned (OpenSpec.ofChange sectsBackSpec)

/-- ITS FALSE NEIGHBOUR: 'it returns false'. Refute it at one input. -/
def sectsBackWrong : ChangeSpec := { name := "sectsBack", fn := fun _ => fun
  | [d1, d2, d3] => { results := [.lit (.bool false)], args := [d1, d2, d3] }
  | _ => none }
def SectsBackWrongFalsely : Prop := sectsBackRow.holds Tryd.pinned (OpenSpec.ofChange sectsBackWrong)

/- THE SECOND FORM. 'bulk': how many values and letters a reading holds, each counted each time it is reached (what is shared counts as often as it is met; a slice's spare places count too). A statement '..UptoSaid' is the law's where the arguments, and the package variables that the reading takes, are together of bulk at most 1048576: NARROWER than '..Said'. Prove '..Said' where nothing that the law and all that it calls make is longer than what came in: it says more and counts as full. Else prove '..UptoSaid'. A law counts once. -/
mutual
def uptoBulk {H : Type} : DataW H → Nat
  | .lit (.string bytes) => bytes.length + 1
  | .lit _ => 1
  | .nil => 1
  | .ptr d => uptoBulk d + 1
  | .slice elems spare => uptoBulkAll elems + uptoBulkAll spare + 1
  | .agg parts => uptoBulkAll parts + 1
  | .iface _ d => uptoBulk d + 1
  | .map entries => uptoBulkEntries entries + 1
  | .held _ => 1
def uptoBulkAll {H : Type} : List (DataW H) → Nat
  | [] => 0
  | d :: r => uptoBulk d + uptoBulkAll r
def uptoBulkEntries {H : Type} : List (Lit × DataW H) → Nat
  | [] => 0
  | x :: r => uptoBulkEntry x + uptoBulkEntries r
def uptoBulkEntry {H : Type} : Lit × DataW H → Nat
  | (.string bytes, d) => bytes.length + uptoBulk d + 1
  | (_, d) => uptoBulk d + 1
 end
def uptoSmall : (H : Type) → List (DataW H) → Bool := fun _ ds => decide (uptoBulkAll ds ≤ 1048576)
def OpenSpec.upto (s : _root_.Go.ChangeSpec) : _root_.Go.OpenSpec := { _root_.Go.OpenSpec.ofChange s with cond := some uptoSmall }

/-- 'sindrilaw07.SectsTakes', WHERE WHAT IT READS IS OF BULK AT MOST 1048576: true; the input reads as it did. -/
def sectsTakesUptoRow : OpenClaim := { program := "ytpdjpafchfbabaadoor", sum := "410ca30c1bdbcb83f8015ed89d8f203d2ef353fd67b4cbdf1fc2a40869afbad6", func := "sindri/sindrilaw07.SectsTakes", spec := "sectsTakes", inPlace := ["internal/bytealg.IndexByteString", "internal/bytealg.Count", "internal/bytealg.IndexByte", "internal/bytealg.Index", "internal/bytealg.IndexString"], unfollowed := true, recurses := true, named := ["internal/bytealg.MaxLen", "sindri/elfhead.magic"], apart := false, laid := [("sindri/elfhead.magic", laid_sindri_elfhead_magic)], narrowed := true }
def SectsTakesUptoSaid : Prop := sectsTakesUptoRow.holds Tryd.pinned (OpenSpec.upto sectsTakesSpec)

/-- 'sindrilaw07.SectsPuts', WHERE WHAT IT READS IS OF BULK AT MOST 1048576: true; the input reads as it did. -/
def sectsPutsUptoRow : OpenClaim := { program := "ytpdjpafchfbabaadoor", sum := "410ca30c1bdbcb83f8015ed89d8f203d2ef353fd67b4cbdf1fc2a40869afbad6", func := "sindri/sindrilaw07.SectsPuts", spec := "sectsPuts", inPlace := ["internal/bytealg.IndexByteString", "internal/bytealg.Count", "internal/bytealg.IndexByte", "internal/bytealg.Index", "internal/bytealg.IndexString"], unfollowed := true, recurses := true, named := ["internal/bytealg.MaxLen", "sindri/elfhead.magic"], apart := false, laid := [("sindri/elfhead.magic", laid_sindri_elfhead_magic)], narrowed := true }
def SectsPutsUptoSaid : Prop := sectsPutsUptoRow.holds Tryd.pinned (OpenSpec.upto sectsPutsSpec)

/-- 'sindrilaw07.SectsBack', WHERE WHAT IT READS IS OF BULK AT MOST 1048576: true; the input reads as it did. -/
def sectsBackUptoRow : OpenClaim := { program := "ytpdjpafchfbabaadoor", sum := "410ca30c1bdbcb83f8015ed89d8f203d2ef353fd67b4cbdf1fc2a40869afbad6", func := "sindri/sindrilaw07.SectsBack", spec := "sectsBack", inPlace := ["internal/bytealg.IndexByteString", "internal/bytealg.Count", "internal/bytealg.IndexByte", "internal/bytealg.Index", "internal/bytealg.IndexString"], unfollowed := true, recurses := true, named := ["internal/bytealg.MaxLen", "sindri/elfhead.magic"], apart := false, laid := [("sindri/elfhead.magic", laid_sindri_elfhead_magic)], narrowed := true }
def SectsBackUptoSaid : Prop := sectsBackUptoRow.holds Tryd.pinned (OpenSpec.upto sectsBackSpec)

end Rows
end Go.Proofs.YtpdjpafchfbabaaDoor
