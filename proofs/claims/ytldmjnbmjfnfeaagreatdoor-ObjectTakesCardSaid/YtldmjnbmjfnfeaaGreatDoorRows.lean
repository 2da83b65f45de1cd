/-
  NARROWER THAN 'FOR EVERY INPUT', by the rows' own cells (each row's printed sentence says how): ObjectTakes: laid · ObjectPuts: laid · ObjectBack: laid.
  DERIVED. THE GIVEN ROWS OF THIS SEAT. 3 by the template 'for every input the law returns true; each argument reads behind the call as it read before'; 0 by the template 'total and deterministic' (their statements: YtldmjnbmjfnfeaaGreatDoorTotals.lean).
  GIVEN WITH THE SEED: the statements are not yours to turn. If you find one false, say at which input.
  Laid BY PROGRAM, IN A SANDBOX (cutbox-rows.mjs): the forced cells as the released guide's own fill.sh prints them over the translation 9d4cc861fc67b5ff… (all of the seat's roots in one cut). By AI agents, Wed Nov 11 2026. No macro, syntax, notation, axiom, sorry.
-/
import Derived.Test.YtldmjnbmjfnfeaaGreatDoorChecked
import GoSem.Claim
import GoSem.ClaimJoined
import GoSem.ClaimMapViews
import Derived.JoinedTies
import Derived.KernelRfl
namespace Go.Proofs.YtldmjnbmjfnfeaaGreatDoor
/- THE CELL 'sum', in the pinned program and in every row, IS THE sha256 OF THE DUMP (.gsa) THAT YtldmjnbmjfnfeaaGreatDoorProg.lean LOADS. Nothing in Lean hashes anything: it is a label: what it is worth is what the hold of that sum in a sandbox is worth. -/
noncomputable def Tryz.pinned : Pinned := { name := "ytldmjnbmjfnfeaagreatdoor", sum := "9d4cc861fc67b5ffe764776eb77c7df63be8e00f7710b77db3a76f88b5ca960f", checked := Tryz.checked }
namespace Rows
def none {H : Type} : Left H := { results := [], args := [] }

/- WHAT THE LISTED PACKAGE-LEVEL VARIABLES READ AS WHEN THE CALL BEGINS. Each datum BY PROGRAM (the guide's laid-datum.mjs) off the statement by which the dump's own 'gosem.cut.vars' lays the variable. In a bare row this is a premise. The card (YtldmjnbmjfnfeaaGreatDoorCards.lean) ties it to the program's text. -/
def laid_sindri_elfhead_magic {H : Type} : DataW H := .agg [.lit (.int .u8 127), .lit (.int .u8 69), .lit (.int .u8 76), .lit (.int .u8 70), .lit (.int .u8 2), .lit (.int .u8 1), .lit (.int .u8 1)]

/-- 'sindrilaw09.ObjectTakes': WHATEVER THE INPUT: true; the input reads as it did. -/
def objectTakesSpec : ChangeSpec := { name := "objectTakes", fn := fun _ => fun
  | [d] => { results := [.lit (.bool true)], args := [d] }
  | _ => none }
def objectTakesRow : OpenClaim := { program := "ytldmjnbmjfnfeaagreatdoor", sum := "9d4cc861fc67b5ffe764776eb77c7df63be8e00f7710b77db3a76f88b5ca960f", func := "sindri/sindrilaw09.ObjectTakes", spec := "objectTakes", inPlace := ["internal/bytealg.IndexByteString", "internal/bytealg.Count", "internal/bytealg.IndexByte", "internal/bytealg.Index", "internal/bytealg.IndexString"], unfollowed := true, recurses := true, named := ["internal/bytealg.MaxLen", "sindri/elfhead.magic"], apart := false, laid := [("sindri/elfhead.magic", laid_sindri_elfhead_magic)] }
def ObjectTakesSaid : Prop := objectTakesRow.holds Tryz.pinned (OpenSpec.ofChange objectTakesSpec)

/-- ITS FALSE NEIGHBOUR: 'it returns false'. Refute it at one input. -/
def objectTakesWrong : ChangeSpec := { name := "objectTakes", fn := fun _ => fun
  | [d] => { results := [.lit (.bool false)], args := [d] }
  | _ => none }
def ObjectTakesWrongFalsely : Prop := objectTakesRow.holds Tryz.pinned (OpenSpec.ofChange objectTakesWrong)

/-- 'sindrilaw09.ObjectPuts': WHATEVER THE INPUT: true; the input reads as it did. -/
def objectPutsSpec : ChangeSpec := { name := "objectPuts", fn := fun _ => fun
  | [d1, d2] => { results := [.lit (.bool true)], args := [d1, d2] }
  | _ => none }
def objectPutsRow : OpenClaim := { program := "ytldmjnbmjfnfeaagreatdoor", sum := "9d4cc861fc67b5ffe764776eb77c7df63be8e00f7710b77db3a76f88b5ca960f", func := "sindri/sindrilaw09.ObjectPuts", spec := "objectPuts", inPlace := ["internal/bytealg.IndexByteString", "internal/bytealg.Count", "internal/bytealg.IndexByte", "internal/bytealg.Index", "internal/bytealg.IndexString"], unfollowed := true, recurses := true, named := ["internal/bytealg.MaxLen", "sindri/elfhead.magic"], apart := false, laid := [("sindri/elfhead.magic", laid_sindri_elfhead_magic)] }
def ObjectPutsSaid : Prop := objectPutsRow.holds Tryz.pinned (OpenSpec.ofChange objectPutsSpec)

/-- ITS FALSE NEIGHBOUR: 'it returns false'. Refute it at one input. -/
def objectPutsWrong : ChangeSpec := { name := "objectPuts", fn := fun _ => fun
  | [d1, d2] => { results := [.lit (.bool false)], args := [d1, d2] }
  | _ => none }
def ObjectPutsWrongFalsely : Prop := objectPutsRow.holds Tryz.pinned (OpenSpec.ofChange objectPutsWrong)

/-- 'sindrilaw09.ObjectBack': WHATEVER THE INPUT: true; the input reads as it did. -/
def objectBackSpec : ChangeSpec := { name := "objectBack", fn := fun _ => fun
  | [d] => { results := [.lit (.bool true)], args := [d] }
  | _ => none }
def objectBackRow : OpenClaim := { program := "ytldmjnbmjfnfeaagreatdoor", sum := "9d4cc861fc67b5ffe764776eb77c7df63be8e00f7710b77db3a76f88b5ca960f", func := "sindri/sindrilaw09.ObjectBack", spec := "objectBack", inPlace := ["internal/bytealg.IndexByteString", "internal/bytealg.Count", "internal/bytealg.IndexByte", "internal/bytealg.Index", "internal/bytealg.IndexString"], unfollowed := true, recurses := true, named := ["internal/bytealg.MaxLen", "sindri/elfhead.magic"], apart := false, laid := [("sindri/elfhead.magic", laid_sindri_elfhead_magic)] }
def ObjectBackSaid : Prop := objectBackRow.holds Tryz.pinned (OpenSpec.ofChange objectBackSpec)

/-- ITS FALSE NEIGHBOUR: 'it returns false'. Refute it at one input. -/
def objectBackWrong : ChangeSpec := { name := "objectBack", fn := fun _ => fun
  | [d] => { results := [.lit (.bool false)], args := [d] }
  | _ => none }
def ObjectBackWrongFalsely : Prop := objectBackRow.holds Tryz.pinned (OpenSpec.ofChange objectBackWrong)

/- THE SECOND FORM. 'bulk': how many values and letters a reading holds, each counted each time it is reached (what is shared counts as often as it is met; a slice's spare places count too). A statement '..UptoSaid' is the law's where the arguments, and the package variables that the reading takes, are together of bulk at most 1048576: NARROWER than '..Said'. Prove '..Said' where nothing that the law and all that it calls make is longer than what came in: it says more and counts as full. Else prove '..UptoSaid'. A law counts once. -/
mutual
def uptoBulk {H : Type} : DataW H → Nat
  | .lit (.string bytes) => bytes.length + 1
  | .lit _ => 1
  | .nil => 1
  | .ptr d => uptoBulk d + 1
  | .slice elems spare => uptoBulkAll elems + uptoBulkAll spare + 1
  | .agg parts => uptoBulkAll parts + 1
  | .iface _ d => uptoBulk d + 1
  | .map entries => uptoBulkEntries entries + 1
  | .held _ => 1
def uptoBulkAll {H : Type} : List (DataW H) → Nat
  | [] => 0
  | d :: r => uptoBulk d + uptoBulkAll r
def uptoBulkEntries {H : Type} : List (Lit × DataW H) → Nat
  | [] => 0
  | x :: r => uptoBulkEntry x + uptoBulkEntries r
def uptoBulkEntry {H : Type} : Lit × DataW H → Nat
  | (.string bytes, d) => bytes.length + uptoBulk d + 1
  | (_, d) => uptoBulk d + 1
 end
def uptoSmall : (H : Type) → List (DataW H) → Bool := fun _ ds => decide (uptoBulkAll ds ≤ 1048576)
def OpenSpec.upto (s : _root_.Go.ChangeSpec) : _root_.Go.OpenSpec := { _root_.Go.OpenSpec.ofChange s with cond := some uptoSmall }

/-- 'sindrilaw09.ObjectTakes', WHERE WHAT IT READS IS OF BULK AT MOST 1048576: true; the input reads as it did. -/
def objectTakesUptoRow : OpenClaim := { program := "ytldmjnbmjfnfeaagreatdoor", sum := "9d4cc861fc67b5ffe764776eb77c7df63be8e00f7710b77db3a76f88b5ca960f", func := "sindri/sindrilaw09.ObjectTakes", spec := "objectTakes", inPlace := ["internal/bytealg.IndexByteString", "internal/bytealg.Count", "internal/bytealg.IndexByte", "internal/bytealg.Index", "internal/bytealg.IndexString"], unfollowed := true, recurses := true, named := ["internal/bytealg.MaxLen", "sindri/elfhead.magic"], apart := false, laid := [("sindri/elfhead.magic", laid_sindri_elfhead_magic)], narrowed := true }
def ObjectTakesUptoSaid : Prop := objectTakesUptoRow.holds Tryz.pinned (OpenSpec.upto objectTakesSpec)

/-- 'sindrilaw09.ObjectPuts', WHERE WHAT IT READS IS OF BULK AT MOST 1048576: true; the input reads as it did. -/
def objectPutsUptoRow : OpenClaim := { program := "ytldmjnbmjfnfeaagreatdoor", sum := "9d4cc861fc67b5ffe764776eb77c7df63be8e00f7710b77db3a76f88b5ca960f", func := "sindri/sindrilaw09.ObjectPuts", spec := "objectPuts", inPlace := ["internal/bytealg.IndexByteString", "internal/bytealg.Count", "internal/bytealg.IndexByte", "internal/bytealg.Index", "internal/bytealg.IndexString"], unfollowed := true, recurses := true, named := ["internal/bytealg.MaxLen", "sindri/elfhead.magic"], apart := false, laid := [("sindri/elfhead.magic", laid_sindri_elfhead_magic)], narrowed := true }
def ObjectPutsUptoSaid : Prop := objectPutsUptoRow.holds Tryz.pinned (OpenSpec.upto objectPutsSpec)

/-- 'sindrilaw09.ObjectBack', WHERE WHAT IT READS IS OF BULK AT MOST 1048576: true; the input reads as it did. -/
def objectBackUptoRow : OpenClaim := { program := "ytldmjnbmjfnfeaagreatdoor", sum := "9d4cc861fc67b5ffe764776eb77c7df63be8e00f7710b77db3a76f88b5ca960f", func := "sindri/sindrilaw09.ObjectBack", spec := "objectBack", inPlace := ["internal/bytealg.IndexByteString", "internal/bytealg.Count", "internal/bytealg.IndexByte", "internal/bytealg.Index", "internal/bytealg.IndexString"], unfollowed := true, recurses := true, named := ["internal/bytealg.MaxLen", "sindri/elfhead.magic"], apart := false, laid := [("sindri/elfhead.magic", laid_sindri_elfhead_magic)], narrowed := true }
def ObjectBackUptoSaid : Prop := objectBackUptoRow.holds Tryz.pinned (OpenSpec.upto objectBackSpec)

end Rows
end Go.Proofs.YtldmjnbmjfnfeaaGreatDoor
