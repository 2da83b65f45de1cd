/-
  NARROWER THAN 'FOR EVERY INPUT', by the rows' own cells (each row's printed sentence says how): LinkmapAsks: laid · LinkmapOrders: laid · UnitAll: laid · UnitPuts: laid · UnitBack: laid.
  DERIVED. THE GIVEN ROWS OF THIS SEAT. 5 by the template 'for every input the law returns true; each argument reads behind the call as it read before'; 0 by the template 'total and deterministic' (their statements: YtelmfhpefnemfaaDoorTotals.lean).
  GIVEN WITH THE SEED: the statements are not yours to turn. If you find one false, say at which input.
  Laid BY PROGRAM, IN A SANDBOX (cutbox-rows.mjs): the forced cells as the released guide's own fill.sh prints them over the translation 838b7448c52cff96… (all of the seat's roots in one cut). By AI agents, Wed Nov 11 2026. No macro, syntax, notation, axiom, sorry.
-/
import Derived.Test.YtelmfhpefnemfaaDoorChecked
import GoSem.Claim
import GoSem.ClaimJoined
import GoSem.ClaimMapViews
import Derived.JoinedTies
import Derived.KernelRfl
namespace Go.Proofs.YtelmfhpefnemfaaDoor
/- THE CELL 'sum', in the pinned program and in every row, IS THE sha256 OF THE DUMP (.gsa) THAT YtelmfhpefnemfaaDoorProg.lean LOADS. Nothing in Lean hashes anything: it is a label: what it is worth is what the hold of that sum in a sandbox is worth. -/
noncomputable def Tryd.pinned : Pinned := { name := "ytelmfhpefnemfaadoor", sum := "838b7448c52cff964b6017ae325d6a3fc49ea73a2cfb026f601a04da49ccd4c0", checked := Tryd.checked }
namespace Rows
def none {H : Type} : Left H := { results := [], args := [] }

/- WHAT THE LISTED PACKAGE-LEVEL VARIABLES READ AS WHEN THE CALL BEGINS. Each datum BY PROGRAM (the guide's laid-datum.mjs) off the statement by which the dump's own 'gosem.cut.vars' lays the variable. In a bare row this is a premise. The card (YtelmfhpefnemfaaDoorCards.lean) ties it to the program's text. -/
def laid_math_bits_deBruijn32tab {H : Type} : DataW H := .agg [.lit (.int .u8 0), .lit (.int .u8 1), .lit (.int .u8 28), .lit (.int .u8 2), .lit (.int .u8 29), .lit (.int .u8 14), .lit (.int .u8 24), .lit (.int .u8 3), .lit (.int .u8 30), .lit (.int .u8 22), .lit (.int .u8 20), .lit (.int .u8 15), .lit (.int .u8 25), .lit (.int .u8 17), .lit (.int .u8 4), .lit (.int .u8 8), .lit (.int .u8 31), .lit (.int .u8 27), .lit (.int .u8 13), .lit (.int .u8 23), .lit (.int .u8 21), .lit (.int .u8 19), .lit (.int .u8 16), .lit (.int .u8 7), .lit (.int .u8 26), .lit (.int .u8 12), .lit (.int .u8 18), .lit (.int .u8 6), .lit (.int .u8 11), .lit (.int .u8 5), .lit (.int .u8 10), .lit (.int .u8 9)]
def laid_math_bits_deBruijn64tab {H : Type} : DataW H := .agg [.lit (.int .u8 0), .lit (.int .u8 1), .lit (.int .u8 56), .lit (.int .u8 2), .lit (.int .u8 57), .lit (.int .u8 49), .lit (.int .u8 28), .lit (.int .u8 3), .lit (.int .u8 61), .lit (.int .u8 58), .lit (.int .u8 42), .lit (.int .u8 50), .lit (.int .u8 38), .lit (.int .u8 29), .lit (.int .u8 17), .lit (.int .u8 4), .lit (.int .u8 62), .lit (.int .u8 47), .lit (.int .u8 59), .lit (.int .u8 36), .lit (.int .u8 45), .lit (.int .u8 43), .lit (.int .u8 51), .lit (.int .u8 22), .lit (.int .u8 53), .lit (.int .u8 39), .lit (.int .u8 33), .lit (.int .u8 30), .lit (.int .u8 24), .lit (.int .u8 18), .lit (.int .u8 12), .lit (.int .u8 5), .lit (.int .u8 63), .lit (.int .u8 55), .lit (.int .u8 48), .lit (.int .u8 27), .lit (.int .u8 60), .lit (.int .u8 41), .lit (.int .u8 37), .lit (.int .u8 16), .lit (.int .u8 46), .lit (.int .u8 35), .lit (.int .u8 44), .lit (.int .u8 21), .lit (.int .u8 52), .lit (.int .u8 32), .lit (.int .u8 23), .lit (.int .u8 11), .lit (.int .u8 54), .lit (.int .u8 26), .lit (.int .u8 40), .lit (.int .u8 15), .lit (.int .u8 34), .lit (.int .u8 20), .lit (.int .u8 31), .lit (.int .u8 10), .lit (.int .u8 25), .lit (.int .u8 14), .lit (.int .u8 19), .lit (.int .u8 9), .lit (.int .u8 13), .lit (.int .u8 8), .lit (.int .u8 7), .lit (.int .u8 6)]
def laid_internal_strconv_uint64pow10 {H : Type} : DataW H := .agg [.lit (.int .u64 1), .lit (.int .u64 10), .lit (.int .u64 100), .lit (.int .u64 1000), .lit (.int .u64 10000), .lit (.int .u64 100000), .lit (.int .u64 1000000), .lit (.int .u64 10000000), .lit (.int .u64 100000000), .lit (.int .u64 1000000000), .lit (.int .u64 10000000000), .lit (.int .u64 100000000000), .lit (.int .u64 1000000000000), .lit (.int .u64 10000000000000), .lit (.int .u64 100000000000000), .lit (.int .u64 1000000000000000), .lit (.int .u64 10000000000000000), .lit (.int .u64 100000000000000000), .lit (.int .u64 1000000000000000000), .lit (.int .u64 10000000000000000000)]
def laid_sindri_length_sizes {H : Type} : DataW H := .agg [.lit (.int .i64 4), .lit (.int .i64 8)]

/-- 'sindrilaw11.LinkmapAsks': WHATEVER THE INPUT: true; the input reads as it did. -/
def linkmapAsksSpec : ChangeSpec := { name := "linkmapAsks", fn := fun _ => fun
  | [d1, d2, d3, d4, d5] => { results := [.lit (.bool true)], args := [d1, d2, d3, d4, d5] }
  | _ => none }
def linkmapAsksRow : OpenClaim := { program := "ytelmfhpefnemfaadoor", sum := "838b7448c52cff964b6017ae325d6a3fc49ea73a2cfb026f601a04da49ccd4c0", func := "sindri/sindrilaw11.LinkmapAsks", spec := "linkmapAsks", inPlace := ["internal/bytealg.IndexByteString", "internal/abi.NoEscape", "internal/bytealg.MakeNoZero"], unfollowed := true, recurses := true, named := ["internal/strconv.uint64pow10", "math/bits.deBruijn32tab", "math/bits.deBruijn64tab"], plainKeys := false, apart := false, laid := [("math/bits.deBruijn32tab", laid_math_bits_deBruijn32tab), ("math/bits.deBruijn64tab", laid_math_bits_deBruijn64tab), ("internal/strconv.uint64pow10", laid_internal_strconv_uint64pow10)] }
def LinkmapAsksSaid : Prop := linkmapAsksRow.holds Tryd.pinned (OpenSpec.ofChange linkmapAsksSpec)

/-- ITS FALSE NEIGHBOUR: 'it returns false'. Refute it at one input. -/
def linkmapAsksWrong : ChangeSpec := { name := "linkmapAsks", fn := fun _ => fun
  | [d1, d2, d3, d4, d5] => { results := [.lit (.bool false)], args := [d1, d2, d3, d4, d5] }
  | _ => none }
def LinkmapAsksWrongFalsely : Prop := linkmapAsksRow.holds Tryd.pinned (OpenSpec.ofChange linkmapAsksWrong)

/-- 'sindrilaw11.LinkmapOrders': WHATEVER THE INPUT: true; the input reads as it did. -/
def linkmapOrdersSpec : ChangeSpec := { name := "linkmapOrders", fn := fun _ => fun
  | [d1, d2, d3, d4, d5] => { results := [.lit (.bool true)], args := [d1, d2, d3, d4, d5] }
  | _ => none }
def linkmapOrdersRow : OpenClaim := { program := "ytelmfhpefnemfaadoor", sum := "838b7448c52cff964b6017ae325d6a3fc49ea73a2cfb026f601a04da49ccd4c0", func := "sindri/sindrilaw11.LinkmapOrders", spec := "linkmapOrders", inPlace := ["internal/bytealg.IndexByteString", "internal/abi.NoEscape", "internal/bytealg.MakeNoZero"], unfollowed := true, recurses := true, named := ["internal/strconv.uint64pow10", "math/bits.deBruijn32tab", "math/bits.deBruijn64tab"], plainKeys := false, apart := false, laid := [("math/bits.deBruijn32tab", laid_math_bits_deBruijn32tab), ("math/bits.deBruijn64tab", laid_math_bits_deBruijn64tab), ("internal/strconv.uint64pow10", laid_internal_strconv_uint64pow10)] }
def LinkmapOrdersSaid : Prop := linkmapOrdersRow.holds Tryd.pinned (OpenSpec.ofChange linkmapOrdersSpec)

/-- ITS FALSE NEIGHBOUR: 'it returns false'. Refute it at one input. -/
def linkmapOrdersWrong : ChangeSpec := { name := "linkmapOrders", fn := fun _ => fun
  | [d1, d2, d3, d4, d5] => { results := [.lit (.bool false)], args := [d1, d2, d3, d4, d5] }
  | _ => none }
def LinkmapOrdersWrongFalsely : Prop := linkmapOrdersRow.holds Tryd.pinned (OpenSpec.ofChange linkmapOrdersWrong)

/-- 'sindrilaw15.UnitAll': WHATEVER THE INPUT: true; the input reads as it did. -/
def unitAllSpec : ChangeSpec := { name := "unitAll", fn := fun _ => fun
  | [d1, d2] => { results := [.lit (.bool true)], args := [d1, d2] }
  | _ => none }
def unitAllRow : OpenClaim := { program := "ytelmfhpefnemfaadoor", sum := "838b7448c52cff964b6017ae325d6a3fc49ea73a2cfb026f601a04da49ccd4c0", func := "sindri/sindrilaw15.UnitAll", spec := "unitAll", unfollowed := true, recurses := true, named := ["sindri/length.sizes"], plainKeys := false, apart := false, laid := [("sindri/length.sizes", laid_sindri_length_sizes)] }
def UnitAllSaid : Prop := unitAllRow.holds Tryd.pinned (OpenSpec.ofChange unitAllSpec)

/-- ITS FALSE NEIGHBOUR: 'it returns false'. Refute it at one input. -/
def unitAllWrong : ChangeSpec := { name := "unitAll", fn := fun _ => fun
  | [d1, d2] => { results := [.lit (.bool false)], args := [d1, d2] }
  | _ => none }
def UnitAllWrongFalsely : Prop := unitAllRow.holds Tryd.pinned (OpenSpec.ofChange unitAllWrong)

/-- 'sindrilaw15.UnitPuts': WHATEVER THE INPUT: true; the input reads as it did. -/
def unitPutsSpec : ChangeSpec := { name := "unitPuts", fn := fun _ => fun
  | [d1, d2] => { results := [.lit (.bool true)], args := [d1, d2] }
  | _ => none }
def unitPutsRow : OpenClaim := { program := "ytelmfhpefnemfaadoor", sum := "838b7448c52cff964b6017ae325d6a3fc49ea73a2cfb026f601a04da49ccd4c0", func := "sindri/sindrilaw15.UnitPuts", spec := "unitPuts", unfollowed := true, recurses := true, named := ["sindri/length.sizes"], plainKeys := false, apart := false, laid := [("sindri/length.sizes", laid_sindri_length_sizes)] }
def UnitPutsSaid : Prop := unitPutsRow.holds Tryd.pinned (OpenSpec.ofChange unitPutsSpec)

/-- ITS FALSE NEIGHBOUR: 'it returns false'. Refute it at one input. -/
def unitPutsWrong : ChangeSpec := { name := "unitPuts", fn := fun _ => fun
  | [d1, d2] => { results := [.lit (.bool false)], args := [d1, d2] }
  | _ => none }
def UnitPutsWrongFalsely : Prop := unitPutsRow.holds Tryd.pinned (OpenSpec.ofChange unitPutsWrong)

/-- 'sindrilaw15.UnitBack': WHATEVER THE INPUT: true; the input reads as it did. -/
def unitBackSpec : ChangeSpec := { name := "unitBack", fn := fun _ => fun
  | [d] => { results := [.lit (.bool true)], args := [d] }
  | _ => none }
def unitBackRow : OpenClaim := { program := "ytelmfhpefnemfaadoor", sum := "838b7448c52cff964b6017ae325d6a3fc49ea73a2cfb026f601a04da49ccd4c0", func := "sindri/sindrilaw15.UnitBack", spec := "unitBack", unfollowed := true, recurses := true, named := ["sindri/length.sizes"], plainKeys := false, apart := false, laid := [("sindri/length.sizes", laid_sindri_length_sizes)] }
def UnitBackSaid : Prop := unitBackRow.holds Tryd.pinned (OpenSpec.ofChange unitBackSpec)

/-- ITS FALSE NEIGHBOUR: 'it returns false'. Refute it at one input. -/
def unitBackWrong : ChangeSpec := { name := "unitBack", fn := fun _ => fun
  | [d] => { results := [.lit (.bool false)], args := [d] }
  | _ => none }
def UnitBackWrongFalsely : Prop := unitBackRow.holds Tryd.pinned (OpenSpec.ofChange unitBackWrong)

/- THE SECOND FORM. 'bulk': how many values and letters a reading holds, each counted each time it is reached (what is shared counts as often as it is met; a slice's spare places count too). A statement '..UptoSaid' is the law's where the arguments, and the package variables that the reading takes, are together of bulk at most 1048576: NARROWER than '..Said'. Prove '..Said' where nothing that the law and all that it calls make is longer than what came in: it says more and counts as full. Else prove '..UptoSaid'. A law counts once. -/
mutual
def uptoBulk {H : Type} : DataW H → Nat
  | .lit (.string bytes) => bytes.length + 1
  | .lit _ => 1
  | .nil => 1
  | .ptr d => uptoBulk d + 1
  | .slice elems spare => uptoBulkAll elems + uptoBulkAll spare + 1
  | .agg parts => uptoBulkAll parts + 1
  | .iface _ d => uptoBulk d + 1
  | .map entries => uptoBulkEntries entries + 1
  | .held _ => 1
def uptoBulkAll {H : Type} : List (DataW H) → Nat
  | [] => 0
  | d :: r => uptoBulk d + uptoBulkAll r
def uptoBulkEntries {H : Type} : List (Lit × DataW H) → Nat
  | [] => 0
  | x :: r => uptoBulkEntry x + uptoBulkEntries r
def uptoBulkEntry {H : Type} : Lit × DataW H → Nat
  | (.string bytes, d) => bytes.length + uptoBulk d + 1
  | (_, d) => uptoBulk d + 1
 end
def uptoSmall : (H : Type) → List (DataW H) → Bool := fun _ ds => decide (uptoBulkAll ds ≤ 1048576)
def OpenSpec.upto (s : _root_.Go.ChangeSpec) : _root_.Go.OpenSpec := { _root_.Go.OpenSpec.ofChange s with cond := some uptoSmall }

/-- 'sindrilaw11.LinkmapAsks', WHERE WHAT IT READS IS OF BULK AT MOST 1048576: true; the input reads as it did. -/
def linkmapAsksUptoRow : OpenClaim := { program := "ytelmfhpefnemfaadoor", sum := "838b7448c52cff964b6017ae325d6a3fc49ea73a2cfb026f601a04da49ccd4c0", func := "sindri/sindrilaw11.LinkmapAsks", spec := "linkmapAsks", inPlace := ["internal/bytealg.IndexByteString", "internal/abi.NoEscape", "internal/bytealg.MakeNoZero"], unfollowed := true, recurses := true, named := ["internal/strconv.uint64pow10", "math/bits.deBruijn32tab", "math/bits.deBruijn64tab"], plainKeys := false, apart := false, laid := [("math/bits.deBruijn32tab", laid_math_bits_deBruijn32tab), ("math/bits.deBruijn64tab", laid_math_bits_deBruijn64tab), ("internal/strconv.uint64pow10", laid_internal_strconv_uint64pow10)], narrowed := true }
def LinkmapAsksUptoSaid : Prop := linkmapAsksUptoRow.holds Tryd.pinned (OpenSpec.upto linkmapAsksSpec)

/-- 'sindrilaw11.LinkmapOrders', WHERE WHAT IT READS IS OF BULK AT MOST 1048576: true; the input reads as it did. -/
def linkmapOrdersUptoRow : OpenClaim := { program := "ytelmfhpefnemfaadoor", sum := "838b7448c52cff964b6017ae325d6a3fc49ea73a2cfb026f601a04da49ccd4c0", func := "sindri/sindrilaw11.LinkmapOrders", spec := "linkmapOrders", inPlace := ["internal/bytealg.IndexByteString", "internal/abi.NoEscape", "internal/bytealg.MakeNoZero"], unfollowed := true, recurses := true, named := ["internal/strconv.uint64pow10", "math/bits.deBruijn32tab", "math/bits.deBruijn64tab"], plainKeys := false, apart := false, laid := [("math/bits.deBruijn32tab", laid_math_bits_deBruijn32tab), ("math/bits.deBruijn64tab", laid_math_bits_deBruijn64tab), ("internal/strconv.uint64pow10", laid_internal_strconv_uint64pow10)], narrowed := true }
def LinkmapOrdersUptoSaid : Prop := linkmapOrdersUptoRow.holds Tryd.pinned (OpenSpec.upto linkmapOrdersSpec)

/-- 'sindrilaw15.UnitAll', WHERE WHAT IT READS IS OF BULK AT MOST 1048576: true; the input reads as it did. -/
def unitAllUptoRow : OpenClaim := { program := "ytelmfhpefnemfaadoor", sum := "838b7448c52cff964b6017ae325d6a3fc49ea73a2cfb026f601a04da49ccd4c0", func := "sindri/sindrilaw15.UnitAll", spec := "unitAll", unfollowed := true, recurses := true, named := ["sindri/length.sizes"], plainKeys := false, apart := false, laid := [("sindri/length.sizes", laid_sindri_length_sizes)], narrowed := true }
def UnitAllUptoSaid : Prop := unitAllUptoRow.holds Tryd.pinned (OpenSpec.upto unitAllSpec)

/-- 'sindrilaw15.UnitPuts', WHERE WHAT IT READS IS OF BULK AT MOST 1048576: true; the input reads as it did. -/
def unitPutsUptoRow : OpenClaim := { program := "ytelmfhpefnemfaadoor", sum := "838b7448c52cff964b6017ae325d6a3fc49ea73a2cfb026f601a04da49ccd4c0", func := "sindri/sindrilaw15.UnitPuts", spec := "unitPuts", unfollowed := true, recurses := true, named := ["sindri/length.sizes"], plainKeys := false, apart := false, laid := [("sindri/length.sizes", laid_sindri_length_sizes)], narrowed := true }
def UnitPutsUptoSaid : Prop := unitPutsUptoRow.holds Tryd.pinned (OpenSpec.upto unitPutsSpec)

/-- 'sindrilaw15.UnitBack', WHERE WHAT IT READS IS OF BULK AT MOST 1048576: true; the input reads as it did. -/
def unitBackUptoRow : OpenClaim := { program := "ytelmfhpefnemfaadoor", sum := "838b7448c52cff964b6017ae325d6a3fc49ea73a2cfb026f601a04da49ccd4c0", func := "sindri/sindrilaw15.UnitBack", spec := "unitBack", unfollowed := true, recurses := true, named := ["sindri/length.sizes"], plainKeys := false, apart := false, laid := [("sindri/length.sizes", laid_sindri_length_sizes)], narrowed := true }
def UnitBackUptoSaid : Prop := unitBackUptoRow.holds Tryd.pinned (OpenSpec.upto unitBackSpec)

end Rows
end Go.Proofs.YtelmfhpefnemfaaDoor
