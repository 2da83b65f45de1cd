/-
  Groups of sections: the example's bytes, and two objects of one group. No program.
-/
import Derived.Test.YtbpemehhbeejcaaGpB
namespace Go.Proofs.Ytbpemehhbeejcaa
open Go Go.RowKit

def exSg : List Sect := [zeroS, { zeroS with kind := 2 }, { zeroS with kind := 1 }, { zeroS with kind := 17, link := 1, data := [1, 0, 0, 0, 2, 0, 0, 0] }]
def exYg : List Sym := [⟨[102], 0, 0, 0, 0, 0⟩]
theorem exg_tells : grpT exSg exYg = some [⟨3, true, [102], [2]⟩] := by rfl
theorem exg_left : leftS [(exSg, exYg), (exSg, exYg)] 2 = some ([[102], [102]], [[false, false, false, false], [false, false, true, false]]) := by rfl

end Go.Proofs.Ytbpemehhbeejcaa
