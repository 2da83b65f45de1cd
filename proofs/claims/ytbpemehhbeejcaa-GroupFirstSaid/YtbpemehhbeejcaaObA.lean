/-
  Package object: which section may not be in an object (made), symbols and relocations that have their place (placed, fit); memory, debugging (Alloc, Debug).
-/
import Derived.Test.YtbpemehhbeejcaaGpA
import Derived.Test.YtbpemehhbeejcaaPoO
import Derived.Test.YtbpemehhbeejcaaEhC
import Derived.Test.YtbpemehhbeejcaaCurN
import Derived.Laws.IdiomStrings
import Derived.Laws.BytesArg
import Derived.Test.YtbpemehhbeejcaaKeep
import Derived.Lib.AppendZerosOnto
import Derived.Test.YtbpemehhbeejcaaParts
import Derived.Laws.ResultCell
import Derived.Stop.BytesEq
import Derived.Laws.Cover3
import Derived.Test.YtbpemehhbeejcaaCsM
import Derived.Lib.BytesEntry
import Derived.Lib.AppendStr
import Derived.Laws.Externs
import Derived.Deep.Slices
import Derived.Shelf.Bytes.SlCountOne
import Derived.Laws.Rows
import Derived.Test.YtbpemehhbeejcaaCsA
import Derived.Test.YtbpemehhbeejcaaRefR
import Derived.Test.YtbpemehhbeejcaaCsL
import Derived.Lib.SlBytesConst
import Derived.Laws.StructEq
namespace Go.Proofs.Ytbpemehhbeejcaa
open Go Go.RowKit

section
end

/-- How many bytes the names have. -/
def sumN (L : List Sym) : Nat := (L.map fun x => x.name.length).sum
theorem sumN_next {L : List Sym} {k : Nat} {x : Sym} (h : L[k]? = some x) : sumN (L.take (k + 1)) = sumN (L.take k) + x.name.length := by
  unfold sumN
  rw [List.take_add_one, h]
  simp

end Go.Proofs.Ytbpemehhbeejcaa

namespace Go.Proofs.Ytbpemehhbeejcaa
open Go Go.RowKit

/-- A section's nine cells. -/
theorem lay_cells (x : Lay) : x.val = .agg #[.string ⟨x.s.name.toArray⟩, .int .i64 x.s.kind, .int .u64 (x.s.flags : Int), .int .u64 (x.s.addr : Int), .slice x.A x.s.data.length x.c, .int .i64 x.s.link, .int .i64 x.s.inf, .int .i64 x.s.algn, .int .i64 x.s.ent] := rfl

theorem int_eq_beq (a b : Int) : (a == b) = decide (a = b) := by rw [Bool.eq_iff_iff]; simp
end Go.Proofs.Ytbpemehhbeejcaa
