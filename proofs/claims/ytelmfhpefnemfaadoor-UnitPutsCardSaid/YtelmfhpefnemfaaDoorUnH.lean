/-
  Package unit: equality of two heads, field by field; the document's Same.
-/
import Derived.Test.YtelmfhpefnemfaaDoorUnA
import Derived.Test.YtelmfhpefnemfaaDoorSyA
import Derived.Test.YtelmfhpefnemfaaDoorSeB
import Derived.Test.YtelmfhpefnemfaaDoorCsM
import Derived.Test.YtelmfhpefnemfaaDoorCurN
import Derived.Test.YtelmfhpefnemfaaDoorPutR
import Derived.Test.YtelmfhpefnemfaaDoorParts
import Derived.WalkMore
import Derived.Test.YtelmfhpefnemfaaDoorPut
import Derived.Lib.BytesEntry
import Derived.Lib.AppendStr
import Derived.Laws.Externs
import Derived.Deep.Slices
import Derived.Test.YtelmfhpefnemfaaDoorRefR
import Derived.Test.YtelmfhpefnemfaaDoorCsL
import Derived.Lib.SlBytesConst
import Derived.Test.YtelmfhpefnemfaaDoorLawC
import Derived.Laws.StructEq
namespace Go.Proofs.YtelmfhpefnemfaaDoor
open Go Go.RowKit

theorem uhd_at {w : World} {B : Nat} {a : Option Addr} {L : List UHd} (h : Row 8 UHd.cells w B a L) {i : Nat} {x : UHd} (hx : L[i]? = some x) : ∃ b o, a = some ⟨b, o, none⟩ ∧ b < B ∧
    w.cell? ⟨b, o + i * 8, none⟩ = some (.int .i64 x.kind) ∧ w.cell? ⟨b, o + i * 8 + 1, none⟩ = some (.bool x.wide) ∧ w.cell? ⟨b, o + i * 8 + 2, none⟩ = some (.int .u64 (x.ab : Int)) ∧ w.cell? ⟨b, o + i * 8 + 3, none⟩ = some (.int .u64 (x.sig : Int)) ∧
    w.cell? ⟨b, o + i * 8 + 4, none⟩ = some (.int .u64 (x.ty : Int)) ∧ w.cell? ⟨b, o + i * 8 + 5, none⟩ = some (.int .u64 (x.off : Int)) ∧ w.cell? ⟨b, o + i * 8 + 6, none⟩ = some (.int .u64 (x.first : Int)) ∧ w.cell? ⟨b, o + i * 8 + 7, none⟩ = some (.int .u64 (x.stop : Int)) := by
  have hl : 0 < L.length := by have := (List.getElem?_eq_some_iff.1 hx).1; omega
  obtain ⟨b, o, e, hlt, hc⟩ := h hl
  have h' := hc i x hx
  exact ⟨b, o, e, hlt, h' 0 _ rfl, h' 1 _ rfl, h' 2 _ rfl, h' 3 _ rfl, h' 4 _ rfl, h' 5 _ rfl, h' 6 _ rfl, h' 7 _ rfl⟩
end Go.Proofs.YtelmfhpefnemfaaDoor
