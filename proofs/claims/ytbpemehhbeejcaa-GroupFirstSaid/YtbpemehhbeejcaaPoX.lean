/-
  Places that a pool told: plain facts; rows of numbers and of texts, with one item more.
-/
import Derived.Test.YtbpemehhbeejcaaPoO
import Derived.Test.YtbpemehhbeejcaaPoA
import Derived.Test.YtbpemehhbeejcaaPoK
import Derived.Deep.RegionHeldLaw
import Derived.Test.YtbpemehhbeejcaaCsA
import Derived.Test.YtbpemehhbeejcaaCsM
import Derived.Test.YtbpemehhbeejcaaCurN
import Derived.Lib.BytesEntry
import Derived.Lib.AppendStr
import Derived.Laws.Externs
import Derived.Deep.Slices
import Derived.Laws.IdiomStrings
import Derived.Laws.BytesArg
import Derived.Test.YtbpemehhbeejcaaRefR
import Derived.Test.YtbpemehhbeejcaaCsL
import Derived.Lib.SlBytesConst
import Derived.Test.YtbpemehhbeejcaaParts
import Derived.Deep.AppendLies
namespace Go.Proofs.Ytbpemehhbeejcaa
open Go Go.RowKit

/-! Rows of the call's own. -/
/-- Cells of one kind. -/
def CellsOf (e : TypeId) : Obj → Prop
  | .cells _ t _ => t = e
  | _ => False

theorem row_only {w w' : World} {base base' : Nat} {bad : Obj → Prop} {e : TypeId} {size n : Nat} {v : Value} {xs : List Value} (h : w.ownsRow base e size v n xs) (hb : Only base' bad w w') (hn : ∀ cs f, ¬ bad (.cells cs e f)) : w'.ownsRow base e size v n xs :=
  ⟨h.1, h.2.imp id fun ⟨g, cap, cur, p, q, hg, r⟩ => ⟨g, cap, cur, p, q, hb.2 _ _ hg (hn _ _), r⟩⟩

theorem row_turns {w w' : World} {base : Nat} {e : TypeId} {size n : Nat} {v : Value} {xs : List Value} (h : w.ownsRow base e size v n xs) (hg : w.grownBy w' v.ownBlock) (hb : base ≤ w.heap.size) : Only base (CellsOf e) w w' := by
  rcases h.2 with ⟨rfl, _⟩ | ⟨g', cap, cur, rfl, hgb, hh, _⟩
  · exact Only.below (below_of_only hg (Nat.le_refl _) (by simp [Value.ownBlock])) hb
  · exact Only.row (g := g') hg hh rfl hgb

theorem lit_first (w : World) (o1 o2 : Obj) : ((w.alloc o1).alloc o2).heap[w.heap.size]? = some o1 := by
  show ((w.heap.push o1).push o2)[w.heap.size]? = some o1
  simp [Array.getElem?_push]
theorem lit_second (w : World) (o1 o2 : Obj) : ((w.alloc o1).alloc o2).heap[w.heap.size + 1]? = some o2 := by
  have := heap_alloc_new (w.alloc o1) o2
  simpa using this

/-- Numbers as the cells that hold them; a row of them. -/
def placeV (l : List Nat) : List Value := l.map fun (p : Nat) => Value.int .u64 (p : Int)
abbrev OwnU (w : World) (base : Nat) (u : Value) (l : List Nat) : Prop := w.ownsRow base 59 1 u l.length (placeV l)
end Go.Proofs.Ytbpemehhbeejcaa
