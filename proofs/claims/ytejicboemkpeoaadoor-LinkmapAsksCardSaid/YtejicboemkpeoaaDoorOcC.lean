/-
  The chapter's example: works.
-/
import Derived.Test.YtejicboemkpeoaaDoorObT
import Derived.Test.YtejicboemkpeoaaDoorCsQ
import Derived.Test.YtejicboemkpeoaaDoorPoX
import Derived.Deep.RegionHeldLaw
import Derived.Test.YtejicboemkpeoaaDoorSyI
import Derived.Test.YtejicboemkpeoaaDoorSeR
import Derived.Test.YtejicboemkpeoaaDoorSeV
import Derived.Test.YtejicboemkpeoaaDoorEhC
import Derived.Test.YtejicboemkpeoaaDoorEhA
import Derived.Test.YtejicboemkpeoaaDoorKeep
import Derived.Lib.AppendZerosOnto
import Derived.Test.YtejicboemkpeoaaDoorCsL
import Derived.Test.YtejicboemkpeoaaDoorPoO
import Derived.Test.YtejicboemkpeoaaDoorSyF
import Derived.Test.YtejicboemkpeoaaDoorEhL
import Derived.Test.YtejicboemkpeoaaDoorEhH
import Derived.Deep.DeepCutAuto
import Derived.Deep.LoopGhost
import Derived.Deep.AppendLies
import Derived.Test.YtejicboemkpeoaaDoorLnK
namespace Go.Proofs.YtejicboemkpeoaaDoor
open Go Go.RowKit

/-- A symbol's, a relocation's numbers are what their types may be. -/
structure Sym.Nums (s : Sym) : Prop where
  bind : InI s.bind
  kind : InI s.kind
  sect : InI s.sect
  value : s.value < two64
  size : s.size < two64
structure Rel.Nums (s : Rel) : Prop where
  off : s.off < two64
  sym : InI s.sym
  kind : InI s.kind
  add : InI s.add
end Go.Proofs.YtejicboemkpeoaaDoor

namespace Go.Proofs.YtejicboemkpeoaaDoor
open Go Go.RowKit

theorem secs_lit {w : World} {L : List Lay} (h : ∀ x ∈ L, x.Ok w w.heap.size) : Secs (w.alloc (.cells (cellsL L).toArray 70)) (w.heap.size + 1) (some ⟨w.heap.size, 0, none⟩) L :=
  ⟨fun _ => ⟨w.heap.size, 0, rfl, by omega, fun i y hy j v hv => by
    rw [(Box.new w 70 (cellsL L).toArray).cell, Nat.zero_add]
    simpa using cellsL_at L i y j v hy hv⟩, fun y hy => ((h y hy).below ((Below.refl _ _).alloc (Nat.le_refl _) _)).more (by omega)⟩
theorem fits_small (s : Sect) (h : InI s.kind ∧ InI s.link ∧ InI s.inf ∧ InI s.algn ∧ InI s.ent ∧ s.flags < two64 ∧ s.addr < two64 ∧ s.data.length ≤ 100000 ∧ s.name.length ≤ 100000) : s.Fits := ⟨h.1, h.2.1, h.2.2.1, h.2.2.2.1, h.2.2.2.2.1, h.2.2.2.2.2.1, h.2.2.2.2.2.2.1, h.2.2.2.2.2.2.2.1, h.2.2.2.2.2.2.2.2⟩

end Go.Proofs.YtejicboemkpeoaaDoor
