/-
  Package abbrev: tables (abbrevs, Take).
-/
import Derived.Test.YtpmndmbhkfbljaaDoorRwJ
namespace Go.Proofs.YtpmndmbhkfbljaaDoor
open Go Go.RowKit Go.Maps

/-- An abbreviation whose numbers are numbers of 64 bits. -/
structure Abb.In (x : Abb) : Prop where
  code : x.code < two64
  tag : InI x.tag
  len : x.l.length ≤ 100000
  spcs : ∀ y ∈ x.l, y.In
end Go.Proofs.YtpmndmbhkfbljaaDoor
