/-
  Package abbrev: which abbreviations may not be (wrong), whether a code stands twice; Right.
-/
import Derived.Test.YtejicboemkpeoaaGreatDoorAbA
import Derived.Test.YtejicboemkpeoaaGreatDoorPoO
import Derived.Test.YtejicboemkpeoaaGreatDoorLnF
import Derived.Test.YtejicboemkpeoaaGreatDoorSyA
import Derived.Test.YtejicboemkpeoaaGreatDoorCsL
import Derived.Lib.SlBytesConst
import Derived.Laws.StructEq
import Derived.Test.YtejicboemkpeoaaGreatDoorCsQ
namespace Go.Proofs.YtejicboemkpeoaaGreatDoor
open Go Go.RowKit Go.Maps

abbrev Spcs (w : World) (B : Nat) (a : Option Addr) (L : List Spc) : Prop := Row 3 Spc.cells w B a L
/-- A pair's numbers are numbers of 64 bits. -/
def Spc.In (x : Spc) : Prop := InI x.at_ ∧ InI x.form ∧ InI x.imp
theorem spc_at {w : World} {B : Nat} {a : Option Addr} {L : List Spc} (h : Spcs w B a L) {i : Nat} {x : Spc} (hx : L[i]? = some x) : ∃ b o, a = some ⟨b, o, none⟩ ∧ b < B ∧
    w.cell? ⟨b, o + i * 3, none⟩ = some (.int .i64 x.at_) ∧ w.cell? ⟨b, o + i * 3 + 1, none⟩ = some (.int .i64 x.form) ∧ w.cell? ⟨b, o + i * 3 + 2, none⟩ = some (.int .i64 x.imp) := by
  have hl : 0 < L.length := by have := (List.getElem?_eq_some_iff.1 hx).1; omega
  obtain ⟨b, o, e, hlt, hc⟩ := h hl
  have h' := hc i x hx
  exact ⟨b, o, e, hlt, h' 0 _ rfl, h' 1 _ rfl, h' 2 _ rfl⟩

end Go.Proofs.YtejicboemkpeoaaGreatDoor

namespace Go.Proofs.YtejicboemkpeoaaGreatDoor
open Go Go.RowKit Go.Maps

/-- Abbreviations that lie side by side, and their pairs. -/
structure Abbs (w : World) (B : Nat) (a : Option Addr) (L : List ALay) : Prop where
  row : Row 4 ALay.cells w B a L
  spcs : ∀ y ∈ L, Spcs w B y.a y.x.l
theorem Abbs.below {w w' : World} {B : Nat} {a : Option Addr} {L : List ALay} (h : Abbs w B a L) (hb : Below B w w') : Abbs w' B a L := ⟨Row.below h.row hb, fun y hy => Row.below (h.spcs y hy) hb⟩
theorem Abbs.more {w : World} {B B' : Nat} {a : Option Addr} {L : List ALay} (h : Abbs w B a L) (hB : B ≤ B') : Abbs w B' a L := ⟨Row.more h.row hB, fun y hy => Row.more (h.spcs y hy) hB⟩
theorem Abbs.up {w w' : World} {a : Option Addr} {L : List ALay} (h : Abbs w w.heap.size a L) (hb : Below w.heap.size w w') : Abbs w' w'.heap.size a L := (h.below hb).more hb.size
/-- Their numbers are numbers of 64 bits, and they are not too many. -/
structure ALay.In (y : ALay) : Prop where
  code : y.x.code < two64
  tag : InI y.x.tag
  len : y.x.l.length ≤ 100000
  spcs : ∀ x ∈ y.x.l, x.In
theorem abb_at {w : World} {B : Nat} {a : Option Addr} {L : List ALay} (h : Abbs w B a L) {i : Nat} {y : ALay} (hy : L[i]? = some y) : ∃ b o, a = some ⟨b, o, none⟩ ∧ b < B ∧
    w.cell? ⟨b, o + i * 4, none⟩ = some (.int .u64 (y.x.code : Int)) ∧ w.cell? ⟨b, o + i * 4 + 1, none⟩ = some (.int .i64 y.x.tag) ∧ w.cell? ⟨b, o + i * 4 + 2, none⟩ = some (.bool y.x.kids) ∧ w.cell? ⟨b, o + i * 4 + 3, none⟩ = some (.slice y.a y.x.l.length y.c) := by
  have hl : 0 < L.length := by have := (List.getElem?_eq_some_iff.1 hy).1; omega
  obtain ⟨b, o, e, hlt, hc⟩ := h.row hl
  have h' := hc i y hy
  exact ⟨b, o, e, hlt, h' 0 _ rfl, h' 1 _ rfl, h' 2 _ rfl, h' 3 _ rfl⟩

end Go.Proofs.YtejicboemkpeoaaGreatDoor
