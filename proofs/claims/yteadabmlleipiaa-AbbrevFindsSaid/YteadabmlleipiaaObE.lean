/-
  Package object: whose relocations sections are, section by section; rows of rows of relocations, rows of bools.
-/
import Derived.Test.YteadabmlleipiaaLmA
import Derived.Test.YteadabmlleipiaaCsM
import Derived.Test.YteadabmlleipiaaPut
import Derived.Lib.BytesEntry
import Derived.Lib.AppendStr
import Derived.Laws.Externs
import Derived.Deep.Slices
import Derived.Test.YteadabmlleipiaaPutR
import Derived.Test.YteadabmlleipiaaSyA
import Derived.Test.YteadabmlleipiaaSeA
import Derived.Test.YteadabmlleipiaaSyDa
import Derived.Test.YteadabmlleipiaaParts
import Derived.Deep.RegionHeldLaw
namespace Go.Proofs.Yteadabmlleipiaa
open Go Go.RowKit

variable {S : List Sect} {p : Int} {n k : Nat} {s : Sect}
/-- Relocations, with where they are. -/
structure RLay where
  a : Option Addr
  c : Nat
  l : List Rel
def RLay.val (x : RLay) : Value := .slice x.a x.l.length x.c
abbrev RowBl (w : World) (base g N : Nat) (h : List Bool) : Prop := w.ownsRow base 4 1 (.slice (some ⟨g, 0, none⟩) N N) N (h.map Value.bool)
abbrev RowQ (w : World) (base g N : Nat) (Q : List RLay) : Prop := w.ownsRow base 49 1 (.slice (some ⟨g, 0, none⟩) N N) N (Q.map RLay.val)
/-- What goes along in the rounds: what was met, the relocations; nothing that was there has turned. -/
structure RelAt (w wr : World) (gm gr N : Nat) (h : List Bool) (Q : List RLay) : Prop where
  met : RowBl wr w.heap.size gm N h
  rel : RowQ wr w.heap.size gr N Q
  own : ∀ q ∈ Q, OwnR wr w.heap.size q.val q.l
  below : Below w.heap.size w wr
variable {w wr w' : World} {gm gr N : Nat} {h : List Bool} {Q : List RLay}
theorem RelAt.later (H : RelAt w wr gm gr N h Q) (hb : Below wr.heap.size wr w') : RelAt w w' gm gr N h Q :=
  ⟨row_below H.met hb, row_below H.rel hb, fun q hq => row_below (H.own q hq) hb, H.below.trans (hb.mono H.below.size)⟩
theorem RelAt.alloc (H : RelAt w wr gm gr N h Q) (o : Obj) : RelAt w (wr.alloc o) gm gr N h Q := H.later ((Below.refl _ _).alloc (Nat.le_refl _) o)
theorem row_lens {T : TypeId} {b n : Nat} {v : Value} {X : List Value} (H : w.ownsRow b T 1 v n X) : X.length = n := by have := H.1; simpa using this
theorem RelAt.lens (H : RelAt w wr gm gr N h Q) : h.length = N ∧ Q.length = N := ⟨by have := row_lens H.met; simpa using this, by have := row_lens H.rel; simpa using this⟩
theorem row_block {T : TypeId} {b n c g : Nat} {X : List Value} (H : w.ownsRow b T 1 (.slice (some ⟨g, 0, none⟩) n c) n X) : b ≤ g ∧ g < w.heap.size ∧ ∃ cs, Box w g T cs := by
  rcases H.2 with ⟨e, _⟩ | ⟨g', cap, cur, e, hb, hg, _⟩
  · cases e
  · injection e with e _ _
    injection e with e
    injection e with e _ _
    subst e
    exact ⟨hb, (Array.getElem?_eq_some_iff.1 hg).1, cur, hg⟩
theorem RelAt.apart (H : RelAt w wr gm gr N h Q) : gm ≠ gr := by
  obtain ⟨_, _, cs, h1⟩ := row_block H.met
  obtain ⟨_, _, cs', h2⟩ := row_block H.rel
  exact Box.other h1 h2 (by decide)
/-- Cells that may be read, and stored. -/
theorem RelAt.cell (H : RelAt w wr gm gr N h Q) {i : Nat} (hi : i < N) : (∃ b, h[i]? = some b ∧ wr.cell? ⟨gm, i, none⟩ = some (.bool b)) ∧ wr.frozen? ⟨gm, i, none⟩ = false ∧ (∃ v, wr.cell? ⟨gr, i, none⟩ = some v) ∧ wr.frozen? ⟨gr, i, none⟩ = false := by
  obtain ⟨l1, l2⟩ := H.lens
  have c1 := World.ownsRow.cellAt (g := gm) (cap := N) H.met i (by omega)
  have c2 := World.ownsRow.cellAt (g := gr) (cap := N) H.rel i (by omega)
  rw [List.getElem?_map] at c1 c2
  refine ⟨⟨h[i]'(by omega), List.getElem?_eq_getElem _, ?_⟩, World.ownsRow.frozenAt (g := gm) (cap := N) H.met i, ⟨(Q[i]'(by omega)).val, ?_⟩, World.ownsRow.frozenAt (g := gr) (cap := N) H.rel i⟩
  · rw [c1, List.getElem?_eq_getElem (by omega)]; rfl
  · rw [c2, List.getElem?_eq_getElem (by omega)]; rfl
/-- Relocations put at a place. -/
theorem RelAt.put (H : RelAt w wr gm gr N h Q) {q : RLay} (hq : OwnR wr w.heap.size q.val q.l) (i : Nat) : RelAt w ((wr.setCell ⟨gm, i, none⟩ (.bool true)).setCell ⟨gr, i, none⟩ q.val) gm gr N (h.set i true) (Q.set i q) := by
  have hB := H.below.size
  obtain ⟨s1, s2⟩ := World.ownsRow.stored H.met i (.bool true)
  have o1 : Only w.heap.size (CellsOf 4) wr _ := row_turns H.met s2 hB
  have r1 := row_only H.rel o1 (fun cs f hh => absurd (show 49 = 4 from hh) (by decide))
  obtain ⟨t1, t2⟩ := World.ownsRow.stored r1 i q.val
  have hB1 := Nat.le_trans hB o1.1.size
  have o2 : Only w.heap.size (CellsOf 49) _ _ := row_turns r1 t2 hB1
  have m2 := row_only s1 o2 (fun cs f hh => absurd (show 4 = 49 from hh) (by decide))
  have hown : ∀ (x : RLay), OwnR wr w.heap.size x.val x.l → OwnR ((wr.setCell ⟨gm, i, none⟩ (.bool true)).setCell ⟨gr, i, none⟩ q.val) w.heap.size x.val x.l := fun x hx =>
    row_only (row_only hx o1 (fun cs f hh => absurd (show 51 = 4 from hh) (by decide))) o2 (fun cs f hh => absurd (show 51 = 49 from hh) (by decide))
  refine ⟨?_, ?_, fun x hx => ?_, H.below.trans (o1.1.trans o2.1)⟩
  · rw [RowBl, List.map_set]; exact m2
  · rw [RowQ, List.map_set]; exact t1
  · rcases List.mem_or_eq_of_mem_set hx with hx | rfl
    · exact hown x (H.own x hx)
    · exact hown _ hq
/-- A row of rows of relocations of the call's own. -/
def OwnQ (w : World) (base : Nat) (v : Value) (R : List (List Rel)) : Prop := ∃ Q : List RLay, Q.map (·.l) = R ∧ w.ownsRow base 49 1 v Q.length (Q.map RLay.val) ∧ ∀ q ∈ Q, OwnR w base q.val q.l
theorem OwnQ.later {base : Nat} {v : Value} {R : List (List Rel)} (H : OwnQ w base v R) (hb : Below w.heap.size w w') : OwnQ w' base v R := by
  obtain ⟨Q, h1, h2, h3⟩ := H
  exact ⟨Q, h1, row_below h2 hb, fun q hq => row_below (h3 q hq) hb⟩
end Go.Proofs.Yteadabmlleipiaa
