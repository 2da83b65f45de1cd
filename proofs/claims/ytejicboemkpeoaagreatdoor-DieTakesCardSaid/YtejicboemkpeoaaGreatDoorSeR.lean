/-
  Package sects: what an entry is refused with (refusal), and its bytes (data).
-/
import Derived.Test.YtejicboemkpeoaaGreatDoorSyA
import Derived.Test.YtejicboemkpeoaaGreatDoorCurN
import Derived.Test.YtejicboemkpeoaaGreatDoorEhC
import Derived.Test.YtejicboemkpeoaaGreatDoorCsL
import Derived.Laws.ResultCell
import Derived.Test.YtejicboemkpeoaaGreatDoorZeros
import Derived.Test.YtejicboemkpeoaaGreatDoorPoX
import Derived.Laws.Cover3
import Derived.Test.YtejicboemkpeoaaGreatDoorCsQ
import Derived.Test.YtejicboemkpeoaaGreatDoorPoO
import Derived.Lib.SlBytesConst
import Derived.Laws.StructEq
import Derived.Test.YtejicboemkpeoaaGreatDoorObC
import Derived.Deep.RegionHeldLaw
namespace Go.Proofs.YtejicboemkpeoaaGreatDoor
open Go Go.RowKit

/-! ### A cursor, a struct in memory beside it, and what has not turned since w0 -/
def StY (T : TypeId) (w0 w : World) (g : Nat) (v : Value) (l : List UInt8) (a : Nat) (H : Nat) (cs : Array Value) : Prop :=
  Cur w g v l a 0 ∧ Box w H T cs ∧ w0.grownBy w (some g)
section
variable {T : TypeId} {w0 w w' : World} {g : Nat} {v : Value} {l : List UInt8} {a b H : Nat} {cs : Array Value}
theorem StY.call (h : StY T w0 w g v l a H cs) (hne : g ≠ H) (hC : Cur w' g v l b 0) (hG : w.grownBy w' (some g)) : StY T w0 w' g v l b H cs :=
  ⟨hC, h.2.1.grown hG (by simpa using fun e => hne e.symm), h.2.2.trans hG⟩
theorem StY.set (h : StY T w0 w g v l a H cs) (hT : 5 ≠ T) (hne : g ≠ H) (hH : w0.heap.size ≤ H) (i : Nat) (u : Value) : StY T w0 (w.setCell ⟨H, i, none⟩ u) g v l a H (cs.setIfInBounds i u) :=
  have G : w.grownBy (w.setCell ⟨H, i, none⟩ u) (some H) := only_set (only_refl w (some H)) i u
  ⟨h.1.grown G (by simpa using hne) (.inr (own_other h.1.2.1 h.2.1 hT)), h.2.1.set i u, only_trans h.2.2 G (.inr fun x hx => by injection hx with hx; omega)⟩
theorem got_inY {n : Nat} (h : a + n ≤ l.length) : nextGot l a 0 n = cutT l a n ∧ nextAt l a 0 n = a + n ∧ nextErr l a 0 n = 0 := by
  have h' : n ≤ l.length - a := by omega
  simp [nextGot, nextAt, nextErr, cutT, h']
theorem StY.u8 (h : StY T w0 w g v l a H cs) (hne : g ≠ H) (hl : l.length ≤ 140737488355328) (ha : a + 1 ≤ l.length) :
    Calls Tryz.prog 93 #[.pointer (some ⟨g, 0, none⟩)] w fun r w' => r = .returned (.int .u64 (numT l a 1 : Int)) ∧ StY T w0 w' g v l (a + 1) H cs := by
  obtain ⟨e1, e2, e3⟩ := got_inY ha
  have := u8_cur h.1 hl
  rw [e1, e2, e3] at this
  exact this.mono fun _ _ ⟨h1, h2, h3⟩ => ⟨h1, h.call hne h2 h3⟩
end

end Go.Proofs.YtejicboemkpeoaaGreatDoor

namespace Go.Proofs.YtejicboemkpeoaaGreatDoor
open Go Go.RowKit

section
variable {P : Program}
end

def cellsL (L : List Lay) : List Value := L.flatMap Lay.cells
/-- A row of sections of the call's own. -/
abbrev OwnL (w : World) (base : Nat) (v : Value) (L : List Lay) : Prop := w.ownsRow base 80 9 v L.length (cellsL L)
end Go.Proofs.YtejicboemkpeoaaGreatDoor

namespace Go.Proofs.YtejicboemkpeoaaGreatDoor
open Go Go.RowKit

theorem row_below {w w' : World} {base : Nat} {e : TypeId} {size n : Nat} {v : Value} {xs : List Value} (h : w.ownsRow base e size v n xs) (hb : Below w.heap.size w w') : w'.ownsRow base e size v n xs :=
  row_only h (Only.below (base := 0) (bad := fun _ => False) hb (Nat.zero_le _)) (fun _ _ x => x)
theorem row_base {w : World} {base base' : Nat} {e : TypeId} {size n : Nat} {v : Value} {xs : List Value} (h : w.ownsRow base e size v n xs) (hb : base' ≤ base) : w.ownsRow base' e size v n xs :=
  ⟨h.1, h.2.imp id fun ⟨g, cap, cur, p, q, r⟩ => ⟨g, cap, cur, p, Nat.le_trans hb q, r⟩⟩

end Go.Proofs.YtejicboemkpeoaaGreatDoor

namespace Go.Proofs.YtejicboemkpeoaaGreatDoor
open Go Go.RowKit

/-- The rounds of Take: the row's first k items are there. -/
def RowTo (T : TypeId) (n : Nat) (w : World) (ge q : Nat) (C : List Value) : Prop := ∃ R : List Value, w.ownsRow ge T n (.slice (some ⟨ge, 0, none⟩) q q) q (C ++ R)
theorem RowTo.kept {T : TypeId} {n ge q : Nat} {C : List Value} {w w' : World} {row : Option Nat} (h : RowTo T n w ge q C) (hg : w.grownBy w' row) (hne : some ge ≠ row) : RowTo T n w' ge q C := by
  obtain ⟨R, hR⟩ := h
  exact ⟨R, World.ownsRow.kept (w := w) hR hg (.inr (by simpa [Value.ownBlock] using hne))⟩
theorem RowTo.below {T : TypeId} {n ge q : Nat} {C : List Value} {w w' : World} (h : RowTo T n w ge q C) (hb : Below w.heap.size w w') : RowTo T n w' ge q C := by
  obtain ⟨R, hR⟩ := h
  exact ⟨R, World.ownsRow.kept (w := w) hR (only_below hb none) (.inr (by simp [Value.ownBlock]))⟩
theorem RowTo.free {T : TypeId} {n ge q : Nat} {C : List Value} {w : World} (h : RowTo T n w ge q C) (j : Nat) (hj : j < q * n) : (∃ v, w.cell? ⟨ge, j, none⟩ = some v) ∧ w.frozen? ⟨ge, j, none⟩ = false := by
  obtain ⟨R, hR⟩ := h
  exact row_free hR j hj
theorem RowTo.store {T : TypeId} {n ge q : Nat} {C : List Value} {w : World} (h : RowTo T n w ge q C) (vs : List Value) (hl : C.length + vs.length ≤ q * n) : RowTo T n (setAll w ge C.length vs) ge q (C ++ vs) ∧ w.grownBy (setAll w ge C.length vs) (some ge) := by
  obtain ⟨R, hR⟩ := h
  have hlen := hR.1
  rw [List.length_append] at hlen
  obtain ⟨h1, h2⟩ := row_stores vs w C R hR (by omega)
  exact ⟨⟨_, h1⟩, h2⟩
theorem RowTo.done {T : TypeId} {n ge q base : Nat} {C : List Value} {w : World} (h : RowTo T n w ge q C) (hl : C.length = q * n) (hb : base ≤ ge) : w.ownsRow base T n (.slice (some ⟨ge, 0, none⟩) q q) q C := by
  obtain ⟨R, hR⟩ := h
  have hlen := hR.1
  rw [List.length_append] at hlen
  obtain rfl : R = [] := List.eq_nil_of_length_eq_zero (by omega)
  rw [List.append_nil] at hR
  exact row_base hR hb

section
variable {t ns : List UInt8}
end
end Go.Proofs.YtejicboemkpeoaaGreatDoor

namespace Go.Proofs.YtejicboemkpeoaaGreatDoor
open Go Go.RowKit

theorem RowTo.lt {T : TypeId} {n ge q : Nat} {C : List Value} {w : World} (h : RowTo T n w ge q C) : ge < w.heap.size := by
  obtain ⟨R, hR⟩ := h
  exact (hR.lt ge rfl).2
end Go.Proofs.YtejicboemkpeoaaGreatDoor

namespace Go.Proofs.YtejicboemkpeoaaGreatDoor
open Go Go.RowKit

variable {S : List Sect} {p : Int} {n k : Nat} {s : Sect}
/-- Relocations, with where they are. -/
structure RLay where
  a : Option Addr
  c : Nat
  l : List Rel
def RLay.val (x : RLay) : Value := .slice x.a x.l.length x.c
abbrev RowBl (w : World) (base g N : Nat) (h : List Bool) : Prop := w.ownsRow base 4 1 (.slice (some ⟨g, 0, none⟩) N N) N (h.map Value.bool)
abbrev RowQ (w : World) (base g N : Nat) (Q : List RLay) : Prop := w.ownsRow base 320 1 (.slice (some ⟨g, 0, none⟩) N N) N (Q.map RLay.val)
/-- What goes along in the rounds: what was met, the relocations; nothing that was there has turned. -/
structure RelAt (w wr : World) (gm gr N : Nat) (h : List Bool) (Q : List RLay) : Prop where
  met : RowBl wr w.heap.size gm N h
  rel : RowQ wr w.heap.size gr N Q
  own : ∀ q ∈ Q, OwnR wr w.heap.size q.val q.l
  below : Below w.heap.size w wr
variable {w wr w' : World} {gm gr N : Nat} {h : List Bool} {Q : List RLay}
theorem RelAt.later (H : RelAt w wr gm gr N h Q) (hb : Below wr.heap.size wr w') : RelAt w w' gm gr N h Q :=
  ⟨row_below H.met hb, row_below H.rel hb, fun q hq => row_below (H.own q hq) hb, H.below.trans (hb.mono H.below.size)⟩
theorem RelAt.alloc (H : RelAt w wr gm gr N h Q) (o : Obj) : RelAt w (wr.alloc o) gm gr N h Q := H.later ((Below.refl _ _).alloc (Nat.le_refl _) o)
theorem row_lens {T : TypeId} {b n : Nat} {v : Value} {X : List Value} (H : w.ownsRow b T 1 v n X) : X.length = n := by have := H.1; simpa using this
theorem RelAt.lens (H : RelAt w wr gm gr N h Q) : h.length = N ∧ Q.length = N := ⟨by have := row_lens H.met; simpa using this, by have := row_lens H.rel; simpa using this⟩
theorem row_block {T : TypeId} {b n c g : Nat} {X : List Value} (H : w.ownsRow b T 1 (.slice (some ⟨g, 0, none⟩) n c) n X) : b ≤ g ∧ g < w.heap.size ∧ ∃ cs, Box w g T cs := by
  rcases H.2 with ⟨e, _⟩ | ⟨g', cap, cur, e, hb, hg, _⟩
  · cases e
  · injection e with e _ _
    injection e with e
    injection e with e _ _
    subst e
    exact ⟨hb, (Array.getElem?_eq_some_iff.1 hg).1, cur, hg⟩
theorem RelAt.apart (H : RelAt w wr gm gr N h Q) : gm ≠ gr := by
  obtain ⟨_, _, cs, h1⟩ := row_block H.met
  obtain ⟨_, _, cs', h2⟩ := row_block H.rel
  exact Box.other h1 h2 (by decide)
/-- Cells that may be read, and stored. -/
theorem RelAt.cell (H : RelAt w wr gm gr N h Q) {i : Nat} (hi : i < N) : (∃ b, h[i]? = some b ∧ wr.cell? ⟨gm, i, none⟩ = some (.bool b)) ∧ wr.frozen? ⟨gm, i, none⟩ = false ∧ (∃ v, wr.cell? ⟨gr, i, none⟩ = some v) ∧ wr.frozen? ⟨gr, i, none⟩ = false := by
  obtain ⟨l1, l2⟩ := H.lens
  have c1 := World.ownsRow.cellAt (g := gm) (cap := N) H.met i (by omega)
  have c2 := World.ownsRow.cellAt (g := gr) (cap := N) H.rel i (by omega)
  rw [List.getElem?_map] at c1 c2
  refine ⟨⟨h[i]'(by omega), List.getElem?_eq_getElem _, ?_⟩, World.ownsRow.frozenAt (g := gm) (cap := N) H.met i, ⟨(Q[i]'(by omega)).val, ?_⟩, World.ownsRow.frozenAt (g := gr) (cap := N) H.rel i⟩
  · rw [c1, List.getElem?_eq_getElem (by omega)]; rfl
  · rw [c2, List.getElem?_eq_getElem (by omega)]; rfl
/-- Relocations put at a place. -/
theorem RelAt.put (H : RelAt w wr gm gr N h Q) {q : RLay} (hq : OwnR wr w.heap.size q.val q.l) (i : Nat) : RelAt w ((wr.setCell ⟨gm, i, none⟩ (.bool true)).setCell ⟨gr, i, none⟩ q.val) gm gr N (h.set i true) (Q.set i q) := by
  have hB := H.below.size
  obtain ⟨s1, s2⟩ := World.ownsRow.stored H.met i (.bool true)
  have o1 : Only w.heap.size (CellsOf 4) wr _ := row_turns H.met s2 hB
  have r1 := row_only H.rel o1 (fun cs f hh => absurd (show 320 = 4 from hh) (by decide))
  obtain ⟨t1, t2⟩ := World.ownsRow.stored r1 i q.val
  have hB1 := Nat.le_trans hB o1.1.size
  have o2 : Only w.heap.size (CellsOf 320) _ _ := row_turns r1 t2 hB1
  have m2 := row_only s1 o2 (fun cs f hh => absurd (show 4 = 320 from hh) (by decide))
  have hown : ∀ (x : RLay), OwnR wr w.heap.size x.val x.l → OwnR ((wr.setCell ⟨gm, i, none⟩ (.bool true)).setCell ⟨gr, i, none⟩ q.val) w.heap.size x.val x.l := fun x hx =>
    row_only (row_only hx o1 (fun cs f hh => absurd (show 322 = 4 from hh) (by decide))) o2 (fun cs f hh => absurd (show 322 = 320 from hh) (by decide))
  refine ⟨?_, ?_, fun x hx => ?_, H.below.trans (o1.1.trans o2.1)⟩
  · rw [RowBl, List.map_set]; exact m2
  · rw [RowQ, List.map_set]; exact t1
  · rcases List.mem_or_eq_of_mem_set hx with hx | rfl
    · exact hown x (H.own x hx)
    · exact hown _ hq
/-- A row of rows of relocations of the call's own. -/
def OwnQ (w : World) (base : Nat) (v : Value) (R : List (List Rel)) : Prop := ∃ Q : List RLay, Q.map (·.l) = R ∧ w.ownsRow base 320 1 v Q.length (Q.map RLay.val) ∧ ∀ q ∈ Q, OwnR w base q.val q.l
theorem OwnQ.later {base : Nat} {v : Value} {R : List (List Rel)} (H : OwnQ w base v R) (hb : Below w.heap.size w w') : OwnQ w' base v R := by
  obtain ⟨Q, h1, h2, h3⟩ := H
  exact ⟨Q, h1, row_below h2 hb, fun q hq => row_below (h3 q hq) hb⟩
end Go.Proofs.YtejicboemkpeoaaGreatDoor

namespace Go.Proofs.YtejicboemkpeoaaGreatDoor
open Go Go.RowKit

/-- An entry in memory. -/
def EntAt (w : World) (g o : Nat) (ns : List Nat) : Prop := ns.length = 10 ∧ ∀ (j x : Nat), ns[j]? = some x → w.cell? ⟨g, o + j, none⟩ = some (.int .u64 (x : Int))
theorem EntAt.below {w w' : World} {g o B : Nat} {ns : List Nat} (h : EntAt w g o ns) (hb : Below B w w') (hg : g < B) : EntAt w' g o ns :=
  ⟨h.1, fun j x hx => by rw [hb.cell (p := ⟨g, o + j, none⟩) hg]; exact h.2 j x hx⟩
theorem EntAt.lt {w : World} {g o : Nat} {ns : List Nat} (h : EntAt w g o ns) : g < w.heap.size := by
  have h0 : ns[0]? = some (ns[0]'(by rw [h.1]; decide)) := List.getElem?_eq_getElem _
  exact World.block_lt_of_cell? w _ (h.2 0 _ h0)

end Go.Proofs.YtejicboemkpeoaaGreatDoor
