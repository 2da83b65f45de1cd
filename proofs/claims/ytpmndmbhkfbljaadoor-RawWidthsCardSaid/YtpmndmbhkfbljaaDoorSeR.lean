/-
  Package sects: what an entry is refused with (refusal), and its bytes (data).
-/
import Derived.Test.YtpmndmbhkfbljaaDoorSyA
import Derived.Test.YtpmndmbhkfbljaaDoorCsA
import Derived.Test.YtpmndmbhkfbljaaDoorCsP
import Derived.Test.YtpmndmbhkfbljaaDoorRefR
import Derived.Test.YtpmndmbhkfbljaaDoorCsL
import Derived.Lib.SlBytesConst
import Derived.Test.YtpmndmbhkfbljaaDoorRwA
import Derived.Laws.StructEq
import Derived.Test.YtpmndmbhkfbljaaDoorSeA
import Derived.Test.YtpmndmbhkfbljaaDoorEhC
import Derived.Test.YtpmndmbhkfbljaaDoorPut
import Derived.Test.YtpmndmbhkfbljaaDoorPutR
import Derived.Laws.ResultCell
import Derived.Test.YtpmndmbhkfbljaaDoorKeep
import Derived.Lib.AppendZerosOnto
import Derived.Test.YtpmndmbhkfbljaaDoorPoX
import Derived.Laws.Cover3
import Derived.Deep.RegionHeldLaw
namespace Go.Proofs.YtpmndmbhkfbljaaDoor
open Go Go.RowKit

/-! ### Values -/
/-- A place. -/
structure Place where
  obj : Int
  sect : Int
  addr : Nat
/-- A symbol of a map. -/
structure Named where
  name : List UInt8
  addr : Nat
/-- A range of addresses. -/
structure Span where
  lo : Nat
  hi : Nat
def Place.cells (p : Place) : List Value := [.int .i64 p.obj, .int .i64 p.sect, .int .u64 (p.addr : Int)]
def Named.cells (s : Named) : List Value := [.string ⟨s.name.toArray⟩, .int .u64 (s.addr : Int)]
def Span.cells (r : Span) : List Value := [.int .u64 (r.lo : Int), .int .u64 (r.hi : Int)]
theorem Place.one (p : Place) : ∀ u ∈ p.cells, u.oneCell' = true := fun u hu => by
  simp only [Place.cells, List.mem_cons, List.not_mem_nil, or_false] at hu
  rcases hu with rfl | rfl | rfl <;> rfl
theorem Named.one (s : Named) : ∀ u ∈ s.cells, u.oneCell' = true := fun u hu => by
  simp only [Named.cells, List.mem_cons, List.not_mem_nil, or_false] at hu
  rcases hu with rfl | rfl <;> rfl
theorem Span.one (r : Span) : ∀ u ∈ r.cells, u.oneCell' = true := fun u hu => by
  simp only [Span.cells, List.mem_cons, List.not_mem_nil, or_false] at hu
  rcases hu with rfl | rfl <;> rfl
section
variable {w : World} {B : Nat} {a : Option Addr} {i : Nat}
end

/-! ### What a map tells -/
/-- The first place from number i on of which p holds. -/
def firstK {α : Type} (p : α → Bool) : Nat → List α → Option Nat
  | _, [] => none
  | i, x :: l => if p x then some i else firstK p (i + 1) l
section
variable {α : Type} {p : α → Bool}
end
/-- The symbol of a name. -/
def nameK (Y : List Named) (n : List UInt8) : Option Nat := firstK (fun s => decide (s.name = n)) 0 Y

end Go.Proofs.YtpmndmbhkfbljaaDoor

namespace Go.Proofs.YtpmndmbhkfbljaaDoor
open Go Go.RowKit

/-- A group. -/
structure Grp where
  place : Nat
  one : Bool
  name : List UInt8
  mem : List Nat

/-- Where the first section of symbols stands; -1. -/
def tabG (S : List Sect) : Int := match S.findIdx? (fun s => s.kind == 2) with
  | some i => (i : Int)
  | none => -1
theorem tabG_none {S : List Sect} (hk : ∀ (j : Nat) (t : Sect), S[j]? = some t → t.kind ≠ 2) : tabG S = -1 := by
  have : S.findIdx? (fun s => s.kind == 2) = none := by
    rw [List.findIdx?_eq_none_iff]
    intro x hx
    obtain ⟨j, hj⟩ := List.getElem?_of_mem hx
    simpa using hk j x hj
  unfold tabG
  rw [this]
section
variable {S : List Sect} {Y : List Sym} {k : Nat} {l : List Grp} {met b : List Bool} {s : Sect}
end
end Go.Proofs.YtpmndmbhkfbljaaDoor

namespace Go.Proofs.YtpmndmbhkfbljaaDoor
open Go Go.RowKit

/-! ### A cursor, a struct in memory beside it, and what has not turned since w0 -/
def StY (T : TypeId) (w0 w : World) (g : Nat) (v : Value) (l : List UInt8) (a : Nat) (H : Nat) (cs : Array Value) : Prop :=
  Cur w g v l a 0 ∧ Box w H T cs ∧ w0.grownBy w (some g)
section
variable {T : TypeId} {w0 w w' : World} {g : Nat} {v : Value} {l : List UInt8} {a b H : Nat} {cs : Array Value}
theorem StY.call (h : StY T w0 w g v l a H cs) (hne : g ≠ H) (hC : Cur w' g v l b 0) (hG : w.grownBy w' (some g)) : StY T w0 w' g v l b H cs :=
  ⟨hC, h.2.1.grown hG (by simpa using fun e => hne e.symm), h.2.2.trans hG⟩
theorem StY.set (h : StY T w0 w g v l a H cs) (hT : 5 ≠ T) (hne : g ≠ H) (hH : w0.heap.size ≤ H) (i : Nat) (u : Value) : StY T w0 (w.setCell ⟨H, i, none⟩ u) g v l a H (cs.setIfInBounds i u) :=
  have G : w.grownBy (w.setCell ⟨H, i, none⟩ u) (some H) := only_set (only_refl w (some H)) i u
  ⟨h.1.grown G (by simpa using hne) (.inr (own_other h.1.2.1 h.2.1 hT)), h.2.1.set i u, only_trans h.2.2 G (.inr fun x hx => by injection hx with hx; omega)⟩
theorem got_inY {n : Nat} (h : a + n ≤ l.length) : nextGot l a 0 n = cutT l a n ∧ nextAt l a 0 n = a + n ∧ nextErr l a 0 n = 0 := by
  have h' : n ≤ l.length - a := by omega
  simp [nextGot, nextAt, nextErr, cutT, h']
theorem StY.u8 (h : StY T w0 w g v l a H cs) (hne : g ≠ H) (hl : l.length ≤ 140737488355328) (ha : a + 1 ≤ l.length) :
    Calls Tryd.prog 71 #[.pointer (some ⟨g, 0, none⟩)] w fun r w' => r = .returned (.int .u64 (numT l a 1 : Int)) ∧ StY T w0 w' g v l (a + 1) H cs := by
  obtain ⟨e1, e2, e3⟩ := got_inY ha
  have := u8_cur h.1 hl
  rw [e1, e2, e3] at this
  exact this.mono fun _ _ ⟨h1, h2, h3⟩ => ⟨h1, h.call hne h2 h3⟩
end

end Go.Proofs.YtpmndmbhkfbljaaDoor

namespace Go.Proofs.YtpmndmbhkfbljaaDoor
open Go Go.RowKit

theorem row_below {w w' : World} {base : Nat} {e : TypeId} {size n : Nat} {v : Value} {xs : List Value} (h : w.ownsRow base e size v n xs) (hb : Below w.heap.size w w') : w'.ownsRow base e size v n xs :=
  row_only h (Only.below (base := 0) (bad := fun _ => False) hb (Nat.zero_le _)) (fun _ _ x => x)
theorem row_base {w : World} {base base' : Nat} {e : TypeId} {size n : Nat} {v : Value} {xs : List Value} (h : w.ownsRow base e size v n xs) (hb : base' ≤ base) : w.ownsRow base' e size v n xs :=
  ⟨h.1, h.2.imp id fun ⟨g, cap, cur, p, q, r⟩ => ⟨g, cap, cur, p, Nat.le_trans hb q, r⟩⟩

end Go.Proofs.YtpmndmbhkfbljaaDoor

namespace Go.Proofs.YtpmndmbhkfbljaaDoor
open Go Go.RowKit

/-- The rounds of Take: the row's first k items are there. -/
def RowTo (T : TypeId) (n : Nat) (w : World) (ge q : Nat) (C : List Value) : Prop := ∃ R : List Value, w.ownsRow ge T n (.slice (some ⟨ge, 0, none⟩) q q) q (C ++ R)
theorem RowTo.kept {T : TypeId} {n ge q : Nat} {C : List Value} {w w' : World} {row : Option Nat} (h : RowTo T n w ge q C) (hg : w.grownBy w' row) (hne : some ge ≠ row) : RowTo T n w' ge q C := by
  obtain ⟨R, hR⟩ := h
  exact ⟨R, World.ownsRow.kept (w := w) hR hg (.inr (by simpa [Value.ownBlock] using hne))⟩
theorem RowTo.below {T : TypeId} {n ge q : Nat} {C : List Value} {w w' : World} (h : RowTo T n w ge q C) (hb : Below w.heap.size w w') : RowTo T n w' ge q C := by
  obtain ⟨R, hR⟩ := h
  exact ⟨R, World.ownsRow.kept (w := w) hR (only_below hb none) (.inr (by simp [Value.ownBlock]))⟩
theorem RowTo.free {T : TypeId} {n ge q : Nat} {C : List Value} {w : World} (h : RowTo T n w ge q C) (j : Nat) (hj : j < q * n) : (∃ v, w.cell? ⟨ge, j, none⟩ = some v) ∧ w.frozen? ⟨ge, j, none⟩ = false := by
  obtain ⟨R, hR⟩ := h
  exact row_free hR j hj
theorem RowTo.store {T : TypeId} {n ge q : Nat} {C : List Value} {w : World} (h : RowTo T n w ge q C) (vs : List Value) (hl : C.length + vs.length ≤ q * n) : RowTo T n (setAll w ge C.length vs) ge q (C ++ vs) ∧ w.grownBy (setAll w ge C.length vs) (some ge) := by
  obtain ⟨R, hR⟩ := h
  have hlen := hR.1
  rw [List.length_append] at hlen
  obtain ⟨h1, h2⟩ := row_stores vs w C R hR (by omega)
  exact ⟨⟨_, h1⟩, h2⟩
theorem RowTo.done {T : TypeId} {n ge q base : Nat} {C : List Value} {w : World} (h : RowTo T n w ge q C) (hl : C.length = q * n) (hb : base ≤ ge) : w.ownsRow base T n (.slice (some ⟨ge, 0, none⟩) q q) q C := by
  obtain ⟨R, hR⟩ := h
  have hlen := hR.1
  rw [List.length_append] at hlen
  obtain rfl : R = [] := List.eq_nil_of_length_eq_zero (by omega)
  rw [List.append_nil] at hR
  exact row_base hR hb

section
variable {t ns : List UInt8}
end
end Go.Proofs.YtpmndmbhkfbljaaDoor

namespace Go.Proofs.YtpmndmbhkfbljaaDoor
open Go Go.RowKit

theorem RowTo.lt {T : TypeId} {n ge q : Nat} {C : List Value} {w : World} (h : RowTo T n w ge q C) : ge < w.heap.size := by
  obtain ⟨R, hR⟩ := h
  exact (hR.lt ge rfl).2
end Go.Proofs.YtpmndmbhkfbljaaDoor

namespace Go.Proofs.YtpmndmbhkfbljaaDoor
open Go Go.RowKit

variable {S : List Sect} {p : Int} {n k : Nat} {s : Sect}
/-- Relocations, with where they are. -/
structure RLay where
  a : Option Addr
  c : Nat
  l : List Rel
def RLay.val (x : RLay) : Value := .slice x.a x.l.length x.c
variable {w wr w' : World} {gm gr N : Nat} {h : List Bool} {Q : List RLay}
end Go.Proofs.YtpmndmbhkfbljaaDoor

namespace Go.Proofs.YtpmndmbhkfbljaaDoor
open Go Go.RowKit

/-- An entry in memory. -/
def EntAt (w : World) (g o : Nat) (ns : List Nat) : Prop := ns.length = 10 ∧ ∀ (j x : Nat), ns[j]? = some x → w.cell? ⟨g, o + j, none⟩ = some (.int .u64 (x : Int))
theorem EntAt.below {w w' : World} {g o B : Nat} {ns : List Nat} (h : EntAt w g o ns) (hb : Below B w w') (hg : g < B) : EntAt w' g o ns :=
  ⟨h.1, fun j x hx => by rw [hb.cell (p := ⟨g, o + j, none⟩) hg]; exact h.2 j x hx⟩
theorem EntAt.lt {w : World} {g o : Nat} {ns : List Nat} (h : EntAt w g o ns) : g < w.heap.size := by
  have h0 : ns[0]? = some (ns[0]'(by rw [h.1]; decide)) := List.getElem?_eq_getElem _
  exact World.block_lt_of_cell? w _ (h.2 0 _ h0)

end Go.Proofs.YtpmndmbhkfbljaaDoor
