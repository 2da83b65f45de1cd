/-
  Package sects: what an entry is refused with (refusal), and its bytes (data).
-/
import Derived.Test.YtejicboemkpeoaaGreatDoorSyA
import Derived.Test.YtejicboemkpeoaaGreatDoorCsA
import Derived.Test.YtejicboemkpeoaaGreatDoorCsQ
import Derived.Test.YtejicboemkpeoaaGreatDoorRefR
import Derived.Test.YtejicboemkpeoaaGreatDoorCsL
import Derived.Lib.SlBytesConst
import Derived.Laws.StructEq
import Derived.Test.YtejicboemkpeoaaGreatDoorSeA
import Derived.Test.YtejicboemkpeoaaGreatDoorEhC
import Derived.Test.YtejicboemkpeoaaGreatDoorCurN
import Derived.Test.YtejicboemkpeoaaGreatDoorLawA
import Derived.Laws.ResultCell
import Derived.Test.YtejicboemkpeoaaGreatDoorZeros
import Derived.Test.YtejicboemkpeoaaGreatDoorPoX
import Derived.Laws.Cover3
import Derived.Deep.RegionHeldLaw
namespace Go.Proofs.YtejicboemkpeoaaGreatDoor
open Go Go.RowKit

/-! ### Values -/
/-- A place. -/
structure Place where
  obj : Int
  sect : Int
  addr : Nat
/-- A symbol of a map. -/
structure Named where
  name : List UInt8
  addr : Nat
/-- A range of addresses. -/
structure Span where
  lo : Nat
  hi : Nat
def Place.cells (p : Place) : List Value := [.int .i64 p.obj, .int .i64 p.sect, .int .u64 (p.addr : Int)]
def Named.cells (s : Named) : List Value := [.string ⟨s.name.toArray⟩, .int .u64 (s.addr : Int)]
def Span.cells (r : Span) : List Value := [.int .u64 (r.lo : Int), .int .u64 (r.hi : Int)]
theorem Place.one (p : Place) : ∀ u ∈ p.cells, u.oneCell' = true := fun u hu => by
  simp only [Place.cells, List.mem_cons, List.not_mem_nil, or_false] at hu
  rcases hu with rfl | rfl | rfl <;> rfl
theorem Named.one (s : Named) : ∀ u ∈ s.cells, u.oneCell' = true := fun u hu => by
  simp only [Named.cells, List.mem_cons, List.not_mem_nil, or_false] at hu
  rcases hu with rfl | rfl <;> rfl
theorem Span.one (r : Span) : ∀ u ∈ r.cells, u.oneCell' = true := fun u hu => by
  simp only [Span.cells, List.mem_cons, List.not_mem_nil, or_false] at hu
  rcases hu with rfl | rfl <;> rfl
/-- Numbers that the types hold. -/
def Place.Nums (p : Place) : Prop := InI p.obj ∧ InI p.sect ∧ p.addr < two64
def Named.Nums (s : Named) : Prop := s.addr < two64
def Span.Nums (r : Span) : Prop := r.lo < two64 ∧ r.hi < two64

section
variable {w : World} {B : Nat} {a : Option Addr} {i : Nat}
end

/-! ### What a map tells -/
/-- The first place from number i on of which p holds. -/
def firstK {α : Type} (p : α → Bool) : Nat → List α → Option Nat
  | _, [] => none
  | i, x :: l => if p x then some i else firstK p (i + 1) l
section
variable {α : Type} {p : α → Bool}
theorem firstK_take : ∀ (l : List α) (i k : Nat) (x : α), l[k]? = some x → (l.take k).all (fun y => !(p y)) = true → p x = true → firstK p i l = some (i + k)
  | [], _, _, _, h, _, _ => by simp at h
  | y :: l, i, 0, x, h, _, hp => by
    simp at h
    subst h
    simp [firstK, hp]
  | y :: l, i, k + 1, x, h, ha, hp => by
    simp only [List.take_succ_cons, List.all_cons, Bool.and_eq_true, Bool.not_eq_true'] at ha
    simp only [firstK, ha.1]
    have := firstK_take l (i + 1) k x (by simpa using h) ha.2 hp
    rw [show i + 1 + k = i + (k + 1) by omega] at this
    simpa using this
theorem firstK_none : ∀ (l : List α) (i : Nat), l.all (fun y => !(p y)) = true → firstK p i l = none
  | [], _, _ => rfl
  | y :: l, i, ha => by
    simp only [List.all_cons, Bool.and_eq_true, Bool.not_eq_true'] at ha
    simp only [firstK, ha.1]
    simpa using firstK_none l (i + 1) ha.2
theorem firstK_some : ∀ {l : List α} {i k : Nat}, firstK p i l = some (i + k) → ∃ x, l[k]? = some x ∧ p x = true ∧ (l.take k).all (fun y => !(p y)) = true
  | [], _, _, h => by cases h
  | y :: l, i, k, h => by
    unfold firstK at h
    by_cases hp : p y = true
    · rw [if_pos hp] at h
      have : k = 0 := by injection h with h; omega
      subst this
      exact ⟨y, rfl, hp, rfl⟩
    · rw [if_neg hp] at h
      have hk : ∀ {l : List α} {i m : Nat}, firstK p i l = some m → i ≤ m := by
        intro l
        induction l with
        | nil => intro i m h; cases h
        | cons z l ih =>
          intro i m h
          unfold firstK at h
          split at h
          · injection h with h; omega
          · have := ih h; omega
      have h0 := hk h
      obtain ⟨k', rfl⟩ : ∃ k', k = k' + 1 := ⟨k - 1, by omega⟩
      rw [show i + (k' + 1) = i + 1 + k' by omega] at h
      obtain ⟨x, h1, h2, h3⟩ := firstK_some h
      refine ⟨x, by simpa using h1, h2, ?_⟩
      simp only [List.take_succ_cons, List.all_cons, Bool.and_eq_true, Bool.not_eq_true']
      exact ⟨by simpa using hp, h3⟩
end
/-- Is a place that of a section of an object? -/
def hasP (o s : Int) (p : Place) : Bool := decide (p.obj = o) && decide (p.sect = s)
/-- The place of a section of an object. -/
def outK (P : List Place) (o s : Int) : Option Nat := firstK (hasP o s) 0 P
/-- The symbol of a name. -/
def nameK (Y : List Named) (n : List UInt8) : Option Nat := firstK (fun s => decide (s.name = n)) 0 Y

end Go.Proofs.YtejicboemkpeoaaGreatDoor

namespace Go.Proofs.YtejicboemkpeoaaGreatDoor
open Go Go.RowKit

/-- A group. -/
structure Grp where
  place : Nat
  one : Bool
  name : List UInt8
  mem : List Nat

/-- Where the first section of symbols stands; -1. -/
def tabG (S : List Sect) : Int := match S.findIdx? (fun s => s.kind == 2) with
  | some i => (i : Int)
  | none => -1
theorem tabG_none {S : List Sect} (hk : ∀ (j : Nat) (t : Sect), S[j]? = some t → t.kind ≠ 2) : tabG S = -1 := by
  have : S.findIdx? (fun s => s.kind == 2) = none := by
    rw [List.findIdx?_eq_none_iff]
    intro x hx
    obtain ⟨j, hj⟩ := List.getElem?_of_mem hx
    simpa using hk j x hj
  unfold tabG
  rw [this]
section
variable {S : List Sect} {Y : List Sym} {k : Nat} {l : List Grp} {met b : List Bool} {s : Sect}
end
end Go.Proofs.YtejicboemkpeoaaGreatDoor

namespace Go.Proofs.YtejicboemkpeoaaGreatDoor
open Go Go.RowKit

/-! ### A cursor, a struct in memory beside it, and what has not turned since w0 -/
def StY (T : TypeId) (w0 w : World) (g : Nat) (v : Value) (l : List UInt8) (a : Nat) (H : Nat) (cs : Array Value) : Prop :=
  Cur w g v l a 0 ∧ Box w H T cs ∧ w0.grownBy w (some g)
section
variable {T : TypeId} {w0 w w' : World} {g : Nat} {v : Value} {l : List UInt8} {a b H : Nat} {cs : Array Value}
theorem StY.call (h : StY T w0 w g v l a H cs) (hne : g ≠ H) (hC : Cur w' g v l b 0) (hG : w.grownBy w' (some g)) : StY T w0 w' g v l b H cs :=
  ⟨hC, h.2.1.grown hG (by simpa using fun e => hne e.symm), h.2.2.trans hG⟩
theorem StY.set (h : StY T w0 w g v l a H cs) (hT : 5 ≠ T) (hne : g ≠ H) (hH : w0.heap.size ≤ H) (i : Nat) (u : Value) : StY T w0 (w.setCell ⟨H, i, none⟩ u) g v l a H (cs.setIfInBounds i u) :=
  have G : w.grownBy (w.setCell ⟨H, i, none⟩ u) (some H) := only_set (only_refl w (some H)) i u
  ⟨h.1.grown G (by simpa using hne) (.inr (own_other h.1.2.1 h.2.1 hT)), h.2.1.set i u, only_trans h.2.2 G (.inr fun x hx => by injection hx with hx; omega)⟩
theorem got_inY {n : Nat} (h : a + n ≤ l.length) : nextGot l a 0 n = cutT l a n ∧ nextAt l a 0 n = a + n ∧ nextErr l a 0 n = 0 := by
  have h' : n ≤ l.length - a := by omega
  simp [nextGot, nextAt, nextErr, cutT, h']
theorem StY.u8 (h : StY T w0 w g v l a H cs) (hne : g ≠ H) (hl : l.length ≤ 140737488355328) (ha : a + 1 ≤ l.length) :
    Calls Tryz.prog 93 #[.pointer (some ⟨g, 0, none⟩)] w fun r w' => r = .returned (.int .u64 (numT l a 1 : Int)) ∧ StY T w0 w' g v l (a + 1) H cs := by
  obtain ⟨e1, e2, e3⟩ := got_inY ha
  have := u8_cur h.1 hl
  rw [e1, e2, e3] at this
  exact this.mono fun _ _ ⟨h1, h2, h3⟩ => ⟨h1, h.call hne h2 h3⟩
end

end Go.Proofs.YtejicboemkpeoaaGreatDoor

namespace Go.Proofs.YtejicboemkpeoaaGreatDoor
open Go Go.RowKit

section
variable {P : Program}
end

def cellsL (L : List Lay) : List Value := L.flatMap Lay.cells
/-- A row of sections of the call's own. -/
abbrev OwnL (w : World) (base : Nat) (v : Value) (L : List Lay) : Prop := w.ownsRow base 80 9 v L.length (cellsL L)
end Go.Proofs.YtejicboemkpeoaaGreatDoor

namespace Go.Proofs.YtejicboemkpeoaaGreatDoor
open Go Go.RowKit

theorem row_below {w w' : World} {base : Nat} {e : TypeId} {size n : Nat} {v : Value} {xs : List Value} (h : w.ownsRow base e size v n xs) (hb : Below w.heap.size w w') : w'.ownsRow base e size v n xs :=
  row_only h (Only.below (base := 0) (bad := fun _ => False) hb (Nat.zero_le _)) (fun _ _ x => x)
theorem row_base {w : World} {base base' : Nat} {e : TypeId} {size n : Nat} {v : Value} {xs : List Value} (h : w.ownsRow base e size v n xs) (hb : base' ≤ base) : w.ownsRow base' e size v n xs :=
  ⟨h.1, h.2.imp id fun ⟨g, cap, cur, p, q, r⟩ => ⟨g, cap, cur, p, Nat.le_trans hb q, r⟩⟩

end Go.Proofs.YtejicboemkpeoaaGreatDoor

namespace Go.Proofs.YtejicboemkpeoaaGreatDoor
open Go Go.RowKit

/-- The rounds of Take: the row's first k items are there. -/
def RowTo (T : TypeId) (n : Nat) (w : World) (ge q : Nat) (C : List Value) : Prop := ∃ R : List Value, w.ownsRow ge T n (.slice (some ⟨ge, 0, none⟩) q q) q (C ++ R)
theorem RowTo.kept {T : TypeId} {n ge q : Nat} {C : List Value} {w w' : World} {row : Option Nat} (h : RowTo T n w ge q C) (hg : w.grownBy w' row) (hne : some ge ≠ row) : RowTo T n w' ge q C := by
  obtain ⟨R, hR⟩ := h
  exact ⟨R, World.ownsRow.kept (w := w) hR hg (.inr (by simpa [Value.ownBlock] using hne))⟩
theorem RowTo.below {T : TypeId} {n ge q : Nat} {C : List Value} {w w' : World} (h : RowTo T n w ge q C) (hb : Below w.heap.size w w') : RowTo T n w' ge q C := by
  obtain ⟨R, hR⟩ := h
  exact ⟨R, World.ownsRow.kept (w := w) hR (only_below hb none) (.inr (by simp [Value.ownBlock]))⟩
theorem RowTo.free {T : TypeId} {n ge q : Nat} {C : List Value} {w : World} (h : RowTo T n w ge q C) (j : Nat) (hj : j < q * n) : (∃ v, w.cell? ⟨ge, j, none⟩ = some v) ∧ w.frozen? ⟨ge, j, none⟩ = false := by
  obtain ⟨R, hR⟩ := h
  exact row_free hR j hj
theorem RowTo.store {T : TypeId} {n ge q : Nat} {C : List Value} {w : World} (h : RowTo T n w ge q C) (vs : List Value) (hl : C.length + vs.length ≤ q * n) : RowTo T n (setAll w ge C.length vs) ge q (C ++ vs) ∧ w.grownBy (setAll w ge C.length vs) (some ge) := by
  obtain ⟨R, hR⟩ := h
  have hlen := hR.1
  rw [List.length_append] at hlen
  obtain ⟨h1, h2⟩ := row_stores vs w C R hR (by omega)
  exact ⟨⟨_, h1⟩, h2⟩
theorem RowTo.done {T : TypeId} {n ge q base : Nat} {C : List Value} {w : World} (h : RowTo T n w ge q C) (hl : C.length = q * n) (hb : base ≤ ge) : w.ownsRow base T n (.slice (some ⟨ge, 0, none⟩) q q) q C := by
  obtain ⟨R, hR⟩ := h
  have hlen := hR.1
  rw [List.length_append] at hlen
  obtain rfl : R = [] := List.eq_nil_of_length_eq_zero (by omega)
  rw [List.append_nil] at hR
  exact row_base hR hb

section
variable {t ns : List UInt8}
end
end Go.Proofs.YtejicboemkpeoaaGreatDoor

namespace Go.Proofs.YtejicboemkpeoaaGreatDoor
open Go Go.RowKit

theorem RowTo.lt {T : TypeId} {n ge q : Nat} {C : List Value} {w : World} (h : RowTo T n w ge q C) : ge < w.heap.size := by
  obtain ⟨R, hR⟩ := h
  exact (hR.lt ge rfl).2
end Go.Proofs.YtejicboemkpeoaaGreatDoor

namespace Go.Proofs.YtejicboemkpeoaaGreatDoor
open Go Go.RowKit

variable {S : List Sect} {p : Int} {n k : Nat} {s : Sect}
/-- Relocations, with where they are. -/
structure RLay where
  a : Option Addr
  c : Nat
  l : List Rel
def RLay.val (x : RLay) : Value := .slice x.a x.l.length x.c
abbrev RowBl (w : World) (base g N : Nat) (h : List Bool) : Prop := w.ownsRow base 4 1 (.slice (some ⟨g, 0, none⟩) N N) N (h.map Value.bool)
abbrev RowQ (w : World) (base g N : Nat) (Q : List RLay) : Prop := w.ownsRow base 320 1 (.slice (some ⟨g, 0, none⟩) N N) N (Q.map RLay.val)
/-- What goes along in the rounds: what was met, the relocations; nothing that was there has turned. -/
structure RelAt (w wr : World) (gm gr N : Nat) (h : List Bool) (Q : List RLay) : Prop where
  met : RowBl wr w.heap.size gm N h
  rel : RowQ wr w.heap.size gr N Q
  own : ∀ q ∈ Q, OwnR wr w.heap.size q.val q.l
  below : Below w.heap.size w wr
variable {w wr w' : World} {gm gr N : Nat} {h : List Bool} {Q : List RLay}
theorem RelAt.later (H : RelAt w wr gm gr N h Q) (hb : Below wr.heap.size wr w') : RelAt w w' gm gr N h Q :=
  ⟨row_below H.met hb, row_below H.rel hb, fun q hq => row_below (H.own q hq) hb, H.below.trans (hb.mono H.below.size)⟩
theorem RelAt.alloc (H : RelAt w wr gm gr N h Q) (o : Obj) : RelAt w (wr.alloc o) gm gr N h Q := H.later ((Below.refl _ _).alloc (Nat.le_refl _) o)
theorem row_lens {T : TypeId} {b n : Nat} {v : Value} {X : List Value} (H : w.ownsRow b T 1 v n X) : X.length = n := by have := H.1; simpa using this
theorem RelAt.lens (H : RelAt w wr gm gr N h Q) : h.length = N ∧ Q.length = N := ⟨by have := row_lens H.met; simpa using this, by have := row_lens H.rel; simpa using this⟩
theorem row_block {T : TypeId} {b n c g : Nat} {X : List Value} (H : w.ownsRow b T 1 (.slice (some ⟨g, 0, none⟩) n c) n X) : b ≤ g ∧ g < w.heap.size ∧ ∃ cs, Box w g T cs := by
  rcases H.2 with ⟨e, _⟩ | ⟨g', cap, cur, e, hb, hg, _⟩
  · cases e
  · injection e with e _ _
    injection e with e
    injection e with e _ _
    subst e
    exact ⟨hb, (Array.getElem?_eq_some_iff.1 hg).1, cur, hg⟩
theorem RelAt.apart (H : RelAt w wr gm gr N h Q) : gm ≠ gr := by
  obtain ⟨_, _, cs, h1⟩ := row_block H.met
  obtain ⟨_, _, cs', h2⟩ := row_block H.rel
  exact Box.other h1 h2 (by decide)
/-- Cells that may be read, and stored. -/
theorem RelAt.cell (H : RelAt w wr gm gr N h Q) {i : Nat} (hi : i < N) : (∃ b, h[i]? = some b ∧ wr.cell? ⟨gm, i, none⟩ = some (.bool b)) ∧ wr.frozen? ⟨gm, i, none⟩ = false ∧ (∃ v, wr.cell? ⟨gr, i, none⟩ = some v) ∧ wr.frozen? ⟨gr, i, none⟩ = false := by
  obtain ⟨l1, l2⟩ := H.lens
  have c1 := World.ownsRow.cellAt (g := gm) (cap := N) H.met i (by omega)
  have c2 := World.ownsRow.cellAt (g := gr) (cap := N) H.rel i (by omega)
  rw [List.getElem?_map] at c1 c2
  refine ⟨⟨h[i]'(by omega), List.getElem?_eq_getElem _, ?_⟩, World.ownsRow.frozenAt (g := gm) (cap := N) H.met i, ⟨(Q[i]'(by omega)).val, ?_⟩, World.ownsRow.frozenAt (g := gr) (cap := N) H.rel i⟩
  · rw [c1, List.getElem?_eq_getElem (by omega)]; rfl
  · rw [c2, List.getElem?_eq_getElem (by omega)]; rfl
/-- Relocations put at a place. -/
theorem RelAt.put (H : RelAt w wr gm gr N h Q) {q : RLay} (hq : OwnR wr w.heap.size q.val q.l) (i : Nat) : RelAt w ((wr.setCell ⟨gm, i, none⟩ (.bool true)).setCell ⟨gr, i, none⟩ q.val) gm gr N (h.set i true) (Q.set i q) := by
  have hB := H.below.size
  obtain ⟨s1, s2⟩ := World.ownsRow.stored H.met i (.bool true)
  have o1 : Only w.heap.size (CellsOf 4) wr _ := row_turns H.met s2 hB
  have r1 := row_only H.rel o1 (fun cs f hh => absurd (show 320 = 4 from hh) (by decide))
  obtain ⟨t1, t2⟩ := World.ownsRow.stored r1 i q.val
  have hB1 := Nat.le_trans hB o1.1.size
  have o2 : Only w.heap.size (CellsOf 320) _ _ := row_turns r1 t2 hB1
  have m2 := row_only s1 o2 (fun cs f hh => absurd (show 4 = 320 from hh) (by decide))
  have hown : ∀ (x : RLay), OwnR wr w.heap.size x.val x.l → OwnR ((wr.setCell ⟨gm, i, none⟩ (.bool true)).setCell ⟨gr, i, none⟩ q.val) w.heap.size x.val x.l := fun x hx =>
    row_only (row_only hx o1 (fun cs f hh => absurd (show 322 = 4 from hh) (by decide))) o2 (fun cs f hh => absurd (show 322 = 320 from hh) (by decide))
  refine ⟨?_, ?_, fun x hx => ?_, H.below.trans (o1.1.trans o2.1)⟩
  · rw [RowBl, List.map_set]; exact m2
  · rw [RowQ, List.map_set]; exact t1
  · rcases List.mem_or_eq_of_mem_set hx with hx | rfl
    · exact hown x (H.own x hx)
    · exact hown _ hq
/-- A row of rows of relocations of the call's own. -/
def OwnQ (w : World) (base : Nat) (v : Value) (R : List (List Rel)) : Prop := ∃ Q : List RLay, Q.map (·.l) = R ∧ w.ownsRow base 320 1 v Q.length (Q.map RLay.val) ∧ ∀ q ∈ Q, OwnR w base q.val q.l
theorem OwnQ.later {base : Nat} {v : Value} {R : List (List Rel)} (H : OwnQ w base v R) (hb : Below w.heap.size w w') : OwnQ w' base v R := by
  obtain ⟨Q, h1, h2, h3⟩ := H
  exact ⟨Q, h1, row_below h2 hb, fun q hq => row_below (h3 q hq) hb⟩
end Go.Proofs.YtejicboemkpeoaaGreatDoor

namespace Go.Proofs.YtejicboemkpeoaaGreatDoor
open Go Go.RowKit

/-- An entry in memory. -/
def EntAt (w : World) (g o : Nat) (ns : List Nat) : Prop := ns.length = 10 ∧ ∀ (j x : Nat), ns[j]? = some x → w.cell? ⟨g, o + j, none⟩ = some (.int .u64 (x : Int))
theorem EntAt.below {w w' : World} {g o B : Nat} {ns : List Nat} (h : EntAt w g o ns) (hb : Below B w w') (hg : g < B) : EntAt w' g o ns :=
  ⟨h.1, fun j x hx => by rw [hb.cell (p := ⟨g, o + j, none⟩) hg]; exact h.2 j x hx⟩
theorem EntAt.lt {w : World} {g o : Nat} {ns : List Nat} (h : EntAt w g o ns) : g < w.heap.size := by
  have h0 : ns[0]? = some (ns[0]'(by rw [h.1]; decide)) := List.getElem?_eq_getElem _
  exact World.block_lt_of_cell? w _ (h.2 0 _ h0)

end Go.Proofs.YtejicboemkpeoaaGreatDoor
