/-
  Package object: the sections of the file that an object is put as.
-/
import Derived.Test.YtejicboemkpeoaaDoorSeR
import Derived.Test.YtejicboemkpeoaaDoorSeV
import Derived.Test.YtejicboemkpeoaaDoorEhL
import Derived.Test.YtejicboemkpeoaaDoorEhH
import Derived.Test.YtejicboemkpeoaaDoorRefR
import Derived.Test.YtejicboemkpeoaaDoorPoX
import Derived.Test.YtejicboemkpeoaaDoorCsL
import Derived.Test.YtejicboemkpeoaaDoorCsQ
import Derived.Test.YtejicboemkpeoaaDoorSyI
import Derived.Test.YtejicboemkpeoaaDoorEhC
import Derived.Test.YtejicboemkpeoaaDoorEhA
import Derived.Test.YtejicboemkpeoaaDoorKeep
import Derived.Lib.AppendZerosOnto
import Derived.Test.YtejicboemkpeoaaDoorPut
import Derived.Deep.RegionHeldLaw
import Derived.Test.YtejicboemkpeoaaDoorPoO
import Derived.Laws.Concat
namespace Go.Proofs.YtejicboemkpeoaaDoor
open Go Go.RowKit

/-! ### Objects in memory -/
def RLay.cells1 (q : RLay) : List Value := [q.val]
theorem rlay_one (q : RLay) : q.cells1.length = 1 := rfl
/-- Rows of relocations that lie side by side. -/
structure Lists (w : World) (B : Nat) (a : Option Addr) (Q : List RLay) : Prop where
  row : Row 1 RLay.cells1 w B a Q
  rels : ∀ q ∈ Q, Rels w B q.a q.l
theorem Lists.below {w w' : World} {B : Nat} {a : Option Addr} {Q : List RLay} (h : Lists w B a Q) (hb : Below B w w') : Lists w' B a Q := ⟨h.row.below hb, fun q hq => (h.rels q hq).below hb⟩
theorem Lists.more {w : World} {B B' : Nat} {a : Option Addr} {Q : List RLay} (h : Lists w B a Q) (hB : B ≤ B') : Lists w B' a Q := ⟨h.row.more hB, fun q hq => (h.rels q hq).more hB⟩
/-- One of the rows: its value where it lies. -/
theorem Lists.at_ {w : World} {B : Nat} {a : Option Addr} {Q : List RLay} (h : Lists w B a Q) {i : Nat} {q : RLay} (hq : Q[i]? = some q) : ∃ b o, a = some ⟨b, o, none⟩ ∧ b < B ∧ w.cell? ⟨b, o + i, none⟩ = some (.slice q.a q.l.length q.c) := by
  have hl : 0 < Q.length := by have := (List.getElem?_eq_some_iff.1 hq).1; omega
  obtain ⟨b, o, e, hlt, hc⟩ := h.row hl
  have := hc i q hq 0 _ rfl
  rw [Nat.mul_one, Nat.add_zero] at this
  exact ⟨b, o, e, hlt, this⟩
/-- An object, with where its rows are. -/
structure ObjV where
  kind : Int
  machine : Int
  aS : Option Addr
  cS : Nat
  L : List Lay
  aY : Option Addr
  cY : Nat
  Y : List Sym
  aR : Option Addr
  cR : Nat
  Q : List RLay
def ObjV.cells (o : ObjV) : List Value := [.int .i64 o.kind, .int .i64 o.machine, .slice o.aS o.L.length o.cS, .slice o.aY o.Y.length o.cY, .slice o.aR o.Q.length o.cR]
def ObjV.val (o : ObjV) : Value := .agg o.cells.toArray
structure ObjV.Ok (w : World) (B : Nat) (o : ObjV) : Prop where
  secs : Secs w B o.aS o.L
  syms : Syms w B o.aY o.Y
  lists : Lists w B o.aR o.Q
  capS : o.L.length ≤ o.cS
  capR : o.Q.length ≤ o.cR
theorem ObjV.Ok.below {w w' : World} {B : Nat} {o : ObjV} (h : o.Ok w B) (hb : Below B w w') : o.Ok w' B := ⟨h.secs.below hb, Row.below h.syms hb, h.lists.below hb, h.capS, h.capR⟩
theorem ObjV.Ok.more {w : World} {B B' : Nat} {o : ObjV} (h : o.Ok w B) (hB : B ≤ B') : o.Ok w B' := ⟨h.secs.more hB, Row.more h.syms hB, h.lists.more hB, h.capS, h.capR⟩
/-! ### A struct of five cells -/
section
variable {W : World} {H : Nat} {T : TypeId}
theorem five_cells {c0 c1 c2 c3 c4 : Value} (h : Box W H T #[c0, c1, c2, c3, c4]) : W.cell? ⟨H, 0, none⟩ = some c0 ∧ W.cell? ⟨H, 1, none⟩ = some c1 ∧ W.cell? ⟨H, 2, none⟩ = some c2 ∧ W.cell? ⟨H, 3, none⟩ = some c3 ∧ W.cell? ⟨H, 4, none⟩ = some c4 := by
  refine ⟨?_, ?_, ?_, ?_, ?_⟩ <;> (rw [h.cell]; rfl)
end

end Go.Proofs.YtejicboemkpeoaaDoor

namespace Go.Proofs.YtejicboemkpeoaaDoor
open Go Go.RowKit

/-- Relocations that an object may not have, if it has n symbols. -/
def badL (n : Nat) (l : List Rel) : Bool := decide (400 < l.length) || !(fitR l n)
end Go.Proofs.YtejicboemkpeoaaDoor

namespace Go.Proofs.YtejicboemkpeoaaDoor
open Go Go.RowKit

theorem nine_cells {W : World} {H : Nat} {T : TypeId} {c0 c1 c2 c3 c4 c5 c6 c7 c8 : Value} (h : Box W H T #[c0, c1, c2, c3, c4, c5, c6, c7, c8]) : W.cell? ⟨H, 0, none⟩ = some c0 ∧ W.cell? ⟨H, 1, none⟩ = some c1 ∧ W.cell? ⟨H, 2, none⟩ = some c2 ∧ W.cell? ⟨H, 3, none⟩ = some c3 ∧ W.cell? ⟨H, 4, none⟩ = some c4 ∧ W.cell? ⟨H, 5, none⟩ = some c5 ∧ W.cell? ⟨H, 6, none⟩ = some c6 ∧ W.cell? ⟨H, 7, none⟩ = some c7 ∧ W.cell? ⟨H, 8, none⟩ = some c8 := by
  refine ⟨?_, ?_, ?_, ?_, ?_, ?_, ?_, ?_, ?_⟩ <;> (rw [h.cell]; rfl)
end Go.Proofs.YtejicboemkpeoaaDoor

namespace Go.Proofs.YtejicboemkpeoaaDoor
open Go Go.RowKit

theorem Only.wide {base : Nat} {bad bad' : Obj → Prop} {a b : World} (h : Only base bad a b) (hs : ∀ o, bad o → bad' o) : Only base bad' a b := ⟨h.1, fun k o hk hn => h.2 k o hk (fun hb => hn (hs o hb))⟩
/-- Sections' bytes: below a place, or rows of the call's own. -/
def KeepL (w : World) (B : Nat) (L : List Lay) : Prop := ∀ x ∈ L, (Rd w B x.A x.s.data ∨ Own w B x.dv x.s.data) ∧ x.s.data.length ≤ x.c ∧ x.c ≤ maxLen
theorem KeepL.only {w w' : World} {B : Nat} {L : List Lay} {bad : Obj → Prop} (h : KeepL w B L) (hb : Only B bad w w') (hn : ∀ cs f, ¬ bad (.cells cs 5 f)) : KeepL w' B L := fun x hx => by
  obtain ⟨h1, h2⟩ := h x hx
  exact ⟨h1.imp (fun h => h.below hb.1) (fun h => row_only h hb hn), h2⟩
theorem KeepL.rd {w : World} {B : Nat} {L : List Lay} (h : KeepL w B L) (hB : B ≤ w.heap.size) {x : Lay} (hx : x ∈ L) : Rd w w.heap.size x.A x.s.data ∧ x.s.data.length ≤ x.c ∧ x.c ≤ maxLen := by
  obtain ⟨h1, h2⟩ := h x hx
  refine ⟨?_, h2⟩
  rcases h1 with h1 | h1
  · exact h1.more hB
  · obtain ⟨A, c, e, _, _, hr⟩ := own_slice h1
    unfold Lay.dv at e
    injection e with e1 _ _
    rw [e1]
    exact hr

end Go.Proofs.YtejicboemkpeoaaDoor

namespace Go.Proofs.YtejicboemkpeoaaDoor
open Go Go.RowKit

/-- A row of bytes, and relocations that lie further down. -/
structure RelSt (w wr : World) (u : Value) (T : List UInt8) : Prop where
  row : Own wr w.heap.size u T
  below : Below w.heap.size w wr
theorem RelSt.laid {w wr w' : World} {u u' : Value} {T T' : List UInt8} (h : RelSt w wr u T) (hL : Laid wr w' w.heap.size u u' T') : RelSt w w' u' T' :=
  ⟨hL.1, h.below.grown hL.2.1 h.below.size (fun x hx => (own_ge h.row x hx).1)⟩
theorem RelSt.alloc {w wr : World} {u : Value} {T : List UInt8} (h : RelSt w wr u T) (o : Obj) : RelSt w (wr.alloc o) u T :=
  have hA : Below wr.heap.size wr (wr.alloc o) := (Below.refl _ _).alloc (Nat.le_refl _) _
  ⟨own_below h.row hA, h.below.trans (hA.mono h.below.size)⟩
end Go.Proofs.YtejicboemkpeoaaDoor

namespace Go.Proofs.YtejicboemkpeoaaDoor
open Go Go.RowKit

/-- Bytes behind the row. -/
theorem RelSt.more {w wr w2 w3 : World} {u u' : Value} {T T' : List UInt8} (h : RelSt w wr u T) (hb : Below wr.heap.size wr w2) (ho : Own w3 w.heap.size u' T') (hg : w2.grownBy w3 u.ownBlock) : RelSt w w3 u' T' :=
  ⟨ho, (h.below.trans (hb.mono h.below.size)).grown hg (Nat.le_trans h.below.size hb.size) (fun x hx => (own_ge h.row x hx).1)⟩
end Go.Proofs.YtejicboemkpeoaaDoor

namespace Go.Proofs.YtejicboemkpeoaaDoor
open Go Go.RowKit

variable {S : List Sect} {Y : List Sym} {R : List (List Rel)} {k : Nat} {s : Sect} {l : List Rel}
/-- What is true of an object that may be put. -/
structure RightOb (S : List Sect) (Y : List Sym) (R : List (List Rel)) : Prop where
  first : ∃ s, S[0]? = some s ∧ sameS s zeroS = true
  made : anyMade S = false
  syms : rightY Y = true
  placed : placedY Y S.length = true
  len : R.length = 0 ∨ R.length = S.length
  none_ : R.length ≠ 0 → (R.headD []).length = 0
  lists : ∀ l ∈ R, badL Y.length l = false
theorem RightOb.fit (h : RightOb S Y R) (hl : l ∈ R) : l.length ≤ 400 ∧ fitR l Y.length = true := by
  have := h.lists l hl
  unfold badL at this
  simp only [Bool.or_eq_false_iff, decide_eq_false_iff_not, Bool.not_eq_false'] at this
  exact ⟨by omega, this.2⟩
/-! ### The row that grows -/
/-- Sections laid one behind the other in a row of the call's own. -/
structure FileSt (w wr : World) (v : Value) (L : List Lay) : Prop where
  row : OwnL wr w.heap.size v L
  keep : KeepL wr w.heap.size L
  fits : ∀ x ∈ L, x.s.Fits
  below : Below w.heap.size w wr
theorem FileSt.later {w wr w' : World} {v : Value} {L : List Lay} (h : FileSt w wr v L) (hb : Below wr.heap.size wr w') : FileSt w w' v L :=
  ⟨row_below h.row hb, h.keep.only (Only.below (bad := fun _ => False) hb h.below.size) (fun _ _ x => x), h.fits, h.below.trans (hb.mono h.below.size)⟩
theorem FileSt.alloc {w wr : World} {v : Value} {L : List Lay} (h : FileSt w wr v L) (o : Obj) : FileSt w (wr.alloc o) v L := h.later ((Below.refl _ _).alloc (Nat.le_refl _) o)
theorem FileSt.more {w wr w' : World} {v : Value} {L M : List Lay} {g c : Nat} (h : FileSt w wr v L) (hM : ∀ x ∈ M, Own wr w.heap.size x.dv x.s.data ∧ x.s.Fits) (hr : w'.ownsRow w.heap.size 70 9 (.slice (some ⟨g, 0, none⟩) (L.length + M.length) c) (L.length + M.length) (cellsL L ++ cellsL M)) (hg : wr.grownBy w' v.ownBlock) :
    FileSt w w' (.slice (some ⟨g, 0, none⟩) (L ++ M).length c) (L ++ M) := by
  have ho := row_turns h.row hg h.below.size
  refine ⟨by rw [OwnL, List.length_append, cellsL_append]; exact hr, fun x hx => ?_, fun x hx => ?_, h.below.trans ho.1⟩
  · rcases List.mem_append.1 hx with hx | hx
    · exact (h.keep.only ho (fun cs f hh => absurd (show 5 = 70 from hh) (by decide))) x hx
    · have h1 : Own w' w.heap.size x.dv x.s.data := row_only (hM x hx).1 ho (fun cs f hh => absurd (show 5 = 70 from hh) (by decide))
      obtain ⟨A, c', e, hle, hcm, _⟩ := own_slice h1
      unfold Lay.dv at e
      injection e with e1 e2 e3
      exact ⟨.inr h1, by rw [e3]; exact hle, by rw [e3]; exact hcm⟩
  · rcases List.mem_append.1 hx with hx | hx
    · exact h.fits x hx
    · exact (hM x hx).2
/-- The row, as sections that lie. -/
theorem FileSt.secs {w wr : World} {v : Value} {L : List Lay} (h : FileSt w wr v L) : ∃ A c, v = .slice A L.length c ∧ L.length ≤ c ∧ c ≤ maxLen ∧ Secs wr wr.heap.size A L :=
  ownl_secs h.row (fun x hx => by
    obtain ⟨h1, h2, h3⟩ := h.keep.rd h.below.size hx
    exact ⟨h1, h2, h3, h.fits x hx⟩)

end Go.Proofs.YtejicboemkpeoaaDoor
