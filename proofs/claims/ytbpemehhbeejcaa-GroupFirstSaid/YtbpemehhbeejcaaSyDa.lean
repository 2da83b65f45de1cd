/-
  Package syms: Take refused for its size.
-/
import Derived.Test.YtbpemehhbeejcaaGpA
import Derived.Test.YtbpemehhbeejcaaCurN
import Derived.Test.YtbpemehhbeejcaaEhC
import Derived.Laws.IdiomStrings
import Derived.Laws.BytesArg
import Derived.Laws.ResultCell
import Derived.Test.YtbpemehhbeejcaaPoO
import Derived.Test.YtbpemehhbeejcaaKeep
import Derived.Lib.AppendZerosOnto
import Derived.Test.YtbpemehhbeejcaaParts
import Derived.Stop.BytesEq
import Derived.Laws.Cover3
import Derived.Test.YtbpemehhbeejcaaCsM
import Derived.Lib.BytesEntry
import Derived.Lib.AppendStr
import Derived.Laws.Externs
import Derived.Deep.Slices
import Derived.Shelf.Bytes.SlCountOne
import Derived.Laws.Rows
import Derived.Test.YtbpemehhbeejcaaPoX
import Derived.Test.YtbpemehhbeejcaaCsA
namespace Go.Proofs.Ytbpemehhbeejcaa
open Go Go.RowKit

/-! ### A cursor, a struct in memory beside it, and what has not turned since w0 -/
def StY (T : TypeId) (w0 w : World) (g : Nat) (v : Value) (l : List UInt8) (a : Nat) (H : Nat) (cs : Array Value) : Prop :=
  Cur w g v l a 0 ∧ Box w H T cs ∧ w0.grownBy w (some g)
section
variable {T : TypeId} {w0 w w' : World} {g : Nat} {v : Value} {l : List UInt8} {a b H : Nat} {cs : Array Value}
theorem StY.call (h : StY T w0 w g v l a H cs) (hne : g ≠ H) (hC : Cur w' g v l b 0) (hG : w.grownBy w' (some g)) : StY T w0 w' g v l b H cs :=
  ⟨hC, h.2.1.grown hG (by simpa using fun e => hne e.symm), h.2.2.trans hG⟩
theorem StY.set (h : StY T w0 w g v l a H cs) (hT : 5 ≠ T) (hne : g ≠ H) (hH : w0.heap.size ≤ H) (i : Nat) (u : Value) : StY T w0 (w.setCell ⟨H, i, none⟩ u) g v l a H (cs.setIfInBounds i u) :=
  have G : w.grownBy (w.setCell ⟨H, i, none⟩ u) (some H) := only_set (only_refl w (some H)) i u
  ⟨h.1.grown G (by simpa using hne) (.inr (own_other h.1.2.1 h.2.1 hT)), h.2.1.set i u, only_trans h.2.2 G (.inr fun x hx => by injection hx with hx; omega)⟩
theorem got_inY {n : Nat} (h : a + n ≤ l.length) : nextGot l a 0 n = cutT l a n ∧ nextAt l a 0 n = a + n ∧ nextErr l a 0 n = 0 := by
  have h' : n ≤ l.length - a := by omega
  simp [nextGot, nextAt, nextErr, cutT, h']
end

end Go.Proofs.Ytbpemehhbeejcaa

namespace Go.Proofs.Ytbpemehhbeejcaa
open Go Go.RowKit

section
variable {P : Program}
end

def cellsL (L : List Lay) : List Value := L.flatMap Lay.cells
theorem cellsL_at : ∀ (L : List Lay) (i : Nat) (x : Lay) (j : Nat) (v : Value), L[i]? = some x → x.cells[j]? = some v → (cellsL L)[i * 9 + j]? = some v
  | [], _, _, _, _, h, _ => by simp at h
  | y :: L, 0, x, j, v, h, hv => by
    simp at h
    subst h
    have hj : j < y.cells.length := (List.getElem?_eq_some_iff.1 hv).1
    rw [show cellsL (y :: L) = y.cells ++ cellsL L from rfl, Nat.zero_mul, Nat.zero_add, List.getElem?_append_left hj]
    exact hv
  | y :: L, i + 1, x, j, v, h, hv => by
    have ih := cellsL_at L i x j v (by simpa using h) hv
    have h9 : y.cells.length = 9 := rfl
    rw [show cellsL (y :: L) = y.cells ++ cellsL L from rfl, List.getElem?_append_right (by omega), h9, show (i + 1) * 9 + j - 9 = i * 9 + j by omega]
    exact ih
theorem cellsL_append (L M : List Lay) : cellsL (L ++ M) = cellsL L ++ cellsL M := by simp [cellsL]
/-- A row of sections of the call's own. -/
abbrev OwnL (w : World) (base : Nat) (v : Value) (L : List Lay) : Prop := w.ownsRow base 61 9 v L.length (cellsL L)
/-- A row of the call's own, as sections that lie. -/
theorem ownl_secs {w : World} {base : Nat} {v : Value} {L : List Lay} (h : OwnL w base v L) (hok : ∀ x ∈ L, x.Ok w w.heap.size) : ∃ A c, v = .slice A L.length c ∧ L.length ≤ c ∧ c ≤ maxLen ∧ Secs w w.heap.size A L := by
  rcases h.2 with ⟨rfl, h0⟩ | ⟨g, cap, cur, rfl, hb, hg, hnc, hcm, hcs, htake⟩
  · rw [h0]
    exact ⟨none, 0, rfl, Nat.le_refl _, Nat.zero_le _, ⟨fun hl => by omega, hok⟩⟩
  · have hlt : g < w.heap.size := by
      rcases Nat.lt_or_ge g w.heap.size with h1 | h1
      · exact h1
      · rw [Array.getElem?_eq_none h1] at hg; cases hg
    refine ⟨some ⟨g, 0, none⟩, cap, rfl, hnc, hcm, ⟨fun _ => ⟨g, 0, rfl, hlt, fun i x hx j u hu => ?_⟩, hok⟩⟩
    have hc := cellsL_at L i x j u hx hu
    have hil := (List.getElem?_eq_some_iff.1 hx).1
    have hjl : j < 9 := (List.getElem?_eq_some_iff.1 hu).1
    have h1 := World.ownsRow.cellAt (g := g) (cap := cap) h (i * 9 + j) (by omega)
    rw [Nat.zero_add, h1, hc]

end Go.Proofs.Ytbpemehhbeejcaa

namespace Go.Proofs.Ytbpemehhbeejcaa
open Go Go.RowKit

theorem row_below {w w' : World} {base : Nat} {e : TypeId} {size n : Nat} {v : Value} {xs : List Value} (h : w.ownsRow base e size v n xs) (hb : Below w.heap.size w w') : w'.ownsRow base e size v n xs :=
  row_only h (Only.below (base := 0) (bad := fun _ => False) hb (Nat.zero_le _)) (fun _ _ x => x)
theorem row_base {w : World} {base base' : Nat} {e : TypeId} {size n : Nat} {v : Value} {xs : List Value} (h : w.ownsRow base e size v n xs) (hb : base' ≤ base) : w.ownsRow base' e size v n xs :=
  ⟨h.1, h.2.imp id fun ⟨g, cap, cur, p, q, r⟩ => ⟨g, cap, cur, p, Nat.le_trans hb q, r⟩⟩

end Go.Proofs.Ytbpemehhbeejcaa

namespace Go.Proofs.Ytbpemehhbeejcaa
open Go Go.RowKit

/-- The rounds of Take: the row's first k items are there. -/
def RowTo (T : TypeId) (n : Nat) (w : World) (ge q : Nat) (C : List Value) : Prop := ∃ R : List Value, w.ownsRow ge T n (.slice (some ⟨ge, 0, none⟩) q q) q (C ++ R)
theorem RowTo.kept {T : TypeId} {n ge q : Nat} {C : List Value} {w w' : World} {row : Option Nat} (h : RowTo T n w ge q C) (hg : w.grownBy w' row) (hne : some ge ≠ row) : RowTo T n w' ge q C := by
  obtain ⟨R, hR⟩ := h
  exact ⟨R, World.ownsRow.kept (w := w) hR hg (.inr (by simpa [Value.ownBlock] using hne))⟩
theorem RowTo.below {T : TypeId} {n ge q : Nat} {C : List Value} {w w' : World} (h : RowTo T n w ge q C) (hb : Below w.heap.size w w') : RowTo T n w' ge q C := by
  obtain ⟨R, hR⟩ := h
  exact ⟨R, World.ownsRow.kept (w := w) hR (only_below hb none) (.inr (by simp [Value.ownBlock]))⟩
theorem RowTo.free {T : TypeId} {n ge q : Nat} {C : List Value} {w : World} (h : RowTo T n w ge q C) (j : Nat) (hj : j < q * n) : (∃ v, w.cell? ⟨ge, j, none⟩ = some v) ∧ w.frozen? ⟨ge, j, none⟩ = false := by
  obtain ⟨R, hR⟩ := h
  exact row_free hR j hj
theorem RowTo.store {T : TypeId} {n ge q : Nat} {C : List Value} {w : World} (h : RowTo T n w ge q C) (vs : List Value) (hl : C.length + vs.length ≤ q * n) : RowTo T n (setAll w ge C.length vs) ge q (C ++ vs) ∧ w.grownBy (setAll w ge C.length vs) (some ge) := by
  obtain ⟨R, hR⟩ := h
  have hlen := hR.1
  rw [List.length_append] at hlen
  obtain ⟨h1, h2⟩ := row_stores vs w C R hR (by omega)
  exact ⟨⟨_, h1⟩, h2⟩
theorem RowTo.done {T : TypeId} {n ge q base : Nat} {C : List Value} {w : World} (h : RowTo T n w ge q C) (hl : C.length = q * n) (hb : base ≤ ge) : w.ownsRow base T n (.slice (some ⟨ge, 0, none⟩) q q) q C := by
  obtain ⟨R, hR⟩ := h
  have hlen := hR.1
  rw [List.length_append] at hlen
  obtain rfl : R = [] := List.eq_nil_of_length_eq_zero (by omega)
  rw [List.append_nil] at hR
  exact row_base hR hb

section
variable {t ns : List UInt8}
end
end Go.Proofs.Ytbpemehhbeejcaa

namespace Go.Proofs.Ytbpemehhbeejcaa
open Go Go.RowKit

theorem RowTo.lt {T : TypeId} {n ge q : Nat} {C : List Value} {w : World} (h : RowTo T n w ge q C) : ge < w.heap.size := by
  obtain ⟨R, hR⟩ := h
  exact (hR.lt ge rfl).2
end Go.Proofs.Ytbpemehhbeejcaa
