/-
  Package syms: Take.
-/

import Derived.Test.YtkadjejjillmmaaSeB
import Derived.Test.YtkadjejjillmmaaKeep
import Derived.Lib.AppendZerosOnto
import Derived.Test.YtkadjejjillmmaaPoX
import Derived.Laws.Cover3
import Derived.Test.YtkadjejjillmmaaSyC
import Derived.Test.YtkadjejjillmmaaCsA
import Derived.Test.YtkadjejjillmmaaCurD
namespace Go.Proofs.Ytkadjejjillmmaa
open Go Go.RowKit

/-- The texts of the table and the places, name by name. -/
def gat (ns : List (List UInt8)) : List (List UInt8) × List Nat := ns.foldl (fun p t => ((addT p.1 t).1, p.2 ++ [(addT p.1 t).2.1])) ([], [])
theorem gat_next (ns : List (List UInt8)) (t : List UInt8) : gat (ns ++ [t]) = ((addT (gat ns).1 t).1, (gat ns).2 ++ [(addT (gat ns).1 t).2.1]) := by
  unfold gat
  rw [List.foldl_append]
  rfl
theorem gat_take {ns : List (List UInt8)} {k : Nat} {t : List UInt8} (h : ns[k]? = some t) : gat (ns.take (k + 1)) = ((addT (gat (ns.take k)).1 t).1, (gat (ns.take k)).2 ++ [(addT (gat (ns.take k)).1 t).2.1]) := by
  rw [List.take_add_one, h]
  exact gat_next _ _
theorem row_base {w : World} {base base' : Nat} {e : TypeId} {size n : Nat} {v : Value} {xs : List Value} (h : w.ownsRow base e size v n xs) (hb : base' ≤ base) : w.ownsRow base' e size v n xs :=
  ⟨h.1, h.2.imp id fun ⟨g, cap, cur, p, q, r⟩ => ⟨g, cap, cur, p, Nat.le_trans hb q, r⟩⟩

end Go.Proofs.Ytkadjejjillmmaa

namespace Go.Proofs.Ytkadjejjillmmaa
open Go Go.RowKit

/-- The rounds of Take: the row's first k items are there. -/
def RowTo (T : TypeId) (n : Nat) (w : World) (ge q : Nat) (C : List Value) : Prop := ∃ R : List Value, w.ownsRow ge T n (.slice (some ⟨ge, 0, none⟩) q q) q (C ++ R)
theorem RowTo.kept {T : TypeId} {n ge q : Nat} {C : List Value} {w w' : World} {row : Option Nat} (h : RowTo T n w ge q C) (hg : w.grownBy w' row) (hne : some ge ≠ row) : RowTo T n w' ge q C := by
  obtain ⟨R, hR⟩ := h
  exact ⟨R, World.ownsRow.kept (w := w) hR hg (.inr (by simpa [Value.ownBlock] using hne))⟩
theorem RowTo.below {T : TypeId} {n ge q : Nat} {C : List Value} {w w' : World} (h : RowTo T n w ge q C) (hb : Below w.heap.size w w') : RowTo T n w' ge q C := by
  obtain ⟨R, hR⟩ := h
  exact ⟨R, World.ownsRow.kept (w := w) hR (only_below hb none) (.inr (by simp [Value.ownBlock]))⟩
theorem RowTo.free {T : TypeId} {n ge q : Nat} {C : List Value} {w : World} (h : RowTo T n w ge q C) (j : Nat) (hj : j < q * n) : (∃ v, w.cell? ⟨ge, j, none⟩ = some v) ∧ w.frozen? ⟨ge, j, none⟩ = false := by
  obtain ⟨R, hR⟩ := h
  exact row_free hR j hj
theorem RowTo.store {T : TypeId} {n ge q : Nat} {C : List Value} {w : World} (h : RowTo T n w ge q C) (vs : List Value) (hl : C.length + vs.length ≤ q * n) : RowTo T n (setAll w ge C.length vs) ge q (C ++ vs) ∧ w.grownBy (setAll w ge C.length vs) (some ge) := by
  obtain ⟨R, hR⟩ := h
  have hlen := hR.1
  rw [List.length_append] at hlen
  obtain ⟨h1, h2⟩ := row_stores vs w C R hR (by omega)
  exact ⟨⟨_, h1⟩, h2⟩
theorem RowTo.done {T : TypeId} {n ge q base : Nat} {C : List Value} {w : World} (h : RowTo T n w ge q C) (hl : C.length = q * n) (hb : base ≤ ge) : w.ownsRow base T n (.slice (some ⟨ge, 0, none⟩) q q) q C := by
  obtain ⟨R, hR⟩ := h
  have hlen := hR.1
  rw [List.length_append] at hlen
  obtain rfl : R = [] := List.eq_nil_of_length_eq_zero (by omega)
  rw [List.append_nil] at hR
  exact row_base hR hb

section
variable {t ns : List UInt8}
theorem takeEY_ok {len q : Nat} {ok : Nat → Bool} {bad : Int} (h : len = 24 * q) (hq : q ≤ 400) (ho : okTo ok q = true) : takeEY len ok bad = 0 := by
  unfold takeEY
  rw [if_neg (by omega), if_neg (by omega), show len / 24 = q by omega, if_pos ho]
theorem takeEY_bad {len q : Nat} {ok : Nat → Bool} {bad : Int} (h : len = 24 * q) (hq : q ≤ 400) (ho : okTo ok q = false) : takeEY len ok bad = bad := by
  unfold takeEY
  rw [if_neg (by omega), if_neg (by omega), show len / 24 = q by omega, if_neg (by simp [ho])]
theorem takeLY_ok {α : Type} {len q : Nat} {ok : Nat → Bool} {f : Nat → α} (h : len = 24 * q) (hq : q ≤ 400) (ho : okTo ok q = true) : takeLY len ok f = listTo f q := by
  unfold takeLY
  rw [if_neg (by omega), if_neg (by omega), show len / 24 = q by omega, if_pos ho]
theorem takeLY_bad {α : Type} {len q : Nat} {ok : Nat → Bool} {f : Nat → α} (h : len = 24 * q) (hq : q ≤ 400) (ho : okTo ok q = false) : takeLY len ok f = [] := by
  unfold takeLY
  rw [if_neg (by omega), if_neg (by omega), show len / 24 = q by omega, if_neg (by simp [ho])]
theorem takeEY_odd {len : Nat} {ok : Nat → Bool} {bad : Int} (h : len % 24 ≠ 0) : takeEY len ok bad = bad := by unfold takeEY; rw [if_pos h]
theorem takeLY_odd {α : Type} {len : Nat} {ok : Nat → Bool} {f : Nat → α} (h : len % 24 ≠ 0) : takeLY len ok f = [] := by unfold takeLY; rw [if_pos h]
theorem takeEY_big {len : Nat} {ok : Nat → Bool} {bad : Int} (h : ¬ len % 24 ≠ 0) (h2 : 400 < len / 24) : takeEY len ok bad = 3 := by unfold takeEY; rw [if_neg h, if_pos h2]
theorem takeLY_big {α : Type} {len : Nat} {ok : Nat → Bool} {f : Nat → α} (h : ¬ len % 24 ≠ 0) (h2 : 400 < len / 24) : takeLY len ok f = [] := by unfold takeLY; rw [if_neg h, if_pos h2]
end
theorem below_only {B : Nat} {a b c : World} {g : Nat} (h : Below B a b) (hB : B ≤ a.heap.size) (hg : b.grownBy c (some g)) (hBg : B ≤ g) : Below B a c :=
  h.grown hg (Nat.le_trans hB h.size) (fun x hx => by injection hx with hx; omega)

end Go.Proofs.Ytkadjejjillmmaa
