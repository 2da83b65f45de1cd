/-
  Heads and bodies that came in, opened to their cells.
-/
import Derived.Test.YtpmpgfngogdfhaaDoorUnG
import Derived.Deep.RegionHeldLaw
import Derived.Test.YtpmpgfngogdfhaaDoorLtZ
import Derived.Deep.Slices
namespace Go.Proofs.YtpmpgfngogdfhaaDoor
open Go Go.RowKit Go.ChangeShapes Go.WideShapes Go.ChangeAt Go.Deep

theorem list_ofU {α : Type} {P : Nat → α → Prop} : ∀ (n : Nat), (∀ i, i < n → ∃ x, P i x) → ∃ L : List α, L.length = n ∧ ∀ (i : Nat) (x : α), L[i]? = some x → P i x
  | 0, _ => ⟨[], rfl, fun i x h => by simp at h⟩
  | n + 1, h => by
    obtain ⟨L, h1, h2⟩ := list_ofU n (fun i hi => h i (by omega))
    obtain ⟨y, hy⟩ := h n (by omega)
    refine ⟨L ++ [y], by simp [h1], fun i x hx => ?_⟩
    rcases Nat.lt_or_ge i n with hi | hi
    · rw [List.getElem?_append_left (by omega)] at hx
      exact h2 i x hx
    · have hil : i < (L ++ [y]).length := (List.getElem?_eq_some_iff.1 hx).1
      have : i = n := by simp at hil; omega
      subst this
      rw [List.getElem?_append_right (by omega), h1, Nat.sub_self] at hx
      injection hx with hx
      exact hx ▸ hy

theorem un_bool : Tryd.prog.cellsOf 4 = 1 := by kernel_rfl
theorem un_u64 : Tryd.prog.cellsOf 41 = 1 := by kernel_rfl

section
variable {H : Type} {enc : TypeId × Value → H} {w : World}
end

/-- A unit to be put: its head, its entries' bytes and where they are. -/
structure UBody where
  h : UHd
  b : List UInt8
  a : Option Addr
  c : Nat
def UBody.cells (y : UBody) : List Value := y.h.cells ++ [.slice y.a y.b.length y.c]
structure UBody.In (w : World) (y : UBody) : Prop where
  h : y.h.In
  r : Rd w w.heap.size y.a y.b
  c : y.b.length ≤ y.c
section
variable {H : Type} {enc : TypeId × Value → H} {w : World}
end

end Go.Proofs.YtpmpgfngogdfhaaDoor
