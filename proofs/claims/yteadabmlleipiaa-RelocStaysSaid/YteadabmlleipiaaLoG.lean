/-
  Rows cut in two, as the program's slices have them; an empty row of the call's own.
-/
import Derived.Test.YteadabmlleipiaaLoA
import Derived.Deep.AppendLies
namespace Go.Proofs.Yteadabmlleipiaa
open Go Go.RowKit

section
variable {P : Program}
end

/-! ### A row cut in two -/
section
variable {α : Type} {f : α → List Value} {n : Nat} {w : World} {B : Nat} {a : Option Addr} {L : List α}
/-- The cells of a row, as an append asks for them. -/
theorem row_news (hn : ∀ x, (f x).length = n) (h : Row n f w B a L) : (a = none → L.length = 0) ∧ ∀ ad, a = some ad → ∀ j u, (cellsF f L)[j]? = some u → w.cell? (ad.add j) = some u := by
  constructor
  · intro e
    rcases Nat.eq_zero_or_pos L.length with h0 | h0
    · exact h0
    · obtain ⟨b, o, e', _⟩ := h h0
      rw [e] at e'; cases e'
  · intro ad e j u hu
    have hl : 0 < L.length := by
      rcases Nat.eq_zero_or_pos L.length with h0 | h0
      · rw [List.eq_nil_of_length_eq_zero h0] at hu
        simp [cellsF] at hu
      · exact h0
    obtain ⟨b, o, e', hlt, hc⟩ := h hl
    rw [e] at e'
    injection e' with e'
    subst e'
    have hj : j < (cellsF f L).length := (List.getElem?_eq_some_iff.1 hu).1
    rw [cellsF_length hn] at hj
    have hn0 : 0 < n := by rcases Nat.eq_zero_or_pos n with h0 | h0; (subst h0; simp at hj); exact h0
    have hq : j / n < L.length := (Nat.div_lt_iff_lt_mul hn0).2 hj
    have hm := Nat.mod_lt j hn0
    obtain ⟨x, hx⟩ : ∃ x, L[j / n]? = some x := ⟨_, List.getElem?_eq_getElem hq⟩
    obtain ⟨v, hv⟩ : ∃ v, (f x)[j % n]? = some v := ⟨_, List.getElem?_eq_getElem (by rw [hn]; exact hm)⟩
    have h1 := cellsF_at hn L (j / n) x (j % n) v hx hv
    rw [show j / n * n + j % n = j by rw [Nat.mul_comm]; exact Nat.div_add_mod j n] at h1
    rw [hu] at h1
    injection h1 with h1
    subst h1
    have h2 := hc (j / n) x hx (j % n) u hv
    rw [show o + j / n * n + j % n = o + j by have := Nat.div_add_mod j n; rw [Nat.mul_comm] at this; omega] at h2
    rw [addr_add]
    exact h2
end
end Go.Proofs.Yteadabmlleipiaa

namespace Go.Proofs.Yteadabmlleipiaa
open Go Go.RowKit

theorem ownr_empty {X : World} {base g size : Nat} {e : TypeId} (h : X.heap[g]? = some (.cells #[] e (0, 0))) (hg : base ≤ g) : X.ownsRow base e size (.slice (some ⟨g, 0, none⟩) 0 0) 0 [] :=
  ⟨by simp, .inr ⟨g, 0, #[], rfl, hg, h, Nat.le_refl _, Nat.zero_le _, by simp, by simp⟩⟩
section
variable {α : Type} {f : α → List Value} {n : Nat} {w : World} {B : Nat} {ad : Addr} {L : List α} {N c i : Nat}
end
end Go.Proofs.Yteadabmlleipiaa
