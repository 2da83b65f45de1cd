/-
  Rows cut in two, as the program's slices have them; an empty row of the call's own.
-/
import Derived.Test.YtelmfhpefnemfaaDoorLoC
namespace Go.Proofs.YtelmfhpefnemfaaDoor
open Go Go.RowKit

theorem ownr_empty {X : World} {base g size : Nat} {e : TypeId} (h : X.heap[g]? = some (.cells #[] e (0, 0))) (hg : base ≤ g) : X.ownsRow base e size (.slice (some ⟨g, 0, none⟩) 0 0) 0 [] :=
  ⟨by simp, .inr ⟨g, 0, #[], rfl, hg, h, Nat.le_refl _, Nat.zero_le _, by simp, by simp⟩⟩
section
variable {α : Type} {f : α → List Value} {n : Nat} {w : World} {B : Nat} {ad : Addr} {L : List α} {N c i : Nat}
/-- l[i:] -/
theorem cut_behind (hn : ∀ x, (f x).length = n) (h : Row n f w B (some ad) L) (hN : L.length = N) (hc : N ≤ c) :
    ((if c = i then some ad else some (ad.add (i * n))) = none → N - i = 0) ∧ (cellsF f (L.drop i)).length = (N - i) * n ∧ ∀ ad', (if c = i then some ad else some (ad.add (i * n))) = some ad' → ∀ j u, (cellsF f (L.drop i))[j]? = some u → w.cell? (ad'.add j) = some u := by
  refine ⟨fun e => (by split at e <;> cases e), by rw [cellsF_length hn, List.length_drop, hN], fun ad' e j u hu => ?_⟩
  split at e
  · rename_i hci
    rw [List.drop_eq_nil_of_le (by omega)] at hu
    simp [cellsF] at hu
  · injection e with e
    subst e
    exact (row_news hn (row_drop h i)).2 _ rfl j u hu
/-- l[:i] -/
theorem cut_ahead (hn : ∀ x, (f x).length = n) (h : Row n f w B (some ad) L) (hN : L.length = N) (hi : i ≤ N) :
    (cellsF f (L.take i)).length = i * n ∧ ∀ j u, (cellsF f (L.take i))[j]? = some u → w.cell? (ad.add j) = some u :=
  ⟨by rw [cellsF_length hn, List.length_take, hN, Nat.min_eq_left hi], fun j u hu => (row_news hn (row_take h i)).2 _ rfl j u hu⟩
end
end Go.Proofs.YtelmfhpefnemfaaDoor
