/-
  Package linkmap: maps by sections, and by names, in memory: what they tell.
-/
import Derived.Test.YtpmndmbhkfbljaaLmC
import Derived.Test.YtpmndmbhkfbljaaGpM
import Derived.DeepKeys4
namespace Go.Proofs.Ytpmndmbhkfbljaa
open Go Go.RowKit Go.Maps

theorem wf_i64 {o : Int} (h : InI o) : (Lit.int .i64 o).wf = true := by
  obtain ⟨h1, h2⟩ := h
  show (decide (IntKind.i64.min ≤ o) && decide (o ≤ IntKind.i64.max)) = true
  rw [Bool.and_eq_true, decide_eq_true_eq, decide_eq_true_eq]
  exact ⟨h1, h2⟩
theorem wf_u64 {n : Nat} (h : n < two64) : (Lit.int .u64 (n : Int)).wf = true := by
  unfold two64 at h
  show (decide (IntKind.u64.min ≤ (n : Int)) && decide ((n : Int) ≤ IntKind.u64.max)) = true
  rw [Bool.and_eq_true, decide_eq_true_eq, decide_eq_true_eq, show IntKind.u64.min = 0 from rfl, show IntKind.u64.max = 18446744073709551615 from rfl]
  omega
/-- A map of names tells the symbols. -/
structure YMap (w : World) (base mb : Nat) (Y : List Named) : Prop where
  ge : base ≤ mb
  own : ∃ (n : Nat) (D : DataW Unit), n ≤ Y.length ∧ w.ownsMap Try.prog 9 (plainElem Try.prog 23) mb n D ∧ IsMap D ∧ ∀ t : List UInt8, t.length ≤ maxLen → Maps.has D (keyT t) = (nameK Y t).isSome ∧ ((nameK Y t).isSome = true → D.atKey (keyT t) (.lit (.int .u64 0)) = .lit (.int .u64 (nameA Y t : Nat)))

section
variable {w w' : World} {base mb : Nat} {P : List Place} {Y : List Named}
theorem YMap.block (h : YMap w base mb Y) : ∃ es c, w.heap[mb]? = some (.map es c) := by
  obtain ⟨-, n, D, -, h, -⟩ := h
  exact own_map_block h
theorem YMap.same (h : YMap w base mb Y) (hb : w'.heap[mb]? = w.heap[mb]?) : YMap w' base mb Y := by
  obtain ⟨h0, n, D, h1, ⟨es, c, hm, r⟩, h3⟩ := h
  exact ⟨h0, n, D, h1, ⟨es, c, hb.trans hm, r⟩, h3⟩
theorem YMap.lt (h : YMap w base mb Y) : mb < w.heap.size := by
  obtain ⟨es, c, hm⟩ := h.block
  exact (Array.getElem?_eq_some_iff.1 hm).1
end

end Go.Proofs.Ytpmndmbhkfbljaa
