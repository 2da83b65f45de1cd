/-
  Symbols and relocations that came in, opened to their cells.
-/
import Derived.Test.YtpmndmbhkfbljaaSyX
import Derived.Test.YtpmndmbhkfbljaaLawA
import Derived.Test.YtpmndmbhkfbljaaParts
import Derived.ProofKit
import Derived.OpenShut
import Derived.Deep.Slices
namespace Go.Proofs.Ytpmndmbhkfbljaa
open Go Go.RowKit Go.ChangeShapes Go.WideShapes Go.Deep

theorem each_of {α : Type} {P : Nat → α → Prop} : ∀ (n : Nat), (∀ i, i < n → ∃ x, P i x) → ∃ L : List α, L.length = n ∧ ∀ (i : Nat) (x : α), L[i]? = some x → P i x
  | 0, _ => ⟨[], rfl, fun i x h => by simp at h⟩
  | n + 1, h => by
    obtain ⟨L, h1, h2⟩ := each_of n (fun i hi => h i (by omega))
    obtain ⟨y, hy⟩ := h n (by omega)
    refine ⟨L ++ [y], by simp [h1], fun i x hx => ?_⟩
    rcases Nat.lt_or_ge i n with hi | hi
    · rw [List.getElem?_append_left (by omega)] at hx
      exact h2 i x hx
    · have hil : i < (L ++ [y]).length := (List.getElem?_eq_some_iff.1 hx).1
      have : i = n := by simp at hil; omega
      subst this
      rw [List.getElem?_append_right (by omega), h1, Nat.sub_self] at hx
      injection hx with hx
      exact hx ▸ hy

theorem y_int : Try.prog.cellsOf 3 = 1 := by kernel_rfl
theorem y_i64 : Try.prog.cellsOf 2 = 1 := by kernel_rfl
theorem y_u64 : Try.prog.cellsOf 23 = 1 := by kernel_rfl

section
variable {H : Type} {enc : TypeId × Value → H} {w : World} {held : Bool} {fuel : Nat}
theorem y_int_of {c : Value} {y : DataW H × List MemPlace} (hy : DataW.trod enc Try.prog w 0 (fun _ => true) held fuel 3 [c] = some y) : ∃ z, c = .int .i64 z ∧ InI z := by
  obtain ⟨z, hz, _, hw⟩ := DataW.trod_int Try.underlying3 hy
  injection hz with hz
  exact ⟨z, hz, i64_of hw⟩
theorem y_i64_of {c : Value} {y : DataW H × List MemPlace} (hy : DataW.trod enc Try.prog w 0 (fun _ => true) held fuel 2 [c] = some y) : ∃ z, c = .int .i64 z ∧ InI z := by
  obtain ⟨z, hz, _, hw⟩ := DataW.trod_int Try.underlying2 hy
  injection hz with hz
  exact ⟨z, hz, i64_of hw⟩
theorem y_nat_of {c : Value} {y : DataW H × List MemPlace} (hy : DataW.trod enc Try.prog w 0 (fun _ => true) held fuel 23 [c] = some y) : ∃ z : Nat, c = .int .u64 (z : Int) ∧ z < two64 := by
  obtain ⟨z, hz, _, hw⟩ := DataW.trod_int Try.underlying23 hy
  injection hz with hz
  obtain ⟨n, rfl, hn⟩ := nat_of_u64 hw
  exact ⟨n, hz, hn⟩

/-- Items that lie at their places. -/
theorem row_of {α : Type} {n : Nat} {f : α → List Value} {P : α → Prop} (hn : ∀ x, (f x).length = n) (hpos : 0 < n) {a : Addr} {L : List α} (hP : ∀ (i : Nat) (y : α), L[i]? = some y → (∀ (j : Nat) (v : Value), (f y)[j]? = some v → w.cell? ((a.add (i * n)).add j) = some v) ∧ P y) :
    Row n f w w.heap.size (some a) L ∧ ∀ y ∈ L, P y := by
  refine ⟨fun h0 => ?_, fun y hy => ?_⟩
  · have hx0 : L[0]? = some (L[0]'h0) := List.getElem?_eq_getElem _
    have hz : 0 < (f (L[0]'h0)).length := by rw [hn]; exact hpos
    have hc0 := (hP 0 _ hx0).1 0 _ (List.getElem?_eq_getElem hz)
    obtain ⟨b, o, spot⟩ := a
    have hspot : spot = none := by simpa [Addr.add] using World.cell?_spot hc0
    subst hspot
    refine ⟨b, o, rfl, ?_, fun i y hy j v hv => ?_⟩
    · have := World.block_lt_of_cell? w _ hc0
      simpa [addr_add] using this
    · have := (hP i y hy).1 j v hv
      rwa [addr_add, addr_add] at this
  · obtain ⟨i, hi', e⟩ := List.getElem_of_mem hy
    exact (hP i y (by rw [← e]; exact List.getElem?_eq_getElem hi')).2

end

end Go.Proofs.Ytpmndmbhkfbljaa
