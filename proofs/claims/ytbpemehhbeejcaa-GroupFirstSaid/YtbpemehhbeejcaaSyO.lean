/-
  Symbols and relocations that came in, opened to their cells.
-/
import Derived.Test.YtbpemehhbeejcaaSyX
import Derived.Test.YtbpemehhbeejcaaLawA
import Derived.Test.YtbpemehhbeejcaaParts
import Derived.ProofKit
import Derived.OpenShut
import Derived.Deep.Slices
namespace Go.Proofs.Ytbpemehhbeejcaa
open Go Go.RowKit Go.ChangeShapes Go.WideShapes Go.Deep

theorem each_of {α : Type} {P : Nat → α → Prop} : ∀ (n : Nat), (∀ i, i < n → ∃ x, P i x) → ∃ L : List α, L.length = n ∧ ∀ (i : Nat) (x : α), L[i]? = some x → P i x
  | 0, _ => ⟨[], rfl, fun i x h => by simp at h⟩
  | n + 1, h => by
    obtain ⟨L, h1, h2⟩ := each_of n (fun i hi => h i (by omega))
    obtain ⟨y, hy⟩ := h n (by omega)
    refine ⟨L ++ [y], by simp [h1], fun i x hx => ?_⟩
    rcases Nat.lt_or_ge i n with hi | hi
    · rw [List.getElem?_append_left (by omega)] at hx
      exact h2 i x hx
    · have hil : i < (L ++ [y]).length := (List.getElem?_eq_some_iff.1 hx).1
      have : i = n := by simp at hil; omega
      subst this
      rw [List.getElem?_append_right (by omega), h1, Nat.sub_self] at hx
      injection hx with hx
      exact hx ▸ hy

theorem y_six : Try.prog.cellsOf 63 = 6 := by kernel_rfl
theorem y_four : Try.prog.cellsOf 110 = 4 := by kernel_rfl
theorem y_str : Try.prog.cellsOf 9 = 1 := by kernel_rfl
theorem y_int : Try.prog.cellsOf 3 = 1 := by kernel_rfl
theorem y_i64 : Try.prog.cellsOf 2 = 1 := by kernel_rfl
theorem y_u64 : Try.prog.cellsOf 59 = 1 := by kernel_rfl

section
variable {H : Type} {enc : TypeId × Value → H} {w : World} {held : Bool} {fuel : Nat}
theorem y_int_of {c : Value} {y : DataW H × List MemPlace} (hy : DataW.trod enc Try.prog w 0 (fun _ => true) held fuel 3 [c] = some y) : ∃ z, c = .int .i64 z ∧ InI z := by
  obtain ⟨z, hz, _, hw⟩ := DataW.trod_int Try.underlying3 hy
  injection hz with hz
  exact ⟨z, hz, i64_of hw⟩
theorem y_i64_of {c : Value} {y : DataW H × List MemPlace} (hy : DataW.trod enc Try.prog w 0 (fun _ => true) held fuel 2 [c] = some y) : ∃ z, c = .int .i64 z ∧ InI z := by
  obtain ⟨z, hz, _, hw⟩ := DataW.trod_int Try.underlying2 hy
  injection hz with hz
  exact ⟨z, hz, i64_of hw⟩
theorem y_nat_of {c : Value} {y : DataW H × List MemPlace} (hy : DataW.trod enc Try.prog w 0 (fun _ => true) held fuel 59 [c] = some y) : ∃ z : Nat, c = .int .u64 (z : Int) ∧ z < two64 := by
  obtain ⟨z, hz, _, hw⟩ := DataW.trod_int Try.underlying59 hy
  injection hz with hz
  obtain ⟨n, rfl, hn⟩ := nat_of_u64 hw
  exact ⟨n, hz, hn⟩

set_option maxRecDepth 20000 in
/-- One symbol out of its six cells. -/
theorem sym_of {cs : List Value} {x : DataW H × List MemPlace}
    (h : DataW.trod enc Try.prog w 0 (fun _ => true) held fuel 63 cs = some x) : ∃ y : Sym, cs = y.cells ∧ y.Nums := by
  obtain ⟨xs, k, _, _, hcl, hlen, hg⟩ := DataW.trod_struct Try.underlying63 h
  rw [y_six] at hcl
  match cs, hcl, xs, hlen with
  | [c0, c1, c2, c3, c4, c5], _, [y0, y1, y2, y3, y4, y5], _ =>
    have g0 := hg 0 _ rfl
    have g1 := hg 1 _ rfl
    have g2 := hg 2 _ rfl
    have g3 := hg 3 _ rfl
    have g4 := hg 4 _ rfl
    have g5 := hg 5 _ rfl
    simp [y_str, y_int, y_u64] at g0 g1 g2 g3 g4 g5
    obtain ⟨s, hs, _, _⟩ := DataW.trod_string Try.underlying9 g0
    injection hs with hs
    obtain ⟨z1, rfl, i1⟩ := y_int_of g1
    obtain ⟨z2, rfl, i2⟩ := y_int_of g2
    obtain ⟨z3, rfl, i3⟩ := y_int_of g3
    obtain ⟨z4, rfl, i4⟩ := y_nat_of g4
    obtain ⟨z5, rfl, i5⟩ := y_nat_of g5
    refine ⟨⟨s.data.toList, z1, z2, z3, z4, z5⟩, ?_, ⟨i1, i2, i3, i4, i5⟩⟩
    rw [hs]
    show _ = [Value.string ⟨s.data.toList.toArray⟩, _, _, _, _, _]
    simp
set_option maxRecDepth 20000 in
/-- One relocation out of its four cells. -/
theorem rel_of {cs : List Value} {x : DataW H × List MemPlace}
    (h : DataW.trod enc Try.prog w 0 (fun _ => true) held fuel 110 cs = some x) : ∃ y : Rel, cs = y.cells ∧ y.Nums := by
  obtain ⟨xs, k, _, _, hcl, hlen, hg⟩ := DataW.trod_struct Try.underlying110 h
  rw [y_four] at hcl
  match cs, hcl, xs, hlen with
  | [c0, c1, c2, c3], _, [y0, y1, y2, y3], _ =>
    have g0 := hg 0 _ rfl
    have g1 := hg 1 _ rfl
    have g2 := hg 2 _ rfl
    have g3 := hg 3 _ rfl
    simp [y_int, y_u64, y_i64] at g0 g1 g2 g3
    obtain ⟨z0, rfl, i0⟩ := y_nat_of g0
    obtain ⟨z1, rfl, i1⟩ := y_int_of g1
    obtain ⟨z2, rfl, i2⟩ := y_int_of g2
    obtain ⟨z3, rfl, i3⟩ := y_i64_of g3
    exact ⟨⟨z0, z1, z2, z3⟩, rfl, ⟨i0, i1, i2, i3⟩⟩

/-- Items that lie at their places. -/
theorem row_of {α : Type} {n : Nat} {f : α → List Value} {P : α → Prop} (hn : ∀ x, (f x).length = n) (hpos : 0 < n) {a : Addr} {L : List α} (hP : ∀ (i : Nat) (y : α), L[i]? = some y → (∀ (j : Nat) (v : Value), (f y)[j]? = some v → w.cell? ((a.add (i * n)).add j) = some v) ∧ P y) :
    Row n f w w.heap.size (some a) L ∧ ∀ y ∈ L, P y := by
  refine ⟨fun h0 => ?_, fun y hy => ?_⟩
  · have hx0 : L[0]? = some (L[0]'h0) := List.getElem?_eq_getElem _
    have hz : 0 < (f (L[0]'h0)).length := by rw [hn]; exact hpos
    have hc0 := (hP 0 _ hx0).1 0 _ (List.getElem?_eq_getElem hz)
    obtain ⟨b, o, spot⟩ := a
    have hspot : spot = none := by simpa [Addr.add] using World.cell?_spot hc0
    subst hspot
    refine ⟨b, o, rfl, ?_, fun i y hy j v hv => ?_⟩
    · have := World.block_lt_of_cell? w _ hc0
      simpa [addr_add] using this
    · have := (hP i y hy).1 j v hv
      rwa [addr_add, addr_add] at this
  · obtain ⟨i, hi', e⟩ := List.getElem_of_mem hy
    exact (hP i y (by rw [← e]; exact List.getElem?_eq_getElem hi')).2

set_option maxRecDepth 20000 in
theorem syms_of {a1 : Option Addr} {len1 cap1 : Nat} {x : DataW H × List MemPlace}
    (h : DataW.trod enc Try.prog w 0 (fun _ => true) held fuel 23 (Value.slice a1 len1 cap1).cells.toList = some x) : ∃ L : List Sym, L.length = len1 ∧ len1 ≤ cap1 ∧ Syms w w.heap.size a1 L ∧ ∀ y ∈ L, y.Nums := by
  rcases open_slice Try.underlying23 h with ⟨hcs, _⟩ | ⟨a, len, cap, m, n, D, Pl, hcs, _, hl, _, hmm, _, hi⟩
  · simp [Value.cells] at hcs
    obtain ⟨rfl, rfl, rfl⟩ := hcs
    exact ⟨[], rfl, Nat.le_refl _, fun h0 => absurd h0 (by simp), fun x hx => by cases hx⟩
  · simp [Value.cells] at hcs
    obtain ⟨rfl, rfl, rfl⟩ := hcs
    have hlm : len1 ≤ m := by rw [hmm]; simp; omega
    rw [y_six] at hi
    obtain ⟨L, hL, hP⟩ := each_of (P := fun i (y : Sym) => (∀ (j : Nat) (v : Value), y.cells[j]? = some v → w.cell? ((a.add (i * 6)).add j) = some v) ∧ y.Nums) len1 (fun i hi1 => by
      obtain ⟨cs', hc, ht⟩ := hi i (by omega)
      obtain ⟨_, hcl, hat⟩ := World.cells?_some hc
      obtain ⟨y, rfl, g1⟩ := sym_of ht
      exact ⟨y, fun j v hv => by
        have hj : j < 6 := (List.getElem?_eq_some_iff.1 hv).1
        rw [hat j hj, hv], g1⟩)
    exact ⟨L, hL, hl, row_of sym_six (by decide) hP⟩

set_option maxRecDepth 20000 in
theorem rels_of {a1 : Option Addr} {len1 cap1 : Nat} {x : DataW H × List MemPlace}
    (h : DataW.trod enc Try.prog w 0 (fun _ => true) held fuel 79 (Value.slice a1 len1 cap1).cells.toList = some x) : ∃ L : List Rel, L.length = len1 ∧ len1 ≤ cap1 ∧ Rels w w.heap.size a1 L ∧ ∀ y ∈ L, y.Nums := by
  rcases open_slice Try.underlying79 h with ⟨hcs, _⟩ | ⟨a, len, cap, m, n, D, Pl, hcs, _, hl, _, hmm, _, hi⟩
  · simp [Value.cells] at hcs
    obtain ⟨rfl, rfl, rfl⟩ := hcs
    exact ⟨[], rfl, Nat.le_refl _, fun h0 => absurd h0 (by simp), fun x hx => by cases hx⟩
  · simp [Value.cells] at hcs
    obtain ⟨rfl, rfl, rfl⟩ := hcs
    have hlm : len1 ≤ m := by rw [hmm]; simp; omega
    rw [y_four] at hi
    obtain ⟨L, hL, hP⟩ := each_of (P := fun i (y : Rel) => (∀ (j : Nat) (v : Value), y.cells[j]? = some v → w.cell? ((a.add (i * 4)).add j) = some v) ∧ y.Nums) len1 (fun i hi1 => by
      obtain ⟨cs', hc, ht⟩ := hi i (by omega)
      obtain ⟨_, hcl, hat⟩ := World.cells?_some hc
      obtain ⟨y, rfl, g1⟩ := rel_of ht
      exact ⟨y, fun j v hv => by
        have hj : j < 4 := (List.getElem?_eq_some_iff.1 hv).1
        rw [hat j hj, hv], g1⟩)
    exact ⟨L, hL, hl, row_of rel_four (by decide) hP⟩
end

end Go.Proofs.Ytbpemehhbeejcaa
