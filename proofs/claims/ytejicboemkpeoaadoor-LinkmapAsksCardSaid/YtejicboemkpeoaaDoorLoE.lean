/-
  What is left out, as it came in (a row of rows of flags), opened to its cells.
-/
import Derived.Test.YtejicboemkpeoaaDoorGpT
import Derived.Test.YtejicboemkpeoaaDoorLnK
import Derived.Test.YtejicboemkpeoaaDoorCsL
import Derived.Test.YtejicboemkpeoaaDoorEhL
import Derived.Deep.DeepCutAuto
import Derived.Deep.LoopGhost
import Derived.Test.YtejicboemkpeoaaDoorLmN
namespace Go.Proofs.YtejicboemkpeoaaDoor
open Go Go.RowKit Go.ChangeShapes Go.WideShapes Go.Deep

section
variable {H : Type} {enc : TypeId × Value → H} {w : World} {held : Bool} {fuel : Nat}
set_option maxRecDepth 20000 in
theorem objc_of {cs : List Value} {x : DataW H × List MemPlace} (h : DataW.trod enc Tryd.prog w 0 (fun _ => true) held fuel 48 cs = some x) : ∃ o : ObjV, cs = o.cells ∧ o.In w w.heap.size := by
  obtain ⟨xs, k, _, _, hcl, hlen, hg⟩ := DataW.trod_struct Tryd.underlying48 h
  rw [ob_five] at hcl
  match cs, hcl, xs, hlen with
  | [c0, c1, c2, c3, c4], _, [y0, y1, y2, y3, y4], _ =>
    have g0 := hg 0 _ rfl
    have g1 := hg 1 _ rfl
    have g2 := hg 2 _ rfl
    have g3 := hg 3 _ rfl
    have g4 := hg 4 _ rfl
    simp [y_int, ob_one', ob_one'', ob_one3] at g0 g1 g2 g3 g4
    obtain ⟨z0, rfl, _⟩ := y_int_of g0
    obtain ⟨z1, rfl, _⟩ := y_int_of g1
    obtain ⟨a2, n2, k2, e2⟩ := slice_cell Tryd.underlying44 g2
    obtain ⟨a3, n3, k3, e3⟩ := slice_cell Tryd.underlying45 g3
    obtain ⟨a4, n4, k4, e4⟩ := slice_cell Tryd.underlying46 g4
    rw [e2] at g2
    rw [e3] at g3
    rw [e4] at g4
    simp only [Value.cells, List.cons.injEq, and_true] at e2 e3 e4
    obtain ⟨L, rfl, hc2, hs⟩ := secs_of g2
    obtain ⟨Y, rfl, hc3, hy, hn3⟩ := syms_of g3
    obtain ⟨Q, rfl, hc4, hl, hn4⟩ := lists_of g4
    exact ⟨⟨z0, z1, a2, k2, L, a3, k3, Y, a4, k4, Q⟩, by rw [e2, e3, e4]; rfl, hs, hy, hl, hc2, hc4, hn3, hn4⟩

set_option maxRecDepth 20000 in
theorem objs_of {a1 : Option Addr} {len1 cap1 : Nat} {x : DataW H × List MemPlace}
    (h : DataW.trod enc Tryd.prog w 0 (fun _ => true) held fuel 26 (Value.slice a1 len1 cap1).cells.toList = some x) : ∃ O : List ObjV, O.length = len1 ∧ ObjsIn w w.heap.size a1 O := by
  rcases open_slice Tryd.underlying26 h with ⟨hcs, _⟩ | ⟨a, len, cap, m, n, D, Pl, hcs, _, hl, _, hmm, _, hi⟩
  · simp [Value.cells] at hcs
    obtain ⟨rfl, rfl, rfl⟩ := hcs
    exact ⟨[], rfl, fun h0 => absurd h0 (by simp), fun x hx => by cases hx⟩
  · simp [Value.cells] at hcs
    obtain ⟨rfl, rfl, rfl⟩ := hcs
    have hlm : len1 ≤ m := by rw [hmm]; simp; omega
    rw [ob_five] at hi
    obtain ⟨O, hL, hP⟩ := each_of (P := fun i (y : ObjV) => (∀ (j : Nat) (v : Value), y.cells[j]? = some v → w.cell? ((a.add (i * 5)).add j) = some v) ∧ y.In w w.heap.size) len1 (fun i hi1 => by
      obtain ⟨cs', hc, ht⟩ := hi i (by omega)
      obtain ⟨_, hcl, hat⟩ := World.cells?_some hc
      obtain ⟨y, rfl, g1⟩ := objc_of ht
      exact ⟨y, fun j v hv => by
        have hj : j < 5 := (List.getElem?_eq_some_iff.1 hv).1
        rw [hat j hj, hv], g1⟩)
    obtain ⟨h1, h2⟩ := row_of obj_cells (by decide) hP
    exact ⟨O, hL, h1, h2⟩

end

section
variable {H : Type} {enc : TypeId × Value → H} {w : World}
end

end Go.Proofs.YtejicboemkpeoaaDoor

namespace Go.Proofs.YtejicboemkpeoaaDoor
open Go Go.RowKit Go.ChangeShapes Go.WideShapes Go.Deep

theorem lo_bool : Tryd.prog.cellsOf 4 = 1 := by kernel_rfl
theorem lo_bools : Tryd.prog.cellsOf 91 = 1 := by kernel_rfl
section
variable {H : Type} {enc : TypeId × Value → H} {w : World}
set_option maxRecDepth 20000 in
theorem bools_of {held : Bool} {fuel : Nat} {a1 : Option Addr} {len1 cap1 : Nat} {x : DataW H × List MemPlace}
    (h : DataW.trod enc Tryd.prog w 0 (fun _ => true) held fuel 91 (Value.slice a1 len1 cap1).cells.toList = some x) : ∃ M : List Bool, M.length = len1 ∧ Truths w w.heap.size a1 M ∧ len1 ≤ 9223372036854775807 := by
  rcases open_slice Tryd.underlying91 h with ⟨hcs, _⟩ | ⟨a, len, cap, m, n, D, Pl, hcs, _, hl, hcx, hmm, _, hi⟩
  · simp [Value.cells] at hcs
    obtain ⟨rfl, rfl, rfl⟩ := hcs
    exact ⟨[], rfl, fun h0 => absurd h0 (by simp), by decide⟩
  · simp [Value.cells] at hcs
    obtain ⟨rfl, rfl, rfl⟩ := hcs
    have hlm : len1 ≤ m := by rw [hmm]; simp; omega
    rw [lo_bool] at hi
    obtain ⟨L, hL, hP⟩ := each_of (P := fun i (y : Bool) => (∀ (j : Nat) (v : Value), (boolC y)[j]? = some v → w.cell? ((a.add (i * 1)).add j) = some v) ∧ True) len1 (fun i hi1 => by
      obtain ⟨cs', hc, ht⟩ := hi i (by omega)
      obtain ⟨_, hcl, hat⟩ := World.cells?_some hc
      match cs', hcl with
      | [c0], _ =>
        obtain ⟨z, hz, _⟩ := DataW.trod_bool Tryd.underlying4 ht
        injection hz with hz
        subst hz
        exact ⟨z, fun j v hv => by
          have hj : j < 1 := (List.getElem?_eq_some_iff.1 hv).1
          rw [hat j hj]
          exact hv, trivial⟩)
    exact ⟨L, hL, (row_of (P := fun _ => True) bool_one (by decide) hP).1, by unfold maxLen at hcx; omega⟩
set_option maxRecDepth 20000 in
theorem flags_of {held : Bool} {fuel : Nat} {a1 : Option Addr} {len1 cap1 : Nat} {x : DataW H × List MemPlace}
    (h : DataW.trod enc Tryd.prog w 0 (fun _ => true) held fuel 27 (Value.slice a1 len1 cap1).cells.toList = some x) : ∃ Q : List BLay, Q.length = len1 ∧ BRows w w.heap.size a1 Q ∧ ∀ q ∈ Q, q.l.length ≤ 9223372036854775807 := by
  rcases open_slice Tryd.underlying27 h with ⟨hcs, _⟩ | ⟨a, len, cap, m, n, D, Pl, hcs, _, hl, _, hmm, _, hi⟩
  · simp [Value.cells] at hcs
    obtain ⟨rfl, rfl, rfl⟩ := hcs
    exact ⟨[], rfl, ⟨fun h0 => absurd h0 (by simp), fun x hx => by cases hx⟩, fun x hx => by cases hx⟩
  · simp [Value.cells] at hcs
    obtain ⟨rfl, rfl, rfl⟩ := hcs
    have hlm : len1 ≤ m := by rw [hmm]; simp; omega
    rw [lo_bools] at hi
    obtain ⟨Q, hL, hP⟩ := each_of (P := fun i (y : BLay) => (∀ (j : Nat) (v : Value), y.cells1[j]? = some v → w.cell? ((a.add (i * 1)).add j) = some v) ∧ Truths w w.heap.size y.a y.l ∧ y.l.length ≤ 9223372036854775807) len1 (fun i hi1 => by
      obtain ⟨cs', hc, ht⟩ := hi i (by omega)
      obtain ⟨_, hcl, hat⟩ := World.cells?_some hc
      obtain ⟨a', len', cap', rfl⟩ := slice_cell Tryd.underlying91 ht
      obtain ⟨l, rfl, hr, hll⟩ := bools_of ht
      exact ⟨⟨a', cap', l⟩, fun j v hv => by
        have hj : j < 1 := (List.getElem?_eq_some_iff.1 hv).1
        rw [hat j hj, show (BLay.cells1 ⟨a', cap', l⟩) = (Value.slice a' l.length cap').cells.toList from rfl] at *
        exact hv, hr, hll⟩)
    obtain ⟨h1, h2⟩ := row_of (P := fun (y : BLay) => Truths w w.heap.size y.a y.l ∧ y.l.length ≤ 9223372036854775807) (f := BLay.cells1) (n := 1) (fun _ => rfl) (by decide) hP
    exact ⟨Q, hL, ⟨h1, fun q hq => (h2 q hq).1⟩, fun q hq => (h2 q hq).2⟩
end
end Go.Proofs.YtejicboemkpeoaaDoor
