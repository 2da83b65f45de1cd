/-
  Objects that came in side by side, and a group that came in, opened to their cells.
-/
import Derived.Test.YtbpemehhbeejcaaGpT
import Derived.Test.YtbpemehhbeejcaaSeO
import Derived.Test.YtbpemehhbeejcaaSyO
import Derived.Test.YtbpemehhbeejcaaEhZ
import Derived.Test.YtbpemehhbeejcaaGpG
namespace Go.Proofs.Ytbpemehhbeejcaa
open Go Go.RowKit Go.ChangeShapes Go.WideShapes Go.Deep

theorem ob_one : Try.prog.cellsOf 79 = 1 := by kernel_rfl
theorem ob_one' : Try.prog.cellsOf 22 = 1 := by kernel_rfl
theorem ob_one'' : Try.prog.cellsOf 23 = 1 := by kernel_rfl
theorem ob_one3 : Try.prog.cellsOf 24 = 1 := by kernel_rfl
theorem ob_five : Try.prog.cellsOf 26 = 5 := by kernel_rfl

section
variable {H : Type} {enc : TypeId × Value → H} {w : World} {held : Bool} {fuel : Nat}
/-- A cell of a slice's type holds a slice. -/
theorem slice_cell {t e : TypeId} (ht : Try.prog.underlying t = some (.slice e)) {cs : List Value} {x : DataW H × List MemPlace}
    (h : DataW.trod enc Try.prog w 0 (fun _ => true) held fuel t cs = some x) : ∃ a len cap, cs = (Value.slice a len cap).cells.toList := by
  rcases open_slice ht h with ⟨e, _⟩ | ⟨a, len, cap, m, n, D, Pl, e, _⟩
  · exact ⟨none, 0, 0, e⟩
  · exact ⟨some a, len, cap, e⟩

set_option maxRecDepth 20000 in
theorem lists_of {a1 : Option Addr} {len1 cap1 : Nat} {x : DataW H × List MemPlace}
    (h : DataW.trod enc Try.prog w 0 (fun _ => true) held fuel 24 (Value.slice a1 len1 cap1).cells.toList = some x) : ∃ Q : List RLay, Q.length = len1 ∧ len1 ≤ cap1 ∧ Lists w w.heap.size a1 Q ∧ ∀ q ∈ Q, ∀ r ∈ q.l, r.Nums := by
  rcases open_slice Try.underlying24 h with ⟨hcs, _⟩ | ⟨a, len, cap, m, n, D, Pl, hcs, _, hl, _, hmm, _, hi⟩
  · simp [Value.cells] at hcs
    obtain ⟨rfl, rfl, rfl⟩ := hcs
    exact ⟨[], rfl, Nat.le_refl _, ⟨fun h0 => absurd h0 (by simp), fun x hx => by cases hx⟩, fun x hx => by cases hx⟩
  · simp [Value.cells] at hcs
    obtain ⟨rfl, rfl, rfl⟩ := hcs
    have hlm : len1 ≤ m := by rw [hmm]; simp; omega
    rw [ob_one] at hi
    obtain ⟨Q, hL, hP⟩ := each_of (P := fun i (y : RLay) => (∀ (j : Nat) (v : Value), y.cells1[j]? = some v → w.cell? ((a.add (i * 1)).add j) = some v) ∧ Rels w w.heap.size y.a y.l ∧ ∀ r ∈ y.l, r.Nums) len1 (fun i hi1 => by
      obtain ⟨cs', hc, ht⟩ := hi i (by omega)
      obtain ⟨_, hcl, hat⟩ := World.cells?_some hc
      obtain ⟨a', len', cap', rfl⟩ := slice_cell Try.underlying79 ht
      obtain ⟨l, rfl, hlc, hr, hn⟩ := rels_of ht
      exact ⟨⟨a', cap', l⟩, fun j v hv => by
        have hj : j < 1 := (List.getElem?_eq_some_iff.1 hv).1
        rw [hat j hj, show (RLay.cells1 ⟨a', cap', l⟩) = (Value.slice a' l.length cap').cells.toList from rfl] at *
        exact hv, hr, hn⟩)
    obtain ⟨h1, h2⟩ := row_of (P := fun (y : RLay) => Rels w w.heap.size y.a y.l ∧ ∀ r ∈ y.l, r.Nums) rlay_one (by decide) hP
    exact ⟨Q, hL, hl, ⟨h1, fun q hq => (h2 q hq).1⟩, fun q hq => (h2 q hq).2⟩
end

section
variable {H : Type} {enc : TypeId × Value → H} {w : World}
set_option maxRecDepth 20000 in
theorem obj_of {base : Nat} {v : Value} {d : DataW H} {p : List MemPlace} (hv : Value.okWide Try.prog w .any base 26 v) (h : DataW.Trod enc Try.prog w 0 (fun _ => true) true 26 v d p) :
    ∃ o : ObjV, v = o.val ∧ o.In w w.heap.size := by
  obtain ⟨cs, rfl, hsz⟩ := okWide_struct Try.underlying26 hv
  rw [ob_five] at hsz
  obtain ⟨l⟩ := cs
  obtain ⟨fuel, hf⟩ := h
  obtain ⟨xs, k, _, _, _, hlen, hg⟩ := DataW.trod_struct Try.underlying26 hf
  match l, hsz, xs, hlen with
  | [c0, c1, c2, c3, c4], _, [y0, y1, y2, y3, y4], _ =>
    have g0 := hg 0 _ rfl
    have g1 := hg 1 _ rfl
    have g2 := hg 2 _ rfl
    have g3 := hg 3 _ rfl
    have g4 := hg 4 _ rfl
    simp [Value.cells, y_int, ob_one', ob_one'', ob_one3] at g0 g1 g2 g3 g4
    obtain ⟨z0, rfl, _⟩ := y_int_of g0
    obtain ⟨z1, rfl, _⟩ := y_int_of g1
    obtain ⟨a2, n2, k2, e2⟩ := slice_cell Try.underlying22 g2
    obtain ⟨a3, n3, k3, e3⟩ := slice_cell Try.underlying23 g3
    obtain ⟨a4, n4, k4, e4⟩ := slice_cell Try.underlying24 g4
    rw [e2] at g2
    rw [e3] at g3
    rw [e4] at g4
    simp only [Value.cells, List.cons.injEq, and_true] at e2 e3 e4
    obtain ⟨L, rfl, hc2, hs⟩ := secs_of g2
    obtain ⟨Y, rfl, hc3, hy, hn3⟩ := syms_of g3
    obtain ⟨Q, rfl, hc4, hl, hn4⟩ := lists_of g4
    exact ⟨⟨z0, z1, a2, k2, L, a3, k3, Y, a4, k4, Q⟩, by rw [e2, e3, e4]; rfl, hs, hy, hl, hc2, hc4, hn3, hn4⟩

end

end Go.Proofs.Ytbpemehhbeejcaa

namespace Go.Proofs.Ytbpemehhbeejcaa
open Go Go.RowKit Go.ChangeShapes Go.WideShapes Go.Deep

theorem gp_bool : Try.prog.cellsOf 4 = 1 := by kernel_rfl
theorem gp_str : Try.prog.cellsOf 9 = 1 := by kernel_rfl
theorem gp_ints : Try.prog.cellsOf 27 = 1 := by kernel_rfl
theorem gp_four : Try.prog.cellsOf 29 = 4 := by kernel_rfl
section
variable {H : Type} {enc : TypeId × Value → H} {w : World} {held : Bool} {fuel : Nat}
set_option maxRecDepth 20000 in
theorem ints_of {a1 : Option Addr} {len1 cap1 : Nat} {x : DataW H × List MemPlace}
    (h : DataW.trod enc Try.prog w 0 (fun _ => true) held fuel 27 (Value.slice a1 len1 cap1).cells.toList = some x) : ∃ M : List Int, M.length = len1 ∧ Row 1 memI w w.heap.size a1 M := by
  rcases open_slice Try.underlying27 h with ⟨hcs, _⟩ | ⟨a, len, cap, m, n, D, Pl, hcs, _, hl, _, hmm, _, hi⟩
  · simp [Value.cells] at hcs
    obtain ⟨rfl, rfl, rfl⟩ := hcs
    exact ⟨[], rfl, fun h0 => absurd h0 (by simp)⟩
  · simp [Value.cells] at hcs
    obtain ⟨rfl, rfl, rfl⟩ := hcs
    have hlm : len1 ≤ m := by rw [hmm]; simp; omega
    rw [y_int] at hi
    obtain ⟨M, hL, hP⟩ := each_of (P := fun i (y : Int) => (∀ (j : Nat) (v : Value), (memI y)[j]? = some v → w.cell? ((a.add (i * 1)).add j) = some v) ∧ True) len1 (fun i hi1 => by
      obtain ⟨cs', hc, ht⟩ := hi i (by omega)
      obtain ⟨_, hcl, hat⟩ := World.cells?_some hc
      match cs', hcl with
      | [c0], _ =>
        obtain ⟨z, rfl, _⟩ := y_int_of ht
        exact ⟨z, fun j v hv => by
          have hj : j < 1 := (List.getElem?_eq_some_iff.1 hv).1
          rw [hat j hj]
          exact hv, trivial⟩)
    exact ⟨M, hL, (row_of memI_one (by decide) hP).1⟩
end

section
variable {H : Type} {enc : TypeId × Value → H} {w : World}
set_option maxRecDepth 20000 in
theorem grp_arg {base : Nat} {v : Value} {d : DataW H} {p : List MemPlace} (hv : Value.okWide Try.prog w .any base 29 v) (h : DataW.Trod enc Try.prog w 0 (fun _ => true) true 29 v d p) :
    ∃ (pl : Int) (one : Bool) (sb : ByteArray) (a : Option Addr) (M : List Int) (c : Nat), v = .agg #[.int .i64 pl, .bool one, .string sb, .slice a M.length c] ∧ Row 1 memI w w.heap.size a M := by
  obtain ⟨cs, rfl, hsz⟩ := okWide_struct Try.underlying29 hv
  rw [gp_four] at hsz
  obtain ⟨l⟩ := cs
  obtain ⟨fuel, hf⟩ := h
  obtain ⟨xs, k, _, _, _, hlen, hg⟩ := DataW.trod_struct Try.underlying29 hf
  match l, hsz, xs, hlen with
  | [c0, c1, c2, c3], _, [y0, y1, y2, y3], _ =>
    have g0 := hg 0 _ rfl
    have g1 := hg 1 _ rfl
    have g2 := hg 2 _ rfl
    have g3 := hg 3 _ rfl
    simp [Value.cells, y_int, gp_bool, gp_str, gp_ints] at g0 g1 g2 g3
    obtain ⟨z0, rfl, _⟩ := y_int_of g0
    obtain ⟨b1, hb1, _⟩ := DataW.trod_bool Try.underlying4 g1
    injection hb1 with hb1
    obtain ⟨s, hs, _, _⟩ := DataW.trod_string Try.underlying9 g2
    injection hs with hs
    obtain ⟨a3, n3, k3, e3⟩ := slice_cell Try.underlying27 g3
    rw [e3] at g3
    simp only [Value.cells, List.cons.injEq, and_true] at e3
    obtain ⟨M, rfl, hr⟩ := ints_of g3
    exact ⟨z0, b1, s, a3, M, k3, by rw [hb1, hs, e3], hr⟩
end

end Go.Proofs.Ytbpemehhbeejcaa
