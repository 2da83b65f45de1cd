/-
  Abbreviations that came in, opened to their cells.
-/
import Derived.Test.YteadabmlleipiaaAbS
import Derived.Test.YteadabmlleipiaaSyO
namespace Go.Proofs.Yteadabmlleipiaa
open Go Go.RowKit Go.ChangeShapes Go.WideShapes Go.Deep

theorem ao_one : Try.prog.cellsOf 75 = 1 := by kernel_rfl
theorem ao_bool : Try.prog.cellsOf 4 = 1 := by kernel_rfl
theorem ao_three : Try.prog.cellsOf 121 = 3 := by kernel_rfl
theorem ao_four : Try.prog.cellsOf 77 = 4 := by kernel_rfl
section
variable {H : Type} {enc : TypeId × Value → H} {w : World} {held : Bool} {fuel : Nat}
/-- A cell of a slice's type holds a slice. -/
theorem ao_cell {t e : TypeId} (ht : Try.prog.underlying t = some (.slice e)) {cs : List Value} {x : DataW H × List MemPlace}
    (h : DataW.trod enc Try.prog w 0 (fun _ => true) held fuel t cs = some x) : ∃ a len cap, cs = (Value.slice a len cap).cells.toList := by
  rcases open_slice ht h with ⟨e, _⟩ | ⟨a, len, cap, m, n, D, Pl, e, _⟩
  · exact ⟨none, 0, 0, e⟩
  · exact ⟨some a, len, cap, e⟩

set_option maxRecDepth 20000 in
theorem spc_of {cs : List Value} {x : DataW H × List MemPlace}
    (h : DataW.trod enc Try.prog w 0 (fun _ => true) held fuel 121 cs = some x) : ∃ y : Spc, cs = y.cells ∧ y.In := by
  obtain ⟨xs, k, _, _, hcl, hlen, hg⟩ := DataW.trod_struct Try.underlying121 h
  rw [ao_three] at hcl
  match cs, hcl, xs, hlen with
  | [c0, c1, c2], _, [y0, y1, y2], _ =>
    have g0 := hg 0 _ rfl
    have g1 := hg 1 _ rfl
    have g2 := hg 2 _ rfl
    simp [y_int, y_i64] at g0 g1 g2
    obtain ⟨z0, rfl, i0⟩ := y_int_of g0
    obtain ⟨z1, rfl, i1⟩ := y_int_of g1
    obtain ⟨z2, rfl, i2⟩ := y_i64_of g2
    exact ⟨⟨z0, z1, z2⟩, rfl, i0, i1, i2⟩

set_option maxRecDepth 20000 in
theorem spcs_of {a1 : Option Addr} {len1 cap1 : Nat} {x : DataW H × List MemPlace}
    (h : DataW.trod enc Try.prog w 0 (fun _ => true) held fuel 75 (Value.slice a1 len1 cap1).cells.toList = some x) : ∃ L : List Spc, L.length = len1 ∧ Spcs w w.heap.size a1 L ∧ ∀ y ∈ L, y.In := by
  rcases open_slice Try.underlying75 h with ⟨hcs, _⟩ | ⟨a, len, cap, m, n, D, Pl, hcs, _, hl, _, hmm, _, hi⟩
  · simp [Value.cells] at hcs
    obtain ⟨rfl, rfl, rfl⟩ := hcs
    exact ⟨[], rfl, fun h0 => absurd h0 (by simp), fun x hx => by cases hx⟩
  · simp [Value.cells] at hcs
    obtain ⟨rfl, rfl, rfl⟩ := hcs
    have hlm : len1 ≤ m := by rw [hmm]; simp; omega
    rw [ao_three] at hi
    obtain ⟨L, hL, hP⟩ := each_of (P := fun i (y : Spc) => (∀ (j : Nat) (v : Value), y.cells[j]? = some v → w.cell? ((a.add (i * 3)).add j) = some v) ∧ y.In) len1 (fun i hi1 => by
      obtain ⟨cs', hc, ht⟩ := hi i (by omega)
      obtain ⟨_, hcl, hat⟩ := World.cells?_some hc
      obtain ⟨y, rfl, g1⟩ := spc_of ht
      exact ⟨y, fun j v hv => by
        have hj : j < 3 := (List.getElem?_eq_some_iff.1 hv).1
        rw [hat j hj, hv], g1⟩)
    obtain ⟨h1, h2⟩ := row_of spc_three (by decide) hP
    exact ⟨L, hL, h1, h2⟩

set_option maxRecDepth 20000 in
theorem alay_of {cs : List Value} {x : DataW H × List MemPlace} (h : DataW.trod enc Try.prog w 0 (fun _ => true) held fuel 77 cs = some x) : ∃ y : ALay, cs = y.cells ∧ Spcs w w.heap.size y.a y.x.l ∧ y.Nums := by
  obtain ⟨xs, k, _, _, hcl, hlen, hg⟩ := DataW.trod_struct Try.underlying77 h
  rw [ao_four] at hcl
  match cs, hcl, xs, hlen with
  | [c0, c1, c2, c3], _, [y0, y1, y2, y3], _ =>
    have g0 := hg 0 _ rfl
    have g1 := hg 1 _ rfl
    have g2 := hg 2 _ rfl
    have g3 := hg 3 _ rfl
    simp [y_int, y_u64, ao_bool, ao_one] at g0 g1 g2 g3
    obtain ⟨z0, rfl, i0⟩ := y_nat_of g0
    obtain ⟨z1, rfl, i1⟩ := y_int_of g1
    obtain ⟨b1, hb1, _⟩ := DataW.trod_bool Try.underlying4 g2
    injection hb1 with hb1
    obtain ⟨a3, n3, k3, e3⟩ := ao_cell Try.underlying75 g3
    rw [e3] at g3
    simp only [Value.cells, List.cons.injEq, and_true] at e3
    obtain ⟨L, rfl, hs, hn⟩ := spcs_of g3
    exact ⟨⟨⟨z0, z1, b1, L⟩, a3, k3⟩, by rw [hb1, e3]; rfl, hs, ⟨i0, i1, hn⟩⟩

set_option maxRecDepth 20000 in
theorem abbs_of {a1 : Option Addr} {len1 cap1 : Nat} {x : DataW H × List MemPlace}
    (h : DataW.trod enc Try.prog w 0 (fun _ => true) held fuel 59 (Value.slice a1 len1 cap1).cells.toList = some x) : ∃ L : List ALay, L.length = len1 ∧ Abbs w w.heap.size a1 L ∧ ∀ y ∈ L, y.Nums := by
  rcases open_slice Try.underlying59 h with ⟨hcs, _⟩ | ⟨a, len, cap, m, n, D, Pl, hcs, _, hl, _, hmm, _, hi⟩
  · simp [Value.cells] at hcs
    obtain ⟨rfl, rfl, rfl⟩ := hcs
    exact ⟨[], rfl, ⟨fun h0 => absurd h0 (by simp), fun x hx => by cases hx⟩, fun x hx => by cases hx⟩
  · simp [Value.cells] at hcs
    obtain ⟨rfl, rfl, rfl⟩ := hcs
    have hlm : len1 ≤ m := by rw [hmm]; simp; omega
    rw [ao_four] at hi
    obtain ⟨L, hL, hP⟩ := each_of (P := fun i (y : ALay) => (∀ (j : Nat) (v : Value), y.cells[j]? = some v → w.cell? ((a.add (i * 4)).add j) = some v) ∧ Spcs w w.heap.size y.a y.x.l ∧ y.Nums) len1 (fun i hi1 => by
      obtain ⟨cs', hc, ht⟩ := hi i (by omega)
      obtain ⟨_, hcl, hat⟩ := World.cells?_some hc
      obtain ⟨y, rfl, g1⟩ := alay_of ht
      exact ⟨y, fun j v hv => by
        have hj : j < 4 := (List.getElem?_eq_some_iff.1 hv).1
        rw [hat j hj, hv], g1⟩)
    obtain ⟨h1, h2⟩ := row_of (P := fun (y : ALay) => Spcs w w.heap.size y.a y.x.l ∧ y.Nums) abb_four (by decide) hP
    exact ⟨L, hL, ⟨h1, fun y hy => (h2 y hy).1⟩, fun y hy => (h2 y hy).2⟩
end

section
variable {H : Type} {enc : TypeId × Value → H} {w : World}
end

theorem aback_card (a0 : Option Addr) (c0 : Nat) (L : List ALay) (a1 : Option Addr) (len1 cap1 : Nat) (z1 : List Int) (w : World) (h0 : Abbs w w.heap.size a0 L ∧ ∀ y ∈ L, y.Nums) (w1 : IsRow .u8 w a1 len1 cap1 z1) :
    Calls Try.prog 6 #[.slice a0 L.length c0, .slice a1 len1 cap1] w fun r w' => r = .returned (.bool true) ∧ Below w.heap.size w w' :=
  aback_walk a0 c0 L a1 len1 cap1 z1 w h0.1 h0.2 w1

end Go.Proofs.Yteadabmlleipiaa
