/-
  Maps, addresses that came in, opened to their cells.
-/
import Derived.Test.YtejicboemkpeoaaDoorGpT
import Derived.Test.YtejicboemkpeoaaDoorSeO
import Derived.Test.YtejicboemkpeoaaDoorGpS
import Derived.Test.YtejicboemkpeoaaDoorEhZ
import Derived.Test.YtejicboemkpeoaaDoorSyI
namespace Go.Proofs.YtejicboemkpeoaaDoor
open Go Go.RowKit Go.ChangeShapes Go.WideShapes Go.Deep

theorem ob_one : Tryd.prog.cellsOf 97 = 1 := by kernel_rfl
theorem ob_one' : Tryd.prog.cellsOf 44 = 1 := by kernel_rfl
theorem ob_one'' : Tryd.prog.cellsOf 45 = 1 := by kernel_rfl
theorem ob_one3 : Tryd.prog.cellsOf 46 = 1 := by kernel_rfl
theorem ob_five : Tryd.prog.cellsOf 48 = 5 := by kernel_rfl

section
variable {H : Type} {enc : TypeId × Value → H} {w : World} {held : Bool} {fuel : Nat}
/-- A cell of a slice's type holds a slice. -/
theorem slice_cell {t e : TypeId} (ht : Tryd.prog.underlying t = some (.slice e)) {cs : List Value} {x : DataW H × List MemPlace}
    (h : DataW.trod enc Tryd.prog w 0 (fun _ => true) held fuel t cs = some x) : ∃ a len cap, cs = (Value.slice a len cap).cells.toList := by
  rcases open_slice ht h with ⟨e, _⟩ | ⟨a, len, cap, m, n, D, Pl, e, _⟩
  · exact ⟨none, 0, 0, e⟩
  · exact ⟨some a, len, cap, e⟩

set_option maxRecDepth 20000 in
theorem lists_of {a1 : Option Addr} {len1 cap1 : Nat} {x : DataW H × List MemPlace}
    (h : DataW.trod enc Tryd.prog w 0 (fun _ => true) held fuel 46 (Value.slice a1 len1 cap1).cells.toList = some x) : ∃ Q : List RLay, Q.length = len1 ∧ len1 ≤ cap1 ∧ Lists w w.heap.size a1 Q ∧ ∀ q ∈ Q, ∀ r ∈ q.l, r.Nums := by
  rcases open_slice Tryd.underlying46 h with ⟨hcs, _⟩ | ⟨a, len, cap, m, n, D, Pl, hcs, _, hl, _, hmm, _, hi⟩
  · simp [Value.cells] at hcs
    obtain ⟨rfl, rfl, rfl⟩ := hcs
    exact ⟨[], rfl, Nat.le_refl _, ⟨fun h0 => absurd h0 (by simp), fun x hx => by cases hx⟩, fun x hx => by cases hx⟩
  · simp [Value.cells] at hcs
    obtain ⟨rfl, rfl, rfl⟩ := hcs
    have hlm : len1 ≤ m := by rw [hmm]; simp; omega
    rw [ob_one] at hi
    obtain ⟨Q, hL, hP⟩ := each_of (P := fun i (y : RLay) => (∀ (j : Nat) (v : Value), y.cells1[j]? = some v → w.cell? ((a.add (i * 1)).add j) = some v) ∧ Rels w w.heap.size y.a y.l ∧ ∀ r ∈ y.l, r.Nums) len1 (fun i hi1 => by
      obtain ⟨cs', hc, ht⟩ := hi i (by omega)
      obtain ⟨_, hcl, hat⟩ := World.cells?_some hc
      obtain ⟨a', len', cap', rfl⟩ := slice_cell Tryd.underlying97 ht
      obtain ⟨l, rfl, hlc, hr, hn⟩ := rels_of ht
      exact ⟨⟨a', cap', l⟩, fun j v hv => by
        have hj : j < 1 := (List.getElem?_eq_some_iff.1 hv).1
        rw [hat j hj, show (RLay.cells1 ⟨a', cap', l⟩) = (Value.slice a' l.length cap').cells.toList from rfl] at *
        exact hv, hr, hn⟩)
    obtain ⟨h1, h2⟩ := row_of (P := fun (y : RLay) => Rels w w.heap.size y.a y.l ∧ ∀ r ∈ y.l, r.Nums) rlay_one (by decide) hP
    exact ⟨Q, hL, hl, ⟨h1, fun q hq => (h2 q hq).1⟩, fun q hq => (h2 q hq).2⟩
end

section
variable {H : Type} {enc : TypeId × Value → H} {w : World}
end

end Go.Proofs.YtejicboemkpeoaaDoor

namespace Go.Proofs.YtejicboemkpeoaaDoor
open Go Go.RowKit Go.ChangeShapes Go.WideShapes Go.Deep

theorem lm_three : Tryd.prog.cellsOf 43 = 3 := by kernel_rfl
theorem lm_two : Tryd.prog.cellsOf 67 = 2 := by kernel_rfl
theorem lm_places : Tryd.prog.cellsOf 22 = 1 := by kernel_rfl
theorem lm_nameds : Tryd.prog.cellsOf 23 = 1 := by kernel_rfl
theorem lm_map : Tryd.prog.cellsOf 25 = 2 := by kernel_rfl
section
variable {H : Type} {enc : TypeId × Value → H} {w : World} {held : Bool} {fuel : Nat}
set_option maxRecDepth 20000 in
theorem place_of {cs : List Value} {x : DataW H × List MemPlace} (h : DataW.trod enc Tryd.prog w 0 (fun _ => true) held fuel 43 cs = some x) : ∃ p : Place, cs = p.cells ∧ p.Nums := by
  obtain ⟨xs, k, _, _, hcl, hlen, hg⟩ := DataW.trod_struct Tryd.underlying43 h
  rw [lm_three] at hcl
  match cs, hcl, xs, hlen with
  | [c0, c1, c2], _, [y0, y1, y2], _ =>
    have g0 := hg 0 _ rfl
    have g1 := hg 1 _ rfl
    have g2 := hg 2 _ rfl
    simp [y_int, y_u64] at g0 g1 g2
    obtain ⟨z0, rfl, i0⟩ := y_int_of g0
    obtain ⟨z1, rfl, i1⟩ := y_int_of g1
    obtain ⟨z2, rfl, i2⟩ := y_nat_of g2
    exact ⟨⟨z0, z1, z2⟩, rfl, i0, i1, i2⟩
set_option maxRecDepth 20000 in
theorem named_of {cs : List Value} {x : DataW H × List MemPlace} (h : DataW.trod enc Tryd.prog w 0 (fun _ => true) held fuel 67 cs = some x) : ∃ s : Named, cs = s.cells ∧ s.Nums := by
  obtain ⟨xs, k, _, _, hcl, hlen, hg⟩ := DataW.trod_struct Tryd.underlying67 h
  rw [lm_two] at hcl
  match cs, hcl, xs, hlen with
  | [c0, c1], _, [y0, y1], _ =>
    have g0 := hg 0 _ rfl
    have g1 := hg 1 _ rfl
    simp [y_str, y_u64] at g0 g1
    obtain ⟨s, hs, _, _⟩ := DataW.trod_string Tryd.underlying9 g0
    injection hs with hs
    obtain ⟨z1, rfl, i1⟩ := y_nat_of g1
    refine ⟨⟨s.data.toList, z1⟩, ?_, i1⟩
    rw [hs]
    show _ = [Value.string ⟨s.data.toList.toArray⟩, _]
    simp
set_option maxRecDepth 20000 in
theorem places_of {a1 : Option Addr} {len1 cap1 : Nat} {x : DataW H × List MemPlace}
    (h : DataW.trod enc Tryd.prog w 0 (fun _ => true) held fuel 22 (Value.slice a1 len1 cap1).cells.toList = some x) : ∃ P : List Place, P.length = len1 ∧ Row 3 Place.cells w w.heap.size a1 P ∧ ∀ p ∈ P, p.Nums := by
  rcases open_slice Tryd.underlying22 h with ⟨hcs, _⟩ | ⟨a, len, cap, m, n, D, Pl, hcs, _, hl, _, hmm, _, hi⟩
  · simp [Value.cells] at hcs
    obtain ⟨rfl, rfl, rfl⟩ := hcs
    exact ⟨[], rfl, fun h0 => absurd h0 (by simp), fun x hx => by cases hx⟩
  · simp [Value.cells] at hcs
    obtain ⟨rfl, rfl, rfl⟩ := hcs
    have hlm : len1 ≤ m := by rw [hmm]; simp; omega
    rw [lm_three] at hi
    obtain ⟨L, hL, hP⟩ := each_of (P := fun i (y : Place) => (∀ (j : Nat) (v : Value), y.cells[j]? = some v → w.cell? ((a.add (i * 3)).add j) = some v) ∧ y.Nums) len1 (fun i hi1 => by
      obtain ⟨cs', hc, ht⟩ := hi i (by omega)
      obtain ⟨_, hcl, hat⟩ := World.cells?_some hc
      obtain ⟨y, rfl, g1⟩ := place_of ht
      exact ⟨y, fun j v hv => by
        have hj : j < 3 := (List.getElem?_eq_some_iff.1 hv).1
        rw [hat j hj, hv], g1⟩)
    exact ⟨L, hL, row_of place_three (by decide) hP⟩
set_option maxRecDepth 20000 in
theorem nameds_of {a1 : Option Addr} {len1 cap1 : Nat} {x : DataW H × List MemPlace}
    (h : DataW.trod enc Tryd.prog w 0 (fun _ => true) held fuel 23 (Value.slice a1 len1 cap1).cells.toList = some x) : ∃ Y : List Named, Y.length = len1 ∧ Row 2 Named.cells w w.heap.size a1 Y ∧ ∀ s ∈ Y, s.Nums := by
  rcases open_slice Tryd.underlying23 h with ⟨hcs, _⟩ | ⟨a, len, cap, m, n, D, Pl, hcs, _, hl, _, hmm, _, hi⟩
  · simp [Value.cells] at hcs
    obtain ⟨rfl, rfl, rfl⟩ := hcs
    exact ⟨[], rfl, fun h0 => absurd h0 (by simp), fun x hx => by cases hx⟩
  · simp [Value.cells] at hcs
    obtain ⟨rfl, rfl, rfl⟩ := hcs
    have hlm : len1 ≤ m := by rw [hmm]; simp; omega
    rw [lm_two] at hi
    obtain ⟨L, hL, hP⟩ := each_of (P := fun i (y : Named) => (∀ (j : Nat) (v : Value), y.cells[j]? = some v → w.cell? ((a.add (i * 2)).add j) = some v) ∧ y.Nums) len1 (fun i hi1 => by
      obtain ⟨cs', hc, ht⟩ := hi i (by omega)
      obtain ⟨_, hcl, hat⟩ := World.cells?_some hc
      obtain ⟨y, rfl, g1⟩ := named_of ht
      exact ⟨y, fun j v hv => by
        have hj : j < 2 := (List.getElem?_eq_some_iff.1 hv).1
        rw [hat j hj, hv], g1⟩)
    exact ⟨L, hL, row_of named_two (by decide) hP⟩
set_option maxRecDepth 20000 in
theorem addrs_of {a1 : Option Addr} {len1 cap1 : Nat} {x : DataW H × List MemPlace}
    (h : DataW.trod enc Tryd.prog w 0 (fun _ => true) held fuel 28 (Value.slice a1 len1 cap1).cells.toList = some x) : ∃ S : List Nat, S.length = len1 ∧ Row 1 sizC w w.heap.size a1 S ∧ ∀ n ∈ S, n < two64 := by
  rcases open_slice Tryd.underlying28 h with ⟨hcs, _⟩ | ⟨a, len, cap, m, n, D, Pl, hcs, _, hl, _, hmm, _, hi⟩
  · simp [Value.cells] at hcs
    obtain ⟨rfl, rfl, rfl⟩ := hcs
    exact ⟨[], rfl, fun h0 => absurd h0 (by simp), fun x hx => by cases hx⟩
  · simp [Value.cells] at hcs
    obtain ⟨rfl, rfl, rfl⟩ := hcs
    have hlm : len1 ≤ m := by rw [hmm]; simp; omega
    rw [y_u64] at hi
    obtain ⟨L, hL, hP⟩ := each_of (P := fun i (y : Nat) => (∀ (j : Nat) (v : Value), (sizC y)[j]? = some v → w.cell? ((a.add (i * 1)).add j) = some v) ∧ y < two64) len1 (fun i hi1 => by
      obtain ⟨cs', hc, ht⟩ := hi i (by omega)
      obtain ⟨_, hcl, hat⟩ := World.cells?_some hc
      match cs', hcl with
      | [c0], _ =>
        obtain ⟨z, rfl, hz⟩ := y_nat_of ht
        exact ⟨z, fun j v hv => by
          have hj : j < 1 := (List.getElem?_eq_some_iff.1 hv).1
          rw [hat j hj]
          exact hv, hz⟩)
    exact ⟨L, hL, row_of sizC_one (by decide) hP⟩
end

section
variable {H : Type} {enc : TypeId × Value → H} {w : World}
set_option maxRecDepth 20000 in
theorem map_arg {base : Nat} {v : Value} {d : DataW H} {p : List MemPlace} (hv : Value.okWide Tryd.prog w .any base 25 v) (h : DataW.Trod enc Tryd.prog w 0 (fun _ => true) true 25 v d p) :
    ∃ (aP : Option Addr) (P : List Place) (cP : Nat) (aY : Option Addr) (Y : List Named) (cY : Nat), v = .agg #[.slice aP P.length cP, .slice aY Y.length cY] ∧ Row 3 Place.cells w w.heap.size aP P ∧ Row 2 Named.cells w w.heap.size aY Y ∧ (∀ p ∈ P, p.Nums) ∧ ∀ s ∈ Y, s.Nums := by
  obtain ⟨cs, rfl, hsz⟩ := okWide_struct Tryd.underlying25 hv
  rw [lm_map] at hsz
  obtain ⟨l⟩ := cs
  obtain ⟨fuel, hf⟩ := h
  obtain ⟨xs, k, _, _, _, hlen, hg⟩ := DataW.trod_struct Tryd.underlying25 hf
  match l, hsz, xs, hlen with
  | [c0, c1], _, [y0, y1], _ =>
    have g0 := hg 0 _ rfl
    have g1 := hg 1 _ rfl
    simp [Value.cells, lm_places, lm_nameds] at g0 g1
    obtain ⟨a2, n2, k2, e2⟩ := slice_cell Tryd.underlying22 g0
    obtain ⟨a3, n3, k3, e3⟩ := slice_cell Tryd.underlying23 g1
    rw [e2] at g0
    rw [e3] at g1
    simp only [Value.cells, List.cons.injEq, and_true] at e2 e3
    obtain ⟨P, rfl, hP, hp⟩ := places_of g0
    obtain ⟨Y, rfl, hY, hy⟩ := nameds_of g1
    exact ⟨a2, P, k2, a3, Y, k3, by rw [e2, e3], hP, hY, hp, hy⟩
end

end Go.Proofs.YtejicboemkpeoaaDoor
