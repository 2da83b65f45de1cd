/-
  Entries, abbreviations and a head that came in, opened to their cells.
-/
import Derived.Test.YtejicboemkpeoaaGreatDoorCards
import Derived.Test.YtejicboemkpeoaaGreatDoorTie
import Derived.Test.YtejicboemkpeoaaGreatDoorRwR
import Derived.WalkKit
import Derived.ProofKit
import Derived.OpenShut
import Derived.ShutString
import Derived.SizedLaws
import Derived.Lib.LaidTab
import Derived.Deep.DeepHandedRow
import Derived.Deep.Slices
import Derived.Test.YtejicboemkpeoaaGreatDoorUnE
namespace Go.Proofs.YtejicboemkpeoaaGreatDoor
open Go Go.ChangeShapes Go.WideShapes Go.ChangeAt Go.RowKit Go.Deep

theorem rw_own : ownKnob Tryz.prog.godebug = none := by kernel_rfl
theorem rw_laidOut : laidOutB Tryz.prog = true := by kernel_rfl
theorem rw_sizes_global : Tryz.prog.globalNamed "sindri/length.sizes" = some 3 := by kernel_rfl
theorem rw_sizes_type : (Tryz.prog.globals[3]?).map (·.type) = some 288 := by kernel_rfl
theorem rw_forms_global : Tryz.prog.globalNamed "sindri/raw.forms" = some 2 := by kernel_rfl
theorem rw_forms_type : (Tryz.prog.globals[2]?).map (·.type) = some 270 := by kernel_rfl
theorem rw_two : Tryz.prog.cellsOf 269 = 2 := by kernel_rfl
theorem rw_int : Tryz.prog.cellsOf 3 = 1 := by kernel_rfl
theorem rw_i64 : Tryz.prog.cellsOf 2 = 1 := by kernel_rfl
theorem rw_u64 : Tryz.prog.cellsOf 38 = 1 := by kernel_rfl
/-- What each of these rows lists. -/
abbrev rwLaid : List (String × DataW Unit) := [("sindri/length.sizes", Rows.laid_sindri_length_sizes), ("sindri/raw.forms", Rows.laid_sindri_raw_forms)]

theorem rwsz_of_laid {W : World} (h : laidMetH Tryz.prog rwLaid W) : Sz W :=
  have ht : Lib.TabIs Tryz.prog W "sindri/length.sizes" .i64 [4, 8] := Lib.tabIs_of_head (rest := [("sindri/raw.forms", Rows.laid_sindri_raw_forms)]) rw_sizes_global rw_sizes_type Tryz.underlying288 Tryz.underlying3 (by kernel_rfl) (by kernel_rfl) h
  ⟨ht.cell rw_sizes_global 0 (by decide), ht.cell rw_sizes_global 1 (by decide)⟩

theorem rw_forms_data : (Rows.laid_sindri_raw_forms : DataW Unit) = .agg (formsT.map fun p => .agg [.lit (.int .i64 p.1), .lit (.int .i64 p.2)]) := by kernel_rfl
set_option maxRecDepth 10000 in
theorem rwft_of_laid {W : World} (h : laidMetH Tryz.prog rwLaid W) : Ft W := by
  obtain ⟨ps, hv, _⟩ := (show laidMet Tryz.prog rwLaid W from h)
  obtain ⟨g1, t1, cs1, f1, p1, q1, -, -, -, -, hv2, -⟩ := hv
  obtain ⟨g', t', cs, fuel, p, q, hg', ht', hvar, hd, -, -⟩ := hv2
  obtain rfl := Option.some.inj (rw_forms_global.symm.trans hg')
  obtain rfl := Option.some.inj (rw_forms_type.symm.trans ht')
  rw [rw_forms_data] at hd
  obtain ⟨xs, m, -, hx, -, hlen, hget⟩ := DataW.trod_array Tryz.underlying270 hd
  have hxs : xs.map (·.1) = formsT.map fun p => (DataW.agg [.lit (.int .i64 p.1), .lit (.int .i64 p.2)] : DataW Unit) := by
    have := congrArg Prod.fst hx
    injection this with this
    exact this.symm
  clear hx hd
  intro n p hp
  have hn : n < 45 := (List.getElem?_eq_some_iff.1 hp).1
  have hgn := hget n hn
  have hxn := congrArg (·[n]?) hxs
  simp only [List.getElem?_map, hp, Option.map_some] at hxn
  obtain ⟨x, hxe, hx1⟩ := Option.map_eq_some_iff.1 hxn
  rw [hxe, rw_two] at hgn
  obtain ⟨ys, k, _, hy, hcl, hlen2, hg⟩ := DataW.trod_struct Tryz.underlying269 hgn
  rw [rw_two] at hcl
  generalize hL : List.take 2 (List.drop (n * 2) cs.toList) = L at *
  match L, hcl, ys, hlen2 with
  | [c0, c1], _, [y0, y1], _ =>
    have g0 := hg 0 _ rfl
    have g1 := hg 1 _ rfl
    simp [rw_int] at g0 g1
    obtain ⟨z0, e0, d0, _⟩ := DataW.trod_int Tryz.underlying3 g0
    obtain ⟨z1, e1, d1, _⟩ := DataW.trod_int Tryz.underlying3 g1
    injection e0 with e0
    injection e1 with e1
    rw [hy] at hx1
    simp [d0, d1] at hx1
    obtain ⟨rfl, rfl⟩ := hx1
    have k0 := congrArg (·[0]?) hL
    have k1 := congrArg (·[1]?) hL
    simp [List.getElem?_drop] at k0 k1
    refine ⟨?_, ?_⟩
    · rw [World.var?_cell rw_forms_global hvar]
      rw [k0, e0]
    · rw [World.var?_cell rw_forms_global hvar]
      rw [k1, e1]

/-- A world in which the tables hold what their initialisers lay. -/
noncomputable def rwWorld (os : Os) : World :=
  let w := World.holding Tryz.prog os ⟨#[], #[], []⟩
  { w with heap := ((w.heap.modify 3 fun
      | .cells _ t f => .cells #[.int .i64 4, .int .i64 8] t f
      | o => o).modify 2 fun
      | .cells _ t f => .cells (formsT.flatMap fun p => [.int .i64 p.1, .int .i64 p.2]).toArray t f
      | o => o) }

section
variable {H : Type} {enc : TypeId × Value → H} {w : World}
set_option maxRecDepth 10000 in
/-- Bytes that came in, as the walks ask for them. -/
theorem rw_row {held : Bool} {fuel : Nat} {a : Option Addr} {len cap : Nat} {x : DataW H × List MemPlace}
    (h : DataW.trod enc Tryz.prog w 0 (fun _ => true) held fuel 26 (Value.slice a len cap).cells.toList = some x) : ∃ zs, IsRow .u8 w a len cap zs := by
  rcases open_ints Tryz.underlying26 Tryz.underlying5 (by kernel_rfl) h with ⟨hcs, _⟩ | ⟨b, l, c, zs, hcs, _, hl, hm, hz, _, hcell, hwz⟩
  · simp [Value.cells] at hcs
    obtain ⟨rfl, rfl, rfl⟩ := hcs
    exact ⟨[], .inl ⟨rfl, rfl, rfl, rfl⟩⟩
  · simp [Value.cells] at hcs
    obtain ⟨rfl, rfl, rfl⟩ := hcs
    exact ⟨zs, .inr ⟨_, rfl, hl, hm, by simpa using hz, hcell, hwz⟩⟩
theorem rw_cell {held : Bool} {fuel : Nat} {t e : TypeId} (ht : Tryz.prog.underlying t = some (.slice e)) {cs : List Value} {x : DataW H × List MemPlace}
    (h : DataW.trod enc Tryz.prog w 0 (fun _ => true) held fuel t cs = some x) : ∃ a len cap, cs = (Value.slice a len cap).cells.toList := by
  rcases open_slice ht h with ⟨e, _⟩ | ⟨a, len, cap, m, n, D, Pl, e, _⟩
  · exact ⟨none, 0, 0, e⟩
  · exact ⟨some a, len, cap, e⟩
end

end Go.Proofs.YtejicboemkpeoaaGreatDoor

namespace Go.Proofs.YtejicboemkpeoaaGreatDoor
open Go Go.ChangeShapes Go.WideShapes Go.ChangeAt Go.RowKit Go.Deep

theorem eachD {α : Type} {P : Nat → α → Prop} : ∀ (n : Nat), (∀ i, i < n → ∃ x, P i x) → ∃ L : List α, L.length = n ∧ ∀ (i : Nat) (x : α), L[i]? = some x → P i x
  | 0, _ => ⟨[], rfl, fun i x h => by simp at h⟩
  | n + 1, h => by
    obtain ⟨L, h1, h2⟩ := eachD n (fun i hi => h i (by omega))
    obtain ⟨y, hy⟩ := h n (by omega)
    refine ⟨L ++ [y], by simp [h1], fun i x hx => ?_⟩
    rcases Nat.lt_or_ge i n with hi | hi
    · rw [List.getElem?_append_left (by omega)] at hx
      exact h2 i x hx
    · have hil : i < (L ++ [y]).length := (List.getElem?_eq_some_iff.1 hx).1
      have : i = n := by simp at hil; omega
      subst this
      rw [List.getElem?_append_right (by omega), h1, Nat.sub_self] at hx
      injection hx with hx
      exact hx ▸ hy

theorem dv_abb : Tryz.prog.cellsOf 123 = 4 := by kernel_rfl
theorem dv_spec : Tryz.prog.cellsOf 125 = 3 := by kernel_rfl
theorem dv_spcs : Tryz.prog.cellsOf 121 = 1 := by kernel_rfl
theorem dv_bool : Tryz.prog.cellsOf 4 = 1 := by kernel_rfl
theorem dv_head : Tryz.prog.cellsOf 45 = 8 := by kernel_rfl
/-- What came in as an attribute, its lengths aside. -/
structure AtL.Nums (t : AtL) : Prop where
  u : t.y.x.u < two64
  s : InI t.y.x.s
/-- What came in as an entry, its lengths aside. -/
structure DLay.Nums (y : DLay) : Prop where
  code : y.code < two64
  depth : InI y.depth
  ats : ∀ t ∈ y.L, t.Nums
section
variable {H : Type} {enc : TypeId × Value → H} {w : World} {held : Bool} {fuel : Nat}
theorem dv_int_of {c : Value} {y : DataW H × List MemPlace} (hy : DataW.trod enc Tryz.prog w 0 (fun _ => true) held fuel 3 [c] = some y) : ∃ z, c = .int .i64 z ∧ InI z := by
  obtain ⟨z, hz, _, hw⟩ := DataW.trod_int Tryz.underlying3 hy
  injection hz with hz
  exact ⟨z, hz, i64_of hw⟩
theorem dv_i64_of {c : Value} {y : DataW H × List MemPlace} (hy : DataW.trod enc Tryz.prog w 0 (fun _ => true) held fuel 2 [c] = some y) : ∃ z, c = .int .i64 z ∧ InI z := by
  obtain ⟨z, hz, _, hw⟩ := DataW.trod_int Tryz.underlying2 hy
  injection hz with hz
  exact ⟨z, hz, i64_of hw⟩
theorem dv_nat_of {c : Value} {y : DataW H × List MemPlace} (hy : DataW.trod enc Tryz.prog w 0 (fun _ => true) held fuel 38 [c] = some y) : ∃ z : Nat, c = .int .u64 (z : Int) ∧ z < two64 := by
  obtain ⟨z, hz, _, hw⟩ := DataW.trod_int Tryz.underlying38 hy
  injection hz with hz
  obtain ⟨n, rfl, hn⟩ := nat_of_u64 hw
  exact ⟨n, hz, hn⟩

/-- Items that lie at their places. -/
theorem rowD_of {α : Type} {n : Nat} {f : α → List Value} {P : α → Prop} (hn : ∀ x, (f x).length = n) (hpos : 0 < n) {a : Addr} {L : List α} (hP : ∀ (i : Nat) (y : α), L[i]? = some y → (∀ (j : Nat) (v : Value), (f y)[j]? = some v → w.cell? ((a.add (i * n)).add j) = some v) ∧ P y) :
    Row n f w w.heap.size (some a) L ∧ ∀ y ∈ L, P y := by
  refine ⟨fun h0 => ?_, fun y hy => ?_⟩
  · have hx0 : L[0]? = some (L[0]'h0) := List.getElem?_eq_getElem _
    have hz : 0 < (f (L[0]'h0)).length := by rw [hn]; exact hpos
    have hc0 := (hP 0 _ hx0).1 0 _ (List.getElem?_eq_getElem hz)
    obtain ⟨b, o, spot⟩ := a
    have hspot : spot = none := by simpa [Addr.add] using World.cell?_spot hc0
    subst hspot
    refine ⟨b, o, rfl, ?_, fun i y hy j v hv => ?_⟩
    · have := World.block_lt_of_cell? w _ hc0
      simpa [addr_add] using this
    · have := (hP i y hy).1 j v hv
      rwa [addr_add, addr_add] at this
  · obtain ⟨i, hi', e⟩ := List.getElem_of_mem hy
    exact (hP i y (by rw [← e]; exact List.getElem?_eq_getElem hi')).2


set_option maxRecDepth 20000 in
theorem spc17_of {cs : List Value} {x : DataW H × List MemPlace}
    (h : DataW.trod enc Tryz.prog w 0 (fun _ => true) held fuel 125 cs = some x) : ∃ y : Spc, cs = y.cells ∧ True := by
  obtain ⟨xs, k, _, _, hcl, hlen, hg⟩ := DataW.trod_struct Tryz.underlying125 h
  rw [dv_spec] at hcl
  match cs, hcl, xs, hlen with
  | [c0, c1, c2], _, [y0, y1, y2], _ =>
    have g0 := hg 0 _ rfl
    have g1 := hg 1 _ rfl
    have g2 := hg 2 _ rfl
    simp [rw_int, rw_i64] at g0 g1 g2
    obtain ⟨z0, rfl, i0⟩ := dv_int_of g0
    obtain ⟨z1, rfl, i1⟩ := dv_int_of g1
    obtain ⟨z2, rfl, i2⟩ := dv_i64_of g2
    exact ⟨⟨z0, z1, z2⟩, rfl, trivial⟩

set_option maxRecDepth 20000 in
theorem spcs17_of {a1 : Option Addr} {len1 cap1 : Nat} {x : DataW H × List MemPlace}
    (h : DataW.trod enc Tryz.prog w 0 (fun _ => true) held fuel 121 (Value.slice a1 len1 cap1).cells.toList = some x) : ∃ L : List Spc, L.length = len1 ∧ Spcs w w.heap.size a1 L := by
  rcases open_slice Tryz.underlying121 h with ⟨hcs, _⟩ | ⟨a, len, cap, m, n, D, Pl, hcs, _, hl, hcx, hmm, _, hi⟩
  · simp [Value.cells] at hcs
    obtain ⟨rfl, rfl, rfl⟩ := hcs
    exact ⟨[], rfl, fun h0 => absurd h0 (by simp)⟩
  · simp [Value.cells] at hcs
    obtain ⟨rfl, rfl, rfl⟩ := hcs
    have hlm : len1 ≤ m := by rw [hmm]; simp; omega
    rw [dv_spec] at hi
    obtain ⟨L, hL, hP⟩ := eachD (P := fun i (y : Spc) => (∀ (j : Nat) (v : Value), y.cells[j]? = some v → w.cell? ((a.add (i * 3)).add j) = some v) ∧ True) len1 (fun i hi1 => by
      obtain ⟨cs', hc, ht⟩ := hi i (by omega)
      obtain ⟨_, hcl, hat⟩ := World.cells?_some hc
      obtain ⟨y, rfl, g1⟩ := spc17_of ht
      exact ⟨y, fun j v hv => by
        have hj : j < 3 := (List.getElem?_eq_some_iff.1 hv).1
        rw [hat j hj, hv], g1⟩)
    obtain ⟨h1, h2⟩ := rowD_of (P := fun (y : Spc) => True) spc_three (by decide) hP
    exact ⟨L, hL, h1⟩

set_option maxRecDepth 20000 in
theorem alay17_of {cs : List Value} {x : DataW H × List MemPlace} (h : DataW.trod enc Tryz.prog w 0 (fun _ => true) held fuel 123 cs = some x) : ∃ y : ALay, cs = y.cells ∧ Spcs w w.heap.size y.a y.x.l := by
  obtain ⟨xs, k, _, _, hcl, hlen, hg⟩ := DataW.trod_struct Tryz.underlying123 h
  rw [dv_abb] at hcl
  match cs, hcl, xs, hlen with
  | [c0, c1, c2, c3], _, [y0, y1, y2, y3], _ =>
    have g0 := hg 0 _ rfl
    have g1 := hg 1 _ rfl
    have g2 := hg 2 _ rfl
    have g3 := hg 3 _ rfl
    simp [rw_int, rw_u64, dv_bool, dv_spcs] at g0 g1 g2 g3
    obtain ⟨z0, rfl, i0⟩ := dv_nat_of g0
    obtain ⟨z1, rfl, i1⟩ := dv_int_of g1
    obtain ⟨b1, hb1, _⟩ := DataW.trod_bool Tryz.underlying4 g2
    injection hb1 with hb1
    obtain ⟨a3, n3, k3, e3⟩ := rw_cell Tryz.underlying121 g3
    rw [e3] at g3
    simp only [Value.cells, List.cons.injEq, and_true] at e3
    obtain ⟨L, rfl, hs⟩ := spcs17_of g3
    exact ⟨⟨⟨z0, z1, b1, L⟩, a3, k3⟩, by rw [hb1, e3]; rfl, hs⟩

set_option maxRecDepth 20000 in
theorem abbs17_of {a1 : Option Addr} {len1 cap1 : Nat} {x : DataW H × List MemPlace}
    (h : DataW.trod enc Tryz.prog w 0 (fun _ => true) held fuel 46 (Value.slice a1 len1 cap1).cells.toList = some x) : ∃ L : List ALay, L.length = len1 ∧ Abbs w w.heap.size a1 L := by
  rcases open_slice Tryz.underlying46 h with ⟨hcs, _⟩ | ⟨a, len, cap, m, n, D, Pl, hcs, _, hl, hcx, hmm, _, hi⟩
  · simp [Value.cells] at hcs
    obtain ⟨rfl, rfl, rfl⟩ := hcs
    exact ⟨[], rfl, ⟨fun h0 => absurd h0 (by simp), fun x hx => by cases hx⟩⟩
  · simp [Value.cells] at hcs
    obtain ⟨rfl, rfl, rfl⟩ := hcs
    have hlm : len1 ≤ m := by rw [hmm]; simp; omega
    rw [dv_abb] at hi
    obtain ⟨L, hL, hP⟩ := eachD (P := fun i (y : ALay) => (∀ (j : Nat) (v : Value), y.cells[j]? = some v → w.cell? ((a.add (i * 4)).add j) = some v) ∧ Spcs w w.heap.size y.a y.x.l) len1 (fun i hi1 => by
      obtain ⟨cs', hc, ht⟩ := hi i (by omega)
      obtain ⟨_, hcl, hat⟩ := World.cells?_some hc
      obtain ⟨y, rfl, g1⟩ := alay17_of ht
      exact ⟨y, fun j v hv => by
        have hj : j < 4 := (List.getElem?_eq_some_iff.1 hv).1
        rw [hat j hj, hv], g1⟩)
    obtain ⟨h1, h2⟩ := rowD_of (P := fun (y : ALay) => Spcs w w.heap.size y.a y.x.l) abb_four (by decide) hP
    exact ⟨L, hL, ⟨h1, h2⟩⟩

set_option maxRecDepth 20000 in
theorem uhead17_arg {base : Nat} {v : Value} {d : DataW H} {p : List MemPlace} (hv : Value.okWide Tryz.prog w .any base 45 v) (h : DataW.Trod enc Tryz.prog w 0 (fun _ => true) true 45 v d p) :
    ∃ y : UHd, v = .agg #[.int .i64 y.kind, .bool y.wide, .int .u64 (y.ab : Int), .int .u64 (y.sig : Int), .int .u64 (y.ty : Int), .int .u64 (y.off : Int), .int .u64 (y.first : Int), .int .u64 (y.stop : Int)] ∧ y.first < two64 := by
  obtain ⟨cs, rfl, hsz⟩ := okWide_struct Tryz.underlying45 hv
  rw [dv_head] at hsz
  obtain ⟨l⟩ := cs
  obtain ⟨fuel, hf⟩ := h
  obtain ⟨xs, k, _, _, _, hlen, hg⟩ := DataW.trod_struct Tryz.underlying45 hf
  match l, hsz, xs, hlen with
  | [c0, c1, c2, c3, c4, c5, c6, c7], _, [y0, y1, y2, y3, y4, y5, y6, y7], _ =>
    have g0 := hg 0 _ rfl
    have g1 := hg 1 _ rfl
    have g2 := hg 2 _ rfl
    have g3 := hg 3 _ rfl
    have g4 := hg 4 _ rfl
    have g5 := hg 5 _ rfl
    have g6 := hg 6 _ rfl
    have g7 := hg 7 _ rfl
    simp [Value.cells, rw_int, dv_bool, rw_u64] at g0 g1 g2 g3 g4 g5 g6 g7
    obtain ⟨z0, rfl, -⟩ := dv_int_of g0
    obtain ⟨b1, e1, _⟩ := DataW.trod_bool Tryz.underlying4 g1
    injection e1 with e1
    obtain ⟨z2, rfl, -⟩ := dv_nat_of g2
    obtain ⟨z3, rfl, -⟩ := dv_nat_of g3
    obtain ⟨z4, rfl, -⟩ := dv_nat_of g4
    obtain ⟨z5, rfl, -⟩ := dv_nat_of g5
    obtain ⟨z6, rfl, i6⟩ := dv_nat_of g6
    obtain ⟨z7, rfl, -⟩ := dv_nat_of g7
    subst e1
    exact ⟨⟨z0, b1, z2, z3, z4, z5, z6, z7⟩, rfl, i6⟩
end

end Go.Proofs.YtejicboemkpeoaaGreatDoor
