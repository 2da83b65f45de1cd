/-
  What every row of package raw has in common: the two tables out of the row's list, a world for the witness; a value and an attribute's form that came in, opened to their cells.
-/
import Derived.Test.YtpmndmbhkfbljaaDoorCards
import Derived.Test.YtpmndmbhkfbljaaDoorTie
import Derived.Test.YtpmndmbhkfbljaaDoorRwR
import Derived.WalkKit
import Derived.ProofKit
import Derived.OpenShut
import Derived.ShutString
import Derived.SizedLaws
import Derived.Lib.LaidTab
import Derived.Deep.DeepHandedRow
import Derived.Deep.Slices
namespace Go.Proofs.YtpmndmbhkfbljaaDoor
open Go Go.ChangeShapes Go.WideShapes Go.ChangeAt Go.RowKit Go.Deep

theorem rw_own : ownKnob Tryd.prog.godebug = none := by kernel_rfl
theorem rw_laidOut : laidOutB Tryd.prog = true := by kernel_rfl
theorem rw_sizes_global : Tryd.prog.globalNamed "sindri/length.sizes" = some 1 := by kernel_rfl
theorem rw_sizes_type : (Tryd.prog.globals[1]?).map (·.type) = some 105 := by kernel_rfl
theorem rw_forms_global : Tryd.prog.globalNamed "sindri/raw.forms" = some 0 := by kernel_rfl
theorem rw_forms_type : (Tryd.prog.globals[0]?).map (·.type) = some 70 := by kernel_rfl
theorem rw_two : Tryd.prog.cellsOf 69 = 2 := by kernel_rfl
theorem rw_int : Tryd.prog.cellsOf 3 = 1 := by kernel_rfl
theorem rw_i64 : Tryd.prog.cellsOf 2 = 1 := by kernel_rfl
theorem rw_u64 : Tryd.prog.cellsOf 31 = 1 := by kernel_rfl
theorem rw_byt : Tryd.prog.cellsOf 22 = 1 := by kernel_rfl
theorem rw_str : Tryd.prog.cellsOf 9 = 1 := by kernel_rfl
theorem rw_five : Tryd.prog.cellsOf 33 = 5 := by kernel_rfl
/-- What each of these rows lists. -/
abbrev rwLaid : List (String × DataW Unit) := [("sindri/length.sizes", Rows.laid_sindri_length_sizes), ("sindri/raw.forms", Rows.laid_sindri_raw_forms)]

theorem rwsz_of_laid {W : World} (h : laidMetH Tryd.prog rwLaid W) : Sz W :=
  have ht : Lib.TabIs Tryd.prog W "sindri/length.sizes" .i64 [4, 8] := Lib.tabIs_of_head (rest := [("sindri/raw.forms", Rows.laid_sindri_raw_forms)]) rw_sizes_global rw_sizes_type Tryd.underlying105 Tryd.underlying3 (by kernel_rfl) (by kernel_rfl) h
  ⟨ht.cell rw_sizes_global 0 (by decide), ht.cell rw_sizes_global 1 (by decide)⟩

theorem rw_forms_data : (Rows.laid_sindri_raw_forms : DataW Unit) = .agg (formsT.map fun p => .agg [.lit (.int .i64 p.1), .lit (.int .i64 p.2)]) := by kernel_rfl
set_option maxRecDepth 10000 in
theorem rwft_of_laid {W : World} (h : laidMetH Tryd.prog rwLaid W) : Ft W := by
  obtain ⟨ps, hv, _⟩ := (show laidMet Tryd.prog rwLaid W from h)
  obtain ⟨g1, t1, cs1, f1, p1, q1, -, -, -, -, hv2, -⟩ := hv
  obtain ⟨g', t', cs, fuel, p, q, hg', ht', hvar, hd, -, -⟩ := hv2
  obtain rfl := Option.some.inj (rw_forms_global.symm.trans hg')
  obtain rfl := Option.some.inj (rw_forms_type.symm.trans ht')
  rw [rw_forms_data] at hd
  obtain ⟨xs, m, -, hx, -, hlen, hget⟩ := DataW.trod_array Tryd.underlying70 hd
  have hxs : xs.map (·.1) = formsT.map fun p => (DataW.agg [.lit (.int .i64 p.1), .lit (.int .i64 p.2)] : DataW Unit) := by
    have := congrArg Prod.fst hx
    injection this with this
    exact this.symm
  clear hx hd
  intro n p hp
  have hn : n < 45 := (List.getElem?_eq_some_iff.1 hp).1
  have hgn := hget n hn
  have hxn := congrArg (·[n]?) hxs
  simp only [List.getElem?_map, hp, Option.map_some] at hxn
  obtain ⟨x, hxe, hx1⟩ := Option.map_eq_some_iff.1 hxn
  rw [hxe, rw_two] at hgn
  obtain ⟨ys, k, _, hy, hcl, hlen2, hg⟩ := DataW.trod_struct Tryd.underlying69 hgn
  rw [rw_two] at hcl
  generalize hL : List.take 2 (List.drop (n * 2) cs.toList) = L at *
  match L, hcl, ys, hlen2 with
  | [c0, c1], _, [y0, y1], _ =>
    have g0 := hg 0 _ rfl
    have g1 := hg 1 _ rfl
    simp [rw_int] at g0 g1
    obtain ⟨z0, e0, d0, _⟩ := DataW.trod_int Tryd.underlying3 g0
    obtain ⟨z1, e1, d1, _⟩ := DataW.trod_int Tryd.underlying3 g1
    injection e0 with e0
    injection e1 with e1
    rw [hy] at hx1
    simp [d0, d1] at hx1
    obtain ⟨rfl, rfl⟩ := hx1
    have k0 := congrArg (·[0]?) hL
    have k1 := congrArg (·[1]?) hL
    simp [List.getElem?_drop] at k0 k1
    refine ⟨?_, ?_⟩
    · rw [World.var?_cell rw_forms_global hvar]
      rw [k0, e0]
    · rw [World.var?_cell rw_forms_global hvar]
      rw [k1, e1]

/-- A world in which the tables hold what their initialisers lay. -/
noncomputable def rwWorld (os : Os) : World :=
  let w := World.holding Tryd.prog os ⟨#[], #[], []⟩
  { w with heap := ((w.heap.modify 1 fun
      | .cells _ t f => .cells #[.int .i64 4, .int .i64 8] t f
      | o => o).modify 0 fun
      | .cells _ t f => .cells (formsT.flatMap fun p => [.int .i64 p.1, .int .i64 p.2]).toArray t f
      | o => o) }

section
variable {H : Type} {enc : TypeId × Value → H} {w : World}
set_option maxRecDepth 10000 in
/-- Bytes that came in, as the walks ask for them. -/
theorem rw_row {held : Bool} {fuel : Nat} {a : Option Addr} {len cap : Nat} {x : DataW H × List MemPlace}
    (h : DataW.trod enc Tryd.prog w 0 (fun _ => true) held fuel 22 (Value.slice a len cap).cells.toList = some x) : ∃ zs, IsRow .u8 w a len cap zs := by
  rcases open_ints Tryd.underlying22 Tryd.underlying5 (by kernel_rfl) h with ⟨hcs, _⟩ | ⟨b, l, c, zs, hcs, _, hl, hm, hz, _, hcell, hwz⟩
  · simp [Value.cells] at hcs
    obtain ⟨rfl, rfl, rfl⟩ := hcs
    exact ⟨[], .inl ⟨rfl, rfl, rfl, rfl⟩⟩
  · simp [Value.cells] at hcs
    obtain ⟨rfl, rfl, rfl⟩ := hcs
    exact ⟨zs, .inr ⟨_, rfl, hl, hm, by simpa using hz, hcell, hwz⟩⟩
theorem rw_cell {held : Bool} {fuel : Nat} {t e : TypeId} (ht : Tryd.prog.underlying t = some (.slice e)) {cs : List Value} {x : DataW H × List MemPlace}
    (h : DataW.trod enc Tryd.prog w 0 (fun _ => true) held fuel t cs = some x) : ∃ a len cap, cs = (Value.slice a len cap).cells.toList := by
  rcases open_slice ht h with ⟨e, _⟩ | ⟨a, len, cap, m, n, D, Pl, e, _⟩
  · exact ⟨none, 0, 0, e⟩
  · exact ⟨some a, len, cap, e⟩
set_option maxRecDepth 20000 in
theorem raw_arg {base : Nat} {v : Value} {d : DataW H} {p : List MemPlace} (hv : Value.okWide Tryd.prog w .any base 33 v) (h : DataW.Trod enc Tryd.prog w 0 (fun _ => true) true 33 v d p) :
    ∃ y : WLay, v = .agg #[.int .i64 y.x.form, .int .u64 (y.x.u : Int), .int .i64 y.x.s, .slice y.a y.x.b.length y.c, .string ⟨y.x.t.toArray⟩] ∧ y.In w := by
  obtain ⟨cs, rfl, hsz⟩ := okWide_struct Tryd.underlying33 hv
  rw [rw_five] at hsz
  obtain ⟨l⟩ := cs
  obtain ⟨fuel, hf⟩ := h
  obtain ⟨xs, k, _, _, _, hlen, hg⟩ := DataW.trod_struct Tryd.underlying33 hf
  match l, hsz, xs, hlen with
  | [c0, c1, c2, c3, c4], _, [y0, y1, y2, y3, y4], _ =>
    have g0 := hg 0 _ rfl
    have g1 := hg 1 _ rfl
    have g2 := hg 2 _ rfl
    have g3 := hg 3 _ rfl
    have g4 := hg 4 _ rfl
    simp [Value.cells, rw_int, rw_i64, rw_u64, rw_byt, rw_str] at g0 g1 g2 g3 g4
    obtain ⟨z0, e0, _, _⟩ := DataW.trod_int Tryd.underlying3 g0
    obtain ⟨z1, e1, _, i1⟩ := DataW.trod_int Tryd.underlying31 g1
    obtain ⟨z2, e2, _, i2⟩ := DataW.trod_int Tryd.underlying2 g2
    injection e0 with e0
    injection e1 with e1
    injection e2 with e2
    obtain ⟨n1, rfl, hn1⟩ := nat_of_u64 i1
    obtain ⟨a3, n3, k3, e3⟩ := rw_cell Tryd.underlying22 g3
    rw [e3] at g3
    simp only [Value.cells, List.cons.injEq, and_true] at e3
    obtain ⟨zs, hrow⟩ := rw_row g3
    obtain ⟨tl, hlen3, hrd, hlc, hcm⟩ := row_bytes hrow
    obtain ⟨s, hs, _, _⟩ := DataW.trod_string Tryd.underlying9 g4
    injection hs with hs
    refine ⟨⟨⟨z0, n1, z2, tl, s.data.toList⟩, a3, k3⟩, ?_, ⟨hrd, hn1, i64_of i2, ?_⟩⟩
    · subst e0 e1 e2 hs
      rw [e3, hlen3]
    · show tl.length ≤ 9223372036854775807
      unfold maxLen at hcm
      omega
end

end Go.Proofs.YtpmndmbhkfbljaaDoor
