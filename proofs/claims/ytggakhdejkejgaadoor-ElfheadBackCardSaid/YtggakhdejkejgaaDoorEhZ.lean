/-
  What every row of package elfhead has in common: the table of first bytes out of the row's list, a world for the witness; an argument's bytes, and a header, opened to their cells.
-/
import Derived.Test.YtggakhdejkejgaaDoorCards
import Derived.Test.YtggakhdejkejgaaDoorTie
import Derived.Test.YtggakhdejkejgaaDoorEhC
import Derived.Test.YtggakhdejkejgaaDoorLawA
import Derived.WalkKit
import Derived.ProofKit
import Derived.OpenShut
import Derived.SizedLaws
import Derived.Lib.LaidTab
import Derived.Deep.DeepHandedRow
namespace Go.Proofs.YtggakhdejkejgaaDoor
open Go Go.ChangeShapes Go.WideShapes Go.ChangeAt Go.RowKit

theorem eh_own : ownKnob Tryd.prog.godebug = none := by kernel_rfl
theorem eh_laidOut : laidOutB Tryd.prog = true := by kernel_rfl
theorem eh_global : Tryd.prog.globalNamed "sindri/elfhead.magic" = some 0 := by kernel_rfl
theorem eh_type : (Tryd.prog.globals[0]?).map (·.type) = some 39 := by kernel_rfl
theorem eh_one : Tryd.prog.cellsOf 3 = 1 := by kernel_rfl
theorem eh_one' : Tryd.prog.cellsOf 23 = 1 := by kernel_rfl
theorem eh_five : Tryd.prog.cellsOf 29 = 5 := by kernel_rfl
theorem eh_bytes : Tryd.prog.bytesOf 5 = 1 := by kernel_rfl

/-- What each of these rows lists. -/
abbrev ehLaid : List (String × DataW Unit) := [("sindri/elfhead.magic", Rows.laid_sindri_elfhead_magic)]

theorem mg_of_laid {W : World} (h : laidMetH Tryd.prog ehLaid W) : Mg W := by
  have ht : Lib.TabIs Tryd.prog W "sindri/elfhead.magic" .u8 [127, 69, 76, 70, 2, 1, 1] := Lib.tabIs_of_head (rest := []) eh_global eh_type Tryd.underlying39 Tryd.underlying5 (by kernel_rfl) (by kernel_rfl) h
  intro j u hu
  have hj : j < 7 := (List.getElem?_eq_some_iff.1 hu).1
  have hc := ht.cell eh_global j hj
  have h7 : j = 0 ∨ j = 1 ∨ j = 2 ∨ j = 3 ∨ j = 4 ∨ j = 5 ∨ j = 6 := by omega
  rcases h7 with rfl | rfl | rfl | rfl | rfl | rfl | rfl
  all_goals
    injection hu with hu
    subst hu
    exact hc

/-- A world in which the table holds what its initialiser lays. -/
noncomputable def ehWorld (os : Os) : World :=
  let w := World.holding Tryd.prog os ⟨#[], #[], []⟩
  { w with heap := w.heap.modify 0 fun
      | .cells _ t f => .cells #[.int .u8 127, .int .u8 69, .int .u8 76, .int .u8 70, .int .u8 2, .int .u8 1, .int .u8 1] t f
      | o => o }

section
variable {H : Type} {enc : TypeId × Value → H} {w : World}
/-- Bytes that came in, as the walks ask for them. -/
theorem eh_row {held : Bool} {fuel : Nat} {a : Option Addr} {len cap : Nat} {x : DataW H × List MemPlace}
    (h : DataW.trod enc Tryd.prog w 0 (fun _ => true) held fuel 22 (Value.slice a len cap).cells.toList = some x) :
    ∃ zs, IsRow .u8 w a len cap zs ∧ (cap = 0 ∨ ∃ es ss, x.1 = .slice es ss ∧ es.length + ss.length = cap) := by
  rcases open_ints Tryd.underlying22 Tryd.underlying5 (by kernel_rfl) h with ⟨hcs, _⟩ | ⟨b, l, c, zs, hcs, _, hl, hm, hz, hx, hcell, hwz⟩
  · simp [Value.cells] at hcs
    obtain ⟨rfl, rfl, rfl⟩ := hcs
    exact ⟨[], .inl ⟨rfl, rfl, rfl, rfl⟩, .inl rfl⟩
  · simp [Value.cells] at hcs
    obtain ⟨rfl, rfl, rfl⟩ := hcs
    have hzc : zs.length = cap := by simpa using hz
    exact ⟨zs, .inr ⟨_, rfl, hl, hm, hzc, hcell, hwz⟩, .inr ⟨_, _, by rw [hx], by simp [lits]; omega⟩⟩

/-- A header that came in: five numbers. -/
theorem eh_head {base : Nat} {v : Value} {d : DataW H} {p : List MemPlace} (hv : Value.okWide Tryd.prog w .any base 29 v) (h : DataW.Trod enc Tryd.prog w 0 (fun _ => true) true 29 v d p) :
    ∃ t m o n s, v = .agg #[.int .i64 t, .int .i64 m, .int .u64 o, .int .i64 n, .int .i64 s] ∧ (Lit.int .u64 o).wf = true := by
  obtain ⟨cs, rfl, hsz⟩ := okWide_struct Tryd.underlying29 hv
  rw [eh_five] at hsz
  obtain ⟨l⟩ := cs
  obtain ⟨fuel, hf⟩ := h
  obtain ⟨xs, k, _, _, _, hlen, hg⟩ := DataW.trod_struct Tryd.underlying29 hf
  have hone : ∀ (i : Nat) (c : Value) (t : TypeId) (q : IntKind) (y : DataW H × List MemPlace), Tryd.prog.underlying t = some (.int q) → DataW.trod enc Tryd.prog w 0 (fun _ => true) true k t [c] = some y → ∃ z, c = .int q z ∧ (Lit.int q z).wf = true :=
    fun _ c t q y hu hy => by
      obtain ⟨z, hz, _, hw⟩ := DataW.trod_int hu hy
      injection hz with hz
      exact ⟨z, hz, hw⟩
  match l, hsz, xs, hlen with
  | [c0, c1, c2, c3, c4], _, [y0, y1, y2, y3, y4], _ =>
    have g0 := hg 0 _ rfl
    have g1 := hg 1 _ rfl
    have g2 := hg 2 _ rfl
    have g3 := hg 3 _ rfl
    have g4 := hg 4 _ rfl
    simp [Value.cells, eh_one, eh_one'] at g0 g1 g2 g3 g4
    obtain ⟨z0, rfl, _⟩ := hone 0 _ _ _ _ Tryd.underlying3 g0
    obtain ⟨z1, rfl, _⟩ := hone 1 _ _ _ _ Tryd.underlying3 g1
    obtain ⟨z2, rfl, hw⟩ := hone 2 _ _ _ _ Tryd.underlying23 g2
    obtain ⟨z3, rfl, _⟩ := hone 3 _ _ _ _ Tryd.underlying3 g3
    obtain ⟨z4, rfl, _⟩ := hone 4 _ _ _ _ Tryd.underlying3 g4
    exact ⟨z0, z1, z2, z3, z4, rfl, hw⟩
end

end Go.Proofs.YtggakhdejkejgaaDoor
