/-
  What every row of package linkmap has in common: the listed tables out of the row's list, a world for the witness.
-/
import Derived.Test.YtejicboemkpeoaaDoorCards
import Derived.Test.YtejicboemkpeoaaDoorTie
import Derived.Test.YtejicboemkpeoaaDoorLnR
import Derived.WalkKit
import Derived.ProofKit
import Derived.OpenShut
import Derived.SizedLaws
import Derived.Lib.LaidTab
import Derived.Deep.DeepHandedRow
namespace Go.Proofs.YtejicboemkpeoaaDoor
open Go Go.ChangeShapes Go.WideShapes Go.ChangeAt Go.RowKit

theorem lm_own : ownKnob Tryd.prog.godebug = none := by kernel_rfl
theorem lm_laidOut : laidOutB Tryd.prog = true := by kernel_rfl
theorem lm_bit_global : Tryd.prog.globalNamed "math/bits.deBruijn64tab" = some 3 := by kernel_rfl
theorem lm_bit_type : (Tryd.prog.globals[3]?).map (·.type) = some 148 := by kernel_rfl
theorem lm_pow_type : (Tryd.prog.globals[0]?).map (·.type) = some 139 := by kernel_rfl

/-- What each of these rows lists. -/
abbrev lmLaid : List (String × DataW Unit) := [("math/bits.deBruijn32tab", Rows.laid_math_bits_deBruijn32tab), ("math/bits.deBruijn64tab", Rows.laid_math_bits_deBruijn64tab), ("internal/strconv.uint64pow10", Rows.laid_internal_strconv_uint64pow10)]
/-- The numbers of a table's datum. -/
def numsOf : DataW Unit → List Int
  | .agg l => l.map fun | .lit (.int _ z) => z | _ => 0
  | _ => []
theorem lm_bit_data : (Rows.laid_math_bits_deBruijn64tab : DataW Unit) = Lib.tabData .u8 (numsOf Rows.laid_math_bits_deBruijn64tab) := by kernel_rfl
theorem lm_pow_data : (Rows.laid_internal_strconv_uint64pow10 : DataW Unit) = Lib.tabData .u64 Lib.pow10Tab := by kernel_rfl
theorem tab_of_vars {P : Program} {W : World} {name : String} {k : IntKind} {zs : List Int} {g : Nat} {t e : TypeId} {n : Nat} (hg : P.globalNamed name = some g) (hty : (P.globals[g]?).map (·.type) = some t) (ht : P.underlying t = some (.array n e)) (he : P.underlying e = some (.int k)) (hce : P.cellsOf e = 1) (hct : P.cellsOf t = n) :
    ∀ {laid : List (String × DataW Unit)} {ps : List MemPlace}, DataW.LaidVars P W laid ps → (name, Lib.tabData k zs) ∈ laid → Lib.TabIs P W name k zs
  | [], _, _, hm => by cases hm
  | (m, d) :: r, ps, h, hm => by
    obtain ⟨g', t', cs, fuel, p, q, hg', ht', hvar, hd, hr, _⟩ := h
    rcases List.mem_cons.1 hm with hm | hm
    · injection hm with h1 h2
      subst h1 h2
      obtain rfl := Option.some.inj (hg.symm.trans hg')
      obtain rfl := Option.some.inj (hty.symm.trans ht')
      unfold Lib.TabIs
      rw [hvar, ← Lib.cells_of_tab ht he hce hct hd]
    · exact tab_of_vars hg hty ht he hce hct hr hm

set_option maxRecDepth 10000 in
theorem tabs_of_laid {W : World} (h : laidMetH Tryd.prog lmLaid W) : Tabs W := by
  obtain ⟨ps, hv, _⟩ := (show laidMet Tryd.prog lmLaid W from h)
  have h1 : Lib.TabIs Tryd.prog W "internal/strconv.uint64pow10" .u64 Lib.pow10Tab := tab_of_vars pow_named lm_pow_type Tryd.underlying139 Tryd.underlying41 (by kernel_rfl) (by kernel_rfl) hv (by rw [← lm_pow_data]; simp [lmLaid])
  have h2 : Lib.TabIs Tryd.prog W "math/bits.deBruijn64tab" .u8 (numsOf Rows.laid_math_bits_deBruijn64tab) := tab_of_vars lm_bit_global lm_bit_type Tryd.underlying148 Tryd.underlying5 (by kernel_rfl) (by kernel_rfl) hv (by rw [← lm_bit_data]; simp [lmLaid])
  have c2 := h2.cell lm_bit_global 15 (by decide)
  have c1 := h1.cell pow_named 0 (by rw [Lib.pow10Tab_length]; decide)
  exact ⟨h1, c2, World.block_lt_of_cell? _ _ c1, World.block_lt_of_cell? _ _ c2⟩

/-- A world in which the tables hold what their initialisers lay. -/
noncomputable def lmWorld (os : Os) : World :=
  let w := World.holding Tryd.prog os ⟨#[], #[], []⟩
  { w with heap := ((w.heap.modify 2 fun
      | .cells _ t f => .cells ((numsOf Rows.laid_math_bits_deBruijn32tab).map (Value.int .u8)).toArray t f
      | o => o).modify 3 fun
      | .cells _ t f => .cells ((numsOf Rows.laid_math_bits_deBruijn64tab).map (Value.int .u8)).toArray t f
      | o => o).modify 0 fun
      | .cells _ t f => .cells ((numsOf Rows.laid_internal_strconv_uint64pow10).map (Value.int .u64)).toArray t f
      | o => o }

end Go.Proofs.YtejicboemkpeoaaDoor
