/-
  Heads and bodies that came in, opened to their cells.
-/
import Derived.Test.YtelmfhpefnemfaaDoorUnL
import Derived.Test.YtelmfhpefnemfaaDoorLtZ
import Derived.Deep.Slices
namespace Go.Proofs.YtelmfhpefnemfaaDoor
open Go Go.RowKit Go.ChangeShapes Go.WideShapes Go.ChangeAt Go.Deep

theorem un_eight : Tryd.prog.cellsOf 79 = 8 := by kernel_rfl
theorem un_int : Tryd.prog.cellsOf 3 = 1 := by kernel_rfl
theorem un_bool : Tryd.prog.cellsOf 4 = 1 := by kernel_rfl
theorem un_u64 : Tryd.prog.cellsOf 41 = 1 := by kernel_rfl

section
variable {H : Type} {enc : TypeId × Value → H} {w : World}
theorem i64_ofU {a : Int} (h : (Lit.int .i64 a).wf = true) : -9223372036854775808 ≤ a ∧ a ≤ 9223372036854775807 := by
  have := Go.bounds_i64 h
  omega
set_option maxRecDepth 20000 in
/-- A head out of its eight cells. -/
theorem uhd_of {held : Bool} {fuel : Nat} {cs : List Value} {x : DataW H × List MemPlace}
    (h : DataW.trod enc Tryd.prog w 0 (fun _ => true) held fuel 79 cs = some x) : ∃ y : UHd, cs = y.cells ∧ y.In := by
  obtain ⟨xs, k, _, _, hcl, hlen, hg⟩ := DataW.trod_struct Tryd.underlying79 h
  rw [un_eight] at hcl
  have hnat : ∀ (c : Value) (y : DataW H × List MemPlace), DataW.trod enc Tryd.prog w 0 (fun _ => true) held k 41 [c] = some y → ∃ z : Nat, c = .int .u64 (z : Int) ∧ z < two64 :=
    fun c y hy => by
      obtain ⟨z, hz, _, hw⟩ := DataW.trod_int Tryd.underlying41 hy
      injection hz with hz
      obtain ⟨n, rfl, hn⟩ := nat_of_u64 hw
      exact ⟨n, hz, hn⟩
  match cs, hcl, xs, hlen with
  | [c0, c1, c2, c3, c4, c5, c6, c7], _, [y0, y1, y2, y3, y4, y5, y6, y7], _ =>
    have g0 := hg 0 _ rfl
    have g1 := hg 1 _ rfl
    have g2 := hg 2 _ rfl
    have g3 := hg 3 _ rfl
    have g4 := hg 4 _ rfl
    have g5 := hg 5 _ rfl
    have g6 := hg 6 _ rfl
    have g7 := hg 7 _ rfl
    simp [un_int, un_bool, un_u64] at g0 g1 g2 g3 g4 g5 g6 g7
    obtain ⟨z0, e0, _, i0⟩ := DataW.trod_int Tryd.underlying3 g0
    injection e0 with e0
    obtain ⟨b1, e1, _⟩ := DataW.trod_bool Tryd.underlying4 g1
    injection e1 with e1
    obtain ⟨z2, rfl, i2⟩ := hnat _ _ g2
    obtain ⟨z3, rfl, i3⟩ := hnat _ _ g3
    obtain ⟨z4, rfl, i4⟩ := hnat _ _ g4
    obtain ⟨z5, rfl, i5⟩ := hnat _ _ g5
    obtain ⟨z6, rfl, i6⟩ := hnat _ _ g6
    obtain ⟨z7, rfl, i7⟩ := hnat _ _ g7
    subst e0 e1
    exact ⟨⟨z0, b1, z2, z3, z4, z5, z6, z7⟩, rfl, ⟨i64_ofU i0, i2, i3, i4⟩⟩
set_option maxRecDepth 20000 in
theorem uhead_arg {base : Nat} {v : Value} {d : DataW H} {p : List MemPlace} (hv : Value.okWide Tryd.prog w .any base 79 v) (h : DataW.Trod enc Tryd.prog w 0 (fun _ => true) true 79 v d p) :
    ∃ y : UHd, v = .agg #[.int .i64 y.kind, .bool y.wide, .int .u64 (y.ab : Int), .int .u64 (y.sig : Int), .int .u64 (y.ty : Int), .int .u64 (y.off : Int), .int .u64 (y.first : Int), .int .u64 (y.stop : Int)] ∧ y.In := by
  obtain ⟨cs, rfl, hsz⟩ := okWide_struct Tryd.underlying79 hv
  obtain ⟨fuel, hf⟩ := h
  obtain ⟨y, e, hi⟩ := uhd_of hf
  refine ⟨y, ?_, hi⟩
  have : cs.toList = y.cells := by simpa [Value.cells] using e
  obtain ⟨l⟩ := cs
  simp only at this
  subst this
  rfl
end

/-- A unit to be put: its head, its entries' bytes and where they are. -/
structure UBody where
  h : UHd
  b : List UInt8
  a : Option Addr
  c : Nat
def UBody.cells (y : UBody) : List Value := y.h.cells ++ [.slice y.a y.b.length y.c]
structure UBody.In (w : World) (y : UBody) : Prop where
  h : y.h.In
  r : Rd w w.heap.size y.a y.b
  c : y.b.length ≤ y.c
section
variable {H : Type} {enc : TypeId × Value → H} {w : World}
end

end Go.Proofs.YtelmfhpefnemfaaDoor
