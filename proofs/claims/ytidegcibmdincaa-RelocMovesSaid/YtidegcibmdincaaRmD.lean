/-
  RelocMoves' walk, by what came in; a relocation that came in.
-/
import Derived.Test.YtidegcibmdincaaRmC
import Derived.Test.YtidegcibmdincaaLawA
import Derived.Test.YtidegcibmdincaaOcC
import Derived.Test.YtidegcibmdincaaGpX
import Derived.Test.YtidegcibmdincaaLmN
namespace Go.Proofs.Ytidegcibmdincaa
open Go Go.ChangeShapes Go.WideShapes Go.ChangeAt Go.RowKit

section
variable {H : Type} {enc : TypeId × Value → H} {w : World}
set_option maxRecDepth 10000 in
theorem rela_arg {base : Nat} {v : Value} {d : DataW H} {p : List MemPlace} (hv : Value.okWide Try.prog w .any base 53 v) (h : DataW.Trod enc Try.prog w 0 (fun _ => true) true 53 v d p) :
    ∃ q : Rel, v = q.val ∧ q.Nums := by
  obtain ⟨cs, rfl, hsz⟩ := okWide_struct Try.underlying53 hv
  obtain ⟨fuel, hf⟩ := h
  obtain ⟨y, hy, hn⟩ := rel_of hf
  have hcs : cs = y.cells.toArray := by
    apply Array.ext'
    simpa [Value.cells] using hy
  exact ⟨y, by rw [hcs]; rfl, hn⟩
end

theorem rmoves_card (a0 : Option Addr) (c0 : Nat) (L0 : List ObjV) (aP1 : Option Addr) (P1 : List Place) (cP1 : Nat) (aY1 : Option Addr) (Y1 : List Named) (cY1 : Nat) (i2 n3 i4 : Int) (q5 : Rel) (W : World) (w0 : ObjsIn W W.heap.size a0 L0) (w1 : Row 3 Place.cells W W.heap.size aP1 P1) (x1 : Row 2 Named.cells W W.heap.size aY1 Y1) (y1 : ∀ p ∈ P1, p.Nums) (z1 : ∀ s ∈ Y1, s.Nums)
    (_ : (Lit.int .i64 i2).wf = true) (w3 : (Lit.int .u64 n3).wf = true) (w4 : (Lit.int .i64 i4).wf = true) (w5 : q5.Nums) :
    Calls Try.prog 5 #[.slice a0 L0.length c0, .agg #[.slice aP1 P1.length cP1, .slice aY1 Y1.length cY1], .int .i64 i2, .int .u64 n3, .int .i64 i4, q5.val] W fun r w' => r = .returned (.bool true) ∧ Below W.heap.size W w' := by
  obtain ⟨n, rfl, hn⟩ := nat_of_u64 w3
  exact rmoves_walk a0 aP1 aY1 c0 cP1 cY1 P1 Y1 L0 i2 i4 n q5 W w1 x1 y1 z1 w0 hn w5 (i64_of w4)

end Go.Proofs.Ytidegcibmdincaa
