/-
  The document's own cursor over bytes that it was handed, wherever they lie: Left, Uint, Fail.
-/
import Derived.Test.YtejicboemkpeoaaDoorCsL
namespace Go.Proofs.YtejicboemkpeoaaDoor
open Go Go.RowKit

section
variable {B : Nat} {w w' : World} {g : Nat} {v : Value} {l : List UInt8} {a : Nat} {e : Int}
theorem RR.data {A : Option Addr} (h : Rd w B A l) (hb : w.grownBy w' (some g)) (hg : B ≤ g) : Rd w' B A l := by
  intro hl
  obtain ⟨b, o, e, hb', hc⟩ := h hl
  refine ⟨b, o, e, hb', fun j u hu => ?_⟩
  have h1 := hc j u hu
  have hlt := World.block_lt_of_cell? w _ h1
  exact (World.cell?_of_block (hb.block b hlt (fun e => by injection e with e; omega))).trans h1
end

end Go.Proofs.YtejicboemkpeoaaDoor
