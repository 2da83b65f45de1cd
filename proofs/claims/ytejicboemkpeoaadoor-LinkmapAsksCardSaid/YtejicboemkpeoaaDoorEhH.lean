/-
  The document's Put of layer 6: a header's bytes.
-/
import Derived.Test.YtejicboemkpeoaaDoorCsL
import Derived.Laws.CopyOwn
import Derived.Lib.BufferWrite
import Derived.Test.YtejicboemkpeoaaDoorEhC
import Derived.Test.YtejicboemkpeoaaDoorEhA
import Derived.Test.YtejicboemkpeoaaDoorKeep
import Derived.Lib.AppendZerosOnto
import Derived.Laws.MakeOwn
namespace Go.Proofs.YtejicboemkpeoaaDoor
open Go Go.RowKit

/-- A row of bytes that is known whole. -/
abbrev RowB (w : World) (g : Nat) (l : List UInt8) : Prop := Box w g 5 (u8s l).toArray

theorem RowB.own {w : World} {g base : Nat} {l : List UInt8} (h : RowB w g l) (hb : base ≤ g) (hl : l.length ≤ maxLen) : Own w base (.slice (some ⟨g, 0, none⟩) l.length l.length) l :=
  ⟨by simp, .inr ⟨g, l.length, (u8s l).toArray, rfl, hb, h, Nat.le_refl _, hl, by simp, by simpa using List.take_of_length_le (show (u8s l).length ≤ l.length by simp)⟩⟩
section
variable {P : Program}
end

end Go.Proofs.YtejicboemkpeoaaDoor

namespace Go.Proofs.YtejicboemkpeoaaDoor
open Go Go.RowKit

section
variable {P : Program}
theorem wpList_make_bytes {w : World} {ops : Array Oper} {rest : List Oper} {o : Oper} {a : Act} {Q : Exit → Act → World → Prop} (hg : o.guard = none) (l c : Operand) (t : TypeId) (hop : o.op = Op.makeSlice t l c)
    (i : TypeInfo) (h1 : P.underlying t = some (.slice 5)) (h2 : P.info? 5 = some i) (h3 : i.zero = some (.int .u8 0)) (h4 : i.size = 1) (h5 : i.bytes = 1)
    (n : Nat) (hn : n ≤ 140737488355328) (hl : a.eval l = .int .i64 (n : Int)) (hc : a.eval c = .int .i64 (n : Int))
    (g : Nat) (hgw : w.heap.size = g) (hk : ∀ w', RowB w' g (List.replicate n 0) → Below w.heap.size w w' → wpList P ops Q rest (a.put o.dst (.slice (some ⟨g, 0, none⟩) n n)) w') :
    wpList P ops Q (o :: rest) a w := by
  subst hgw
  refine wpList_plain hg fun K hK => ?_
  have hrun := run_make (P := P) w t 5 i (.int .u8 0) h1 h2 h3 .i64 .i64 (n : Int) (n : Int) (by omega) (Int.le_refl _) (by rw [h5]; omega) (by omega)
  have e : madeCells (Value.int .u8 0).cells (n * 1) = (u8s (List.replicate n 0)).toArray := by
    apply Array.ext
    · simp [madeCells, u8s]
    · intro i h1 h2
      simp [madeCells, u8s, Value.cells, Nat.mod_one]
  rw [Int.toNat_natCast, h4, e] at hrun
  unfold Oper.wp
  simp [execOp, hop, hl, hc, hrun, Result.andThen]
  exact hK _ _ (hk _ (Box.new w _ _) ((Below.refl _ _).alloc (Nat.le_refl _) _))
end

section
variable {w W W' : World} {cs : Array Value} {l l' : List UInt8}
end

end Go.Proofs.YtejicboemkpeoaaDoor
