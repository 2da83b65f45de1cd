/-
  The walks of CursorSums and CursorNobody: whatever the numbers are, the Go text of the statement returns true.
-/
import Derived.Test.YtelmfhpefnemfaaDoorPut
import Derived.Laws.IdiomStrings
import Derived.Laws.BytesArg
import Derived.OpenShut
namespace Go.Proofs.YtelmfhpefnemfaaDoor
open Go Go.RowKit

/-- A cursor that is nil, or that no call made. -/
def Nob (w : World) (p : Option Addr) : Prop :=
  p = none ∨ ∃ g, p = some ⟨g, 0, none⟩ ∧ Box w g 156 #[.slice none 0 0, .int .i64 0, .int .i64 0, .bool false]

theorem Nob.below {w w' : World} {p : Option Addr} (h : Nob w p) (hb : Below w.heap.size w w') : Nob w' p :=
  h.imp id fun ⟨g, e, hg⟩ => ⟨g, e, hg.below hb hg.lt⟩

end Go.Proofs.YtelmfhpefnemfaaDoor

namespace Go.Proofs.YtelmfhpefnemfaaDoor
open Go Go.RowKit

/-- Bytes as a string, wherever they lie. -/
theorem conv_rd {w : World} {B : Nat} {A : Option Addr} {l : List UInt8} (h : Rd w B A l) (c : Nat) : (convert 66 9 (.slice A l.length c)).run Tryd.prog w = .ok (.string ⟨l.toArray⟩) w := by
  rcases A with _ | ad
  · have hl : l = [] := by
      rcases l with _ | ⟨x, t⟩
      · rfl
      · obtain ⟨b, o, e, _⟩ := h (by simp); cases e
    subst hl
    exact run_convert_bytes_nil _ _ _ Tryd.underlying66 Tryd.underlying5 _ _ _ Tryd.underlying9
  · refine run_convert_bytes_back w _ _ _ ad c l Tryd.underlying66 Tryd.underlying5 Tryd.underlying9 fun j hj => ?_
    obtain ⟨b, o, e, _, hc⟩ := h (by omega)
    injection e with e
    subst e
    rw [addr_add]
    exact hc j _ (List.getElem?_eq_getElem hj)

/-- Bytes of the call's own as a string. -/
theorem conv_own {w : World} {base : Nat} {v : Value} {l : List UInt8} (h : Own w base v l) : (convert 66 9 v).run Tryd.prog w = .ok (.string ⟨l.toArray⟩) w := by
  obtain ⟨A, c, rfl, _, _, hr⟩ := own_slice h
  exact conv_rd hr c

end Go.Proofs.YtelmfhpefnemfaaDoor

namespace Go.Proofs.YtelmfhpefnemfaaDoor
open Go Go.RowKit

/-- A slice of bytes that came in: nil, or a row of cells in memory (the first 'len' are its bytes, the rest its spare room). -/
def IsRow (k : IntKind) (w : World) (a : Option Addr) (len cap : Nat) (zs : List Int) : Prop :=
  (a = none ∧ len = 0 ∧ cap = 0 ∧ zs = []) ∨
  ∃ x, a = some x ∧ len ≤ cap ∧ cap ≤ maxLen ∧ zs.length = cap ∧ (∀ i, i < zs.length → w.cell? (x.add i) = some (.int k (zs.getD i 0))) ∧ ∀ n ∈ zs, (Lit.int k n).wf = true

theorem nat_of_u64 {a : Int} (h : (Lit.int .u64 a).wf = true) : ∃ n : Nat, a = (n : Int) ∧ n < two64 := by
  have := Go.bounds_u64 h
  refine ⟨a.toNat, by omega, ?_⟩
  unfold two64; omega
theorem i64_of {a : Int} (h : (Lit.int .i64 a).wf = true) : -9223372036854775808 ≤ a ∧ a ≤ 9223372036854775807 := by
  have := Go.bounds_i64 h
  omega

end Go.Proofs.YtelmfhpefnemfaaDoor
