/-
  Put of package elfhead: a header's bytes.
-/

import Derived.Test.YtkadjejjillmmaaEhC
import Derived.Test.YtkadjejjillmmaaEhA
import Derived.Test.YtkadjejjillmmaaKeep
import Derived.Lib.AppendZerosOnto
import Derived.Test.YtkadjejjillmmaaParts
namespace Go.Proofs.Ytkadjejjillmmaa
open Go Go.RowKit

/-- A number of type int as one without a sign. -/
def wrapN (t : Int) : Nat := (IntKind.u64.wrap t).toNat
theorem wrapN_eq (t : Int) : IntKind.u64.wrap t = (wrapN t : Int) := by unfold wrapN; rw [IntKind.wrap_u64]; omega

def itsB (l : List (Nat × Nat)) : List UInt8 := l.flatMap fun x => leBytes x.1 x.2
def itsV (l : List (Nat × Nat)) : List Value := l.flatMap fun x => [Value.int .u64 (x.1 : Int), Value.int .i64 (x.2 : Int)]
theorem itsV_at : ∀ (l : List (Nat × Nat)) (k x s : Nat), l[k]? = some (x, s) → (itsV l)[k * 2]? = some (.int .u64 (x : Int)) ∧ (itsV l)[k * 2 + 1]? = some (.int .i64 (s : Int))
  | [], _, _, _, h => by simp at h
  | y :: r, 0, x, s, h => by
    simp at h
    subst h
    exact ⟨rfl, rfl⟩
  | y :: r, k + 1, x, s, h => by
    have := itsV_at r k x s (by simpa using h)
    have e : itsV (y :: r) = Value.int .u64 (y.1 : Int) :: Value.int .i64 (y.2 : Int) :: itsV r := rfl
    rw [e, show (k + 1) * 2 = k * 2 + 1 + 1 by omega]
    simpa using this
theorem itsB_step (l : List (Nat × Nat)) (k x s : Nat) (h : l[k]? = some (x, s)) : itsB (l.take (k + 1)) = itsB (l.take k) ++ leBytes x s := by
  unfold itsB
  rw [List.take_add_one, h]
  simp

theorem itsB_le : ∀ (l : List (Nat × Nat)) (k : Nat), (∀ x ∈ l, x.2 ≤ 8) → (itsB (l.take k)).length ≤ 8 * l.length
  | [], k, _ => by simp [itsB]
  | y :: r, 0, _ => by simp [itsB]
  | y :: r, k + 1, h => by
    have := itsB_le r k (fun x hx => h x (by simp [hx]))
    have h2 := h y (by simp)
    simp only [itsB, List.take_succ_cons, List.flatMap_cons, List.length_append, leBytes_length, List.length_cons] at this ⊢
    omega

end Go.Proofs.Ytkadjejjillmmaa
