/-
  Package unit: All.
-/
import Derived.Test.YtejicboemkpeoaaDoorCsL
import Derived.Test.YtejicboemkpeoaaDoorPut
import Derived.Test.YtejicboemkpeoaaDoorSyI
import Derived.Deep.DeepCutAuto
import Derived.Deep.LoopGhost
import Derived.Deep.RegionHeldLaw
import Derived.Test.YtejicboemkpeoaaDoorSeR
import Derived.Maps.AppendAt
namespace Go.Proofs.YtejicboemkpeoaaDoor
open Go Go.RowKit

/-- A unit's head. -/
structure UHd where
  kind : Int
  wide : Bool
  ab : Nat
  sig : Nat
  ty : Nat
  off : Nat
  first : Nat
  stop : Nat
def UHd.cells (h : UHd) : List Value := [.int .i64 h.kind, .bool h.wide, .int .u64 (h.ab : Int), .int .u64 (h.sig : Int), .int .u64 (h.ty : Int), .int .u64 (h.off : Int), .int .u64 (h.first : Int), .int .u64 (h.stop : Int)]
/-! ### A struct of eight cells -/
section
variable {W : World} {H : Nat} {T : TypeId}
end

end Go.Proofs.YtejicboemkpeoaaDoor

namespace Go.Proofs.YtejicboemkpeoaaDoor
open Go Go.RowKit

/-! ### Rows, cursors and boxes beside one another -/
theorem un_far {X X' : World} {B g k n : Nat} {T e : TypeId} {cs : Array Value} {v : Value} {xs : List Value} (h : X.ownsRow B e n v k xs) (hg : X.grownBy X' (some g)) (hX : Box X g T cs) (hT : T ≠ e) : X'.ownsRow B e n v k xs := by
  refine h.kept hg ?_
  rcases h.2 with ⟨rfl, _⟩ | ⟨g', cap, cur, rfl, _, hh, _⟩
  · exact .inl rfl
  · refine .inr fun he => ?_
    have he' : g' = g := by simpa [Value.ownBlock] using he
    subst he'
    unfold Box at hX
    rw [hX] at hh
    injection hh with hh
    injection hh with _ hh
    exact hT hh
theorem un_apart {w w' : World} {B B' m m' n n' : Nat} {t t' : TypeId} {v v' : Value} {xs xs' : List Value} (h : w.ownsRow B t m v n xs) (h' : w.ownsRow B' t' m' v' n' xs') (ht : t ≠ t') (hg : w.grownBy w' v'.ownBlock) : w'.ownsRow B t m v n xs := by
  refine h.kept hg ?_
  rcases h.2 with ⟨rfl, _⟩ | ⟨g, cap, cur, rfl, _, hh, _⟩
  · exact .inl rfl
  · rcases h'.2 with ⟨rfl, _⟩ | ⟨g', cap', cur', rfl, _, hh', _⟩
    · exact .inr (by simp [Value.ownBlock])
    · refine .inr fun e => ?_
      have e' : g = g' := by simpa [Value.ownBlock] using e
      subst e'
      rw [hh] at hh'
      injection hh' with hh'
      injection hh' with _ hh'
      exact ht hh'
theorem un_box {W W1 : World} {H base n m : Nat} {T t : TypeId} {cs : Array Value} {u : Value} {xs : List Value} (hX : Box W H T cs) (hrow : W.ownsRow base t m u n xs) (hT : T ≠ t) (hg : W.grownBy W1 u.ownBlock) : Box W1 H T cs := by
  refine hX.grown hg ?_
  rcases hrow.2 with ⟨rfl, _⟩ | ⟨g, cap, cur, rfl, _, hh, _⟩
  · simp [Value.ownBlock]
  · intro e
    have e' : H = g := by simpa [Value.ownBlock] using e
    subst e'
    unfold Box at hX
    rw [hX] at hh
    injection hh with hh
    injection hh with _ hh
    exact hT hh
theorem cells_newU (w : World) (cs : List Value) (T : TypeId) (j : Nat) (u : Value) (h : cs[j]? = some u) : (w.alloc (.cells cs.toArray T)).cell? ((⟨w.heap.size, 0, none⟩ : Addr).add j) = some u := by
  rw [addr_add, Nat.zero_add, (Box.new w T cs.toArray).cell]
  simpa using h

end Go.Proofs.YtejicboemkpeoaaDoor
