/-
  RelocMoves' walk.
-/
import Derived.Test.YteadabmlleipiaaRlG
import Derived.Test.YteadabmlleipiaaRegInv
import Derived.Test.YteadabmlleipiaaLpA
import Derived.Test.YteadabmlleipiaaLoA
import Derived.Test.YteadabmlleipiaaRmB
import Derived.Test.YteadabmlleipiaaLoG
import Derived.Test.YteadabmlleipiaaLmN
namespace Go.Proofs.Yteadabmlleipiaa
open Go Go.RowKit

/-! ### The copy whose place is moved -/
theorem box_far {X X' : World} {g g' : Nat} {T T' : TypeId} {cs cs' : Array Value} (h : Box X g' T' cs') (hg : X.grownBy X' (some g)) (hX : Box X g T cs) (hT : T ≠ T') : Box X' g' T' cs' :=
  Box.grown h hg (by first | exact box_ne hX h hT | exact (box_ne hX h hT).symm)
theorem owns_far {X X' : World} {B g k n : Nat} {T e : TypeId} {cs : Array Value} {v : Value} {xs : List Value} (h : X.ownsRow B e n v k xs) (hg : X.grownBy X' (some g)) (hX : Box X g T cs) (hT : T ≠ e) : X'.ownsRow B e n v k xs := by
  refine ⟨h.1, ?_⟩
  rcases h.2 with h0 | ⟨g', cap, cur, e1, hb, hh, hr⟩
  · exact .inl h0
  · exact .inr ⟨g', cap, cur, e1, hb, box_far hh hg hX hT, hr⟩
theorem owns_slice12 {X : World} {B k n : Nat} {e : TypeId} {v : Value} {xs : List Value} (h : X.ownsRow B e n v k xs) : ∃ A c, v = .slice A k c := by
  rcases h.2 with ⟨rfl, h0⟩ | ⟨g, cap, cur, rfl, _⟩
  · exact ⟨none, 0, by rw [h0]⟩
  · exact ⟨_, _, rfl⟩
theorem cellsF_all12 {α : Type} {f : α → List Value} (h : ∀ x, ∀ u ∈ f x, u.oneCell' = true) (L : List α) : ∀ u ∈ cellsF f L, u.oneCell' = true := fun u hu => by
  obtain ⟨x, _, hx⟩ := List.mem_flatMap.1 hu
  exact h x u hx
theorem owns_box {X : World} {B k n g c : Nat} {e : TypeId} {xs : List Value} (h : X.ownsRow B e n (.slice (some ⟨g, 0, none⟩) k c) k xs) : B ≤ g ∧ ∃ cs, Box X g e cs := by
  rcases h.2 with ⟨h0, _⟩ | ⟨g', cap, cur, e1, hb, hh, _⟩
  · cases h0
  · injection e1 with e1
    injection e1 with e1
    injection e1 with e1
    subst e1
    exact ⟨hb, cur, hh⟩
theorem owns_at0 {X : World} {B k n c : Nat} {A : Option Addr} {e : TypeId} {xs : List Value} (h : X.ownsRow B e n (.slice A k c) k xs) (hk : 0 < k) : ∃ g, A = some ⟨g, 0, none⟩ := by
  rcases h.2 with ⟨_, h1⟩ | ⟨g, cap, cur, e1, _⟩
  · omega
  · injection e1 with e1
    exact ⟨g, e1⟩
/-- What holds of the second region's values. -/
def SQ (B p0 : Nat) (aP aY : Option Addr) (NP cP NY cY : Nat) (cs : List Value) (b : Bool × Bool × Nat) (i : Nat) (v : Value) (X : World) : Prop :=
  match i with
  | 0 => ∃ g, v = .slice (some ⟨g, 0, none⟩) 0 0 ∧ (b.1 = false → B ≤ g ∧ Box X g 87 #[])
  | 1 => v = .pointer (some ⟨p0, 0, none⟩)
  | 2 => v = .slice aP NP cP
  | 3 => X.ownsRow B 87 3 v NP cs
  | 4 => v = .pointer (some ⟨p0, 1, none⟩)
  | 5 => v = .slice aY NY cY
  | 6 => ∃ u, v = .agg #[u, .slice aY NY cY] ∧ X.ownsRow B 87 3 u NP cs
  | 7 => v = .pointer (some ⟨b.2.2, 0, none⟩) ∧ B ≤ b.2.2 ∧ (b.2.1 = false → ∃ c0 c1, Box X b.2.2 26 #[c0, c1])
  | 8 => ∃ u, Box X b.2.2 26 #[u, .slice aY NY cY] ∧ X.ownsRow B 87 3 u NP cs
  | _ => True
theorem SQ.below {B p0 : Nat} {aP aY : Option Addr} {NP cP NY cY : Nat} {cs : List Value} {b : Bool × Bool × Nat} {i : Nat} {v : Value} {X X' : World} (hb : Below X.heap.size X X') (h : SQ B p0 aP aY NP cP NY cY cs b i v X) : SQ B p0 aP aY NP cP NY cY cs b i v X' := by
  rcases i with _ | _ | _ | _ | _ | _ | _ | _ | _ | i
  · obtain ⟨g, e, h⟩ := h
    exact ⟨g, e, fun h0 => ⟨(h h0).1, Box.below (h h0).2 hb (h h0).2.lt⟩⟩
  · exact h
  · exact h
  · exact row_below h hb
  · exact h
  · exact h
  · obtain ⟨u, e, h⟩ := h
    exact ⟨u, e, row_below h hb⟩
  · obtain ⟨e, h1, h2⟩ := h
    exact ⟨e, h1, fun h0 => (h2 h0).imp fun c0 h => h.imp fun c1 h => Box.below h hb h.lt⟩
  · obtain ⟨u, h1, h2⟩ := h
    exact ⟨u, Box.below h1 hb h1.lt, row_below h2 hb⟩
  · trivial

/-- The guards, one behind the other, by what Great tells. -/
def c1 (NP : Nat) (b : Bool) : Bool := b || decide (NP = 0)
def c2 (NP : Nat) (obj : Int) (b : Bool) : Bool := c1 NP b || decide (obj < 0)
def c3 (NP N : Nat) (obj : Int) (b : Bool) : Bool := c2 NP obj b || decide ((N : Int) ≤ obj)
def c4 (NP N : Nat) (obj sym : Int) (b : Bool) : Bool := c3 NP N obj b || decide (sym < 0)
def c5 (NP N yl : Nat) (obj sym : Int) (b : Bool) : Bool := c4 NP N obj sym b || decide ((yl : Int) ≤ sym)
/-- What holds of each operation's value once it has come up. -/
def SM (GR : Prop) (aO aP aY : Option Addr) (cO cP cY N NP NY yl p0 p1 : Nat) (obj sym : Int) (b : Bool) (i : Nat) (v : Value) (_ : World) : Prop :=
  match i with
  | 0 => v = .slice aO N cO
  | 1 => v = .agg #[.slice aP NP cP, .slice aY NY cY]
  | 2 => v = .bool b ∧ (b = false → GR)
  | 3 => v = .bool b
  | 4 => b = false → v = .pointer (some ⟨p0, 0, none⟩)
  | 5 => b = false → v = .slice aP NP cP
  | 6 => b = false → v = .int .i64 (NP : Int)
  | 7 => b = false → v = .bool (decide (NP = 0))
  | 8 => v = .bool (c1 NP b)
  | 9 => v = .bool (c1 NP b)
  | 10 => c1 NP b = false → v = .int .i64 obj
  | 11 => c1 NP b = false → v = .bool (decide (obj < 0))
  | 12 => v = .bool (c2 NP obj b)
  | 13 => v = .bool (c2 NP obj b)
  | 14 => c2 NP obj b = false → v = .int .i64 obj
  | 15 => c2 NP obj b = false → v = .slice aO N cO
  | 16 => c2 NP obj b = false → v = .int .i64 (N : Int)
  | 17 => c2 NP obj b = false → v = .bool (decide ((N : Int) ≤ obj))
  | 18 => v = .bool (c3 NP N obj b)
  | 19 => v = .bool (c3 NP N obj b)
  | 20 => c3 NP N obj b = false → v = .pointer (some ⟨p1, 1, none⟩)
  | 21 => c3 NP N obj b = false → v = .int .i64 sym
  | 22 => c3 NP N obj b = false → v = .bool (decide (sym < 0))
  | 23 => v = .bool (c4 NP N obj sym b)
  | 24 => v = .bool (c4 NP N obj sym b)
  | 25 => c4 NP N obj sym b = false → v = .pointer (some ⟨p1, 1, none⟩)
  | 26 => c4 NP N obj sym b = false → v = .int .i64 sym
  | 27 => c4 NP N obj sym b = false → v = .slice aO N cO
  | 28 => c4 NP N obj sym b = false → v = .int .i64 obj
  | 29 => c4 NP N obj sym b = false → ∃ bb oo, aO = some ⟨bb, oo, none⟩ ∧ v = .pointer (some ⟨bb, oo + obj.toNat * 5, none⟩)
  | 30 => c4 NP N obj sym b = false → ∃ bb oo, aO = some ⟨bb, oo, none⟩ ∧ v = .pointer (some ⟨bb, oo + obj.toNat * 5 + 3, none⟩)
  | 31 => c4 NP N obj sym b = false → ∃ a c, v = .slice a yl c
  | 32 => c4 NP N obj sym b = false → v = .int .i64 (yl : Int)
  | 33 => c4 NP N obj sym b = false → v = .bool (decide ((yl : Int) ≤ sym))
  | 34 => v = .bool (c5 NP N yl obj sym b)
  | _ => True

end Go.Proofs.Yteadabmlleipiaa
