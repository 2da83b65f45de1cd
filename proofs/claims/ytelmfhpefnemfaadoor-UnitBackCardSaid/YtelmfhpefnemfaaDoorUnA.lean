/-
  Package unit: heads as values and in memory; what is read of a unit's bytes, as functions.
-/
import Derived.Test.YtelmfhpefnemfaaDoorLtC
import Derived.Test.YtelmfhpefnemfaaDoorSyA
namespace Go.Proofs.YtelmfhpefnemfaaDoor
open Go Go.RowKit

/-- A unit's head. -/
structure UHd where
  kind : Int
  wide : Bool
  ab : Nat
  sig : Nat
  ty : Nat
  off : Nat
  first : Nat
  stop : Nat
def UHd.cells (h : UHd) : List Value := [.int .i64 h.kind, .bool h.wide, .int .u64 (h.ab : Int), .int .u64 (h.sig : Int), .int .u64 (h.ty : Int), .int .u64 (h.off : Int), .int .u64 (h.first : Int), .int .u64 (h.stop : Int)]
theorem uhd_eight (x : UHd) : x.cells.length = 8 := rfl
theorem uhd_one (x : UHd) : ∀ u ∈ x.cells, u.oneCell' = true := by
  intro u hu
  simp only [UHd.cells, List.mem_cons, List.not_mem_nil, or_false] at hu
  rcases hu with rfl | rfl | rfl | rfl | rfl | rfl | rfl | rfl <;> rfl
/-! ### A struct of eight cells -/
section
variable {W : World} {H : Nat} {T : TypeId}
theorem eight_cells {c0 c1 c2 c3 c4 c5 c6 c7 : Value} (h : Box W H T #[c0, c1, c2, c3, c4, c5, c6, c7]) : W.cell? ⟨H, 0, none⟩ = some c0 ∧ W.cell? ⟨H, 1, none⟩ = some c1 ∧ W.cell? ⟨H, 2, none⟩ = some c2 ∧ W.cell? ⟨H, 3, none⟩ = some c3 ∧ W.cell? ⟨H, 4, none⟩ = some c4 ∧ W.cell? ⟨H, 5, none⟩ = some c5 ∧ W.cell? ⟨H, 6, none⟩ = some c6 ∧ W.cell? ⟨H, 7, none⟩ = some c7 := by
  refine ⟨?_, ?_, ?_, ?_, ?_, ?_, ?_, ?_⟩ <;> (rw [h.cell]; rfl)
theorem eight_free {cs : Array Value} (h : Box W H T cs) : W.frozen? ⟨H, 0, none⟩ = false ∧ W.frozen? ⟨H, 1, none⟩ = false ∧ W.frozen? ⟨H, 2, none⟩ = false ∧ W.frozen? ⟨H, 3, none⟩ = false ∧ W.frozen? ⟨H, 4, none⟩ = false ∧ W.frozen? ⟨H, 5, none⟩ = false ∧ W.frozen? ⟨H, 6, none⟩ = false ∧ W.frozen? ⟨H, 7, none⟩ = false :=
  ⟨h.free 0, h.free 1, h.free 2, h.free 3, h.free 4, h.free 5, h.free 6, h.free 7⟩
theorem eight_box {cs : Array Value} (h : Box W H T cs) (hs : cs.size = 8) (v0 v1 v2 v3 v4 v5 v6 v7 : Value) :
    Box ((((((((W.setCell ⟨H, 0, none⟩ v0).setCell ⟨H, 1, none⟩ v1).setCell ⟨H, 2, none⟩ v2).setCell ⟨H, 3, none⟩ v3).setCell ⟨H, 4, none⟩ v4).setCell ⟨H, 5, none⟩ v5).setCell ⟨H, 6, none⟩ v6).setCell ⟨H, 7, none⟩ v7) H T #[v0, v1, v2, v3, v4, v5, v6, v7] := by
  obtain ⟨l⟩ := cs
  match l, hs with
  | [c0, c1, c2, c3, c4, c5, c6, c7], _ => simpa using (((((((h.set 0 v0).set 1 v1).set 2 v2).set 3 v3).set 4 v4).set 5 v5).set 6 v6).set 7 v7
theorem eight_only (W : World) (H : Nat) (v0 v1 v2 v3 v4 v5 v6 v7 : Value) :
    W.grownBy ((((((((W.setCell ⟨H, 0, none⟩ v0).setCell ⟨H, 1, none⟩ v1).setCell ⟨H, 2, none⟩ v2).setCell ⟨H, 3, none⟩ v3).setCell ⟨H, 4, none⟩ v4).setCell ⟨H, 5, none⟩ v5).setCell ⟨H, 6, none⟩ v6).setCell ⟨H, 7, none⟩ v7) (some H) :=
  only_set (only_set (only_set (only_set (only_set (only_set (only_set (only_set (only_refl W (some H)) 0 v0) 1 v1) 2 v2) 3 v3) 4 v4) 5 v5) 6 v6) 7 v7
end

/-! ### What is read -/
/-- How many bytes an offset has. -/
def offN (wide : Bool) : Nat := match wide with | true => 8 | false => 4
theorem clamp_off (wide : Bool) : clampOf (lenO wide) = offN wide := by cases wide <;> rfl
abbrev UCt := Nat × Int
def vU (l : List UInt8) (s : UCt) (n : Nat) : Nat := leNat (nextGot l s.1 s.2 n)
def nU (l : List UInt8) (s : UCt) (n : Nat) : UCt := (nextAt l s.1 s.2 n, nextErr l s.1 s.2 n)
def fU (b : Bool) (s : UCt) : UCt := match b with | true => (s.1, failOf s.2 42) | false => s
def kindOk (k : Int) : Bool := decide (1 ≤ k) && decide (k ≤ 3)
theorem vU_lt (l : List UInt8) (s : UCt) (n : Nat) : vU l s n < 256 ^ n :=
  Nat.lt_of_lt_of_le (leNat_lt _) (Nat.pow_le_pow_right (by decide) (nextGot_le _ _ _ _))
/-- Behind the number 5, the kind, the 8, the offset of abbreviations, and, of a type unit, the signature and the type. -/
def q1U (l : List UInt8) (e : Int) : UCt := fU (vU l (0, e) 2 != 5) (nU l (0, e) 2)
def kdU (l : List UInt8) (e : Int) : Nat := vU l (q1U l e) 1
def q2U (l : List UInt8) (e : Int) : UCt := fU (!kindOk (kdU l e)) (nU l (q1U l e) 1)
def q3U (l : List UInt8) (e : Int) : UCt := fU (vU l (q2U l e) 1 != 8) (nU l (q2U l e) 1)
def q4U (l : List UInt8) (e : Int) (wide : Bool) : UCt := nU l (q3U l e) (offN wide)
def q5U (l : List UInt8) (e : Int) (wide : Bool) : UCt := nU l (q4U l e wide) 8
def q6U (l : List UInt8) (e : Int) (wide : Bool) : UCt := nU l (q5U l e wide) (offN wide)
def qzU (l : List UInt8) (e : Int) (wide : Bool) : UCt := if kdU l e = 2 then q6U l e wide else q4U l e wide
def abU (l : List UInt8) (e : Int) (wide : Bool) : Nat := vU l (q3U l e) (offN wide)
def sgU (l : List UInt8) (e : Int) (wide : Bool) : Nat := if kdU l e = 2 then vU l (q4U l e wide) 8 else 0
def tyU (l : List UInt8) (e : Int) (wide : Bool) : Nat := if kdU l e = 2 then vU l (q5U l e wide) (offN wide) else 0
/-- A head's numbers. -/
def numU (l : List UInt8) (e : Int) (wide : Bool) : UHd := ⟨(kdU l e : Int), false, abU l e wide, sgU l e wide, tyU l e wide, 0, 0, 0⟩

end Go.Proofs.YtelmfhpefnemfaaDoor
