/-
  The contract of U: which number bytes are, where the cursor stands then, why it refuses.
-/
import Derived.Test.YteadabmlleipiaaLawA
import Derived.Test.YteadabmlleipiaaPut
import Derived.Test.YteadabmlleipiaaNums
import Derived.RangeFuncNested
import Derived.RangeFuncBound
import Derived.RangeFuncCalls
import Derived.RangeFuncLeaves
import Derived.WalkKit
import Derived.LoopIn
import Derived.LoopNIn
import Derived.OwnWalkIn
import Derived.TacticsInMore
import Derived.Shelf.Abstract
import Derived.Shelf.RegionOpen
namespace Go.Proofs.Yteadabmlleipiaa
open Go Go.RowKit

attribute [local go_sem] Oper.semAt_some

/-- A cursor, or nobody, as readers of single bytes see it: r is what lies before it, k how many of these it went on, e its refusal. -/
structure CurLike (B : Nat) (p : Value) (r : List UInt8) (row : Option Nat) (CS : Nat → Int → World → Prop) : Prop where
  u8 : ∀ W k (h : k < r.length), CS k 0 W → Calls Try.prog 100 #[p] W fun e W' => e = .returned (.int .u64 (r[k].toNat : Int)) ∧ CS (k + 1) 0 W' ∧ W.grownBy W' row
  short : ∀ W, CS r.length 0 W → Calls Try.prog 100 #[p] W fun e W' => e = .returned (.int .u64 0) ∧ CS r.length 10 W' ∧ W.grownBy W' row
  stop : ∀ W k e, e ≠ 0 → CS k e W → Calls Try.prog 100 #[p] W fun x W' => x = .returned (.int .u64 0) ∧ CS k e W' ∧ W.grownBy W' row
  err : ∀ W k e, CS k e W → Calls Try.prog 20 #[p] W fun x W' => x = .returned (.int .i64 e) ∧ W = W'
  fail : ∀ W k e f, CS k e W → Calls Try.prog 49 #[p, .int .i64 f] W fun x W' => x = .returned (.tuple #[]) ∧ CS k (failOf e f) W' ∧ W.grownBy W' row
  keep : ∀ W W' k e q, CS k e W → W.grownBy W' q → (∀ x, q = some x → B ≤ x) → CS k e W'
  row_lt : ∀ x, row = some x → x < B
  row_cells : ∀ W k e x (o : Obj), CS k e W → row = some x → W.heap[x]? = some o → o.isCells = true

/-- The state of a loop over a number's bytes: how many were yielded, how many the cursor went on, its refusal; what the loop's own cells hold. -/
def LebI (CS : Nat → Int → World → Prop) (w0 : World) (row : Option Nat) (p : Value) (bc bn bp : Nat) (acc : Nat → Value) (s : Nat × Nat × Int) (W : World) : Prop :=
  CS s.2.1 s.2.2 W ∧ (W.cell? ⟨bn, 0, none⟩ = some (acc s.1) ∧ W.frozen? ⟨bn, 0, none⟩ = false ∧ W.cell? ⟨bc, 0, none⟩ = some p ∧ W.cell? ⟨bp, 0, none⟩ = some p) ∧ w0.grownBy W row

theorem cell_step {A C : World} {row : Option Nat} {b : Nat} {v : Value} {B : Nat} (h : A.cell? ⟨b, 0, none⟩ = some v) (hg : A.grownBy C row) (hr : ∀ x, row = some x → x < B) (hb : B ≤ b) : C.cell? ⟨b, 0, none⟩ = some v := by
  have hlt := World.block_lt_of_cell? A _ h
  exact (World.cell?_of_block (hg.block b hlt (fun e => by have := hr b e.symm; omega))).trans h
theorem frozen_step {A C : World} {row : Option Nat} {b : Nat} {v : Value} {B : Nat} (h : A.cell? ⟨b, 0, none⟩ = some v) (hf : A.frozen? ⟨b, 0, none⟩ = false) (hg : A.grownBy C row) (hr : ∀ x, row = some x → x < B) (hb : B ≤ b) : C.frozen? ⟨b, 0, none⟩ = false := by
  have hlt := World.block_lt_of_cell? A _ h
  exact (World.frozen?_of_block (hg.block b hlt (fun e => by have := hr b e.symm; omega))).trans hf

section
variable {B : Nat} {p : Value} {r : List UInt8} {row : Option Nat} {CS : Nat → Int → World → Prop} {w0 : World} {bc bn bp : Nat} {acc : Nat → Value}

/-- A step of the cursor's. -/
theorem LebI.step (CL : CurLike B p r row CS) (hc : B ≤ bc) (hn : B ≤ bn) (hp : B ≤ bp) {y k k' : Nat} {e e' : Int} {A C : World} (h : LebI CS w0 row p bc bn bp acc (y, k, e) A) (hg : A.grownBy C row) (hC : CS k' e' C) : LebI CS w0 row p bc bn bp acc (y, k', e') C :=
  ⟨hC, ⟨cell_step h.2.1.1 hg CL.row_lt hn, frozen_step h.2.1.1 h.2.1.2.1 hg CL.row_lt hn, cell_step h.2.1.2.2.1 hg CL.row_lt hc, cell_step h.2.1.2.2.2 hg CL.row_lt hp⟩, only_trans' h.2.2 hg⟩
where
  only_trans' {a b c : World} {q : Option Nat} (h : a.grownBy b q) (k : b.grownBy c q) : a.grownBy c q := h.trans k

theorem LebI.keeps (CL : CurLike B p r row CS) {s : Nat × Nat × Int} {A C : World} (h : LebI CS w0 row p bc bn bp acc s A) (hg : A.grownBy C row) : KeepsOthers A C :=
  .of_grownBy hg fun j o hj ho => CL.row_cells _ _ _ j o h.1 hj ho

end

end Go.Proofs.Yteadabmlleipiaa

namespace Go.Proofs.Yteadabmlleipiaa
open Go Go.RowKit Go.Shelf

attribute [local go_sem] Oper.semAt_some

section
variable {B : Nat} {p : Value} {r : List UInt8} {row : Option Nat} {CS : Nat → Int → World → Prop} {w0 : World} {bc bn bp : Nat} {acc : Nat → Value}

/-- The round's own store, behind what the cursor did. -/
theorem LebI.set (CL : CurLike B p r row CS) (hc : B ≤ bc) (hn : B ≤ bn) (hwn : w0.heap.size ≤ bn) (hcn : bc ≠ bn) (hpn : bp ≠ bn) {y k k' : Nat} {e e' : Int} {A C : World} (h : LebI CS w0 row p bc bn bp acc (y, k, e) A) (hp : B ≤ bp) (hg : A.grownBy C row) (hC : CS k' e' C) (u : Value)
    (y' : Nat) (hu : acc y' = u) : KeepsOthers A (C.drew.setCell ⟨bn, 0, none⟩ u) ∧ LebI CS w0 row p bc bn bp acc (y', k', e') (C.drew.setCell ⟨bn, 0, none⟩ u) := by
  have h1 := h.step CL hc hn hp hg hC
  have hg2 : C.grownBy (C.drew.setCell ⟨bn, 0, none⟩ u) (some bn) := only_set (only_drewN (only_refl C (some bn)) 1) 0 u
  refine ⟨((h.keeps CL hg).trans (KeepsOthers.drew C)).trans (KeepsOthers.setCell _ _ _), CL.keep _ _ _ _ _ hC hg2 (fun x e => by cases e; exact hn), ⟨?_, ?_, ?_, ?_⟩, only_trans h1.2.2 hg2 (.inr fun x e => by cases e; exact hwn)⟩
  · rw [hu]
    exact World.cell?_setCell_same' _ _ _ (by rw [cell_drew_own, h1.2.1.1]; rfl)
  · rw [World.frozen?_setCell]
    exact h1.2.1.2.1
  · rw [World.cell?_setCell_other _ _ _ _ (by intro e; injection e with e; exact hcn e.symm)]
    exact h1.2.1.2.2.1
  · rw [World.cell?_setCell_other _ _ _ _ (by intro e; injection e with e; exact hpn e.symm)]
    exact h1.2.1.2.2.2
end

end Go.Proofs.Yteadabmlleipiaa
