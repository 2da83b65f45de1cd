/-
  Places that a pool told: plain facts; rows of numbers and of texts, with one item more.
-/

import Derived.Test.YtpdjpafchfbabaaDoorPoR
import Derived.Test.YtpdjpafchfbabaaDoorPoA
import Derived.Test.YtpdjpafchfbabaaDoorCsS
import Derived.Test.YtpdjpafchfbabaaDoorPoB
import Derived.Test.YtpdjpafchfbabaaDoorCsA
import Derived.Test.YtpdjpafchfbabaaDoorCsB
import Derived.Deep.AppendLies
namespace Go.Proofs.YtpdjpafchfbabaaDoor
open Go Go.RowKit

/-! Rows of the call's own. -/
/-- Cells of one kind. -/
def CellsOf (e : TypeId) : Obj → Prop
  | .cells _ t _ => t = e
  | _ => False

theorem row_only {w w' : World} {base base' : Nat} {bad : Obj → Prop} {e : TypeId} {size n : Nat} {v : Value} {xs : List Value} (h : w.ownsRow base e size v n xs) (hb : Only base' bad w w') (hn : ∀ cs f, ¬ bad (.cells cs e f)) : w'.ownsRow base e size v n xs :=
  ⟨h.1, h.2.imp id fun ⟨g, cap, cur, p, q, hg, r⟩ => ⟨g, cap, cur, p, q, hb.2 _ _ hg (hn _ _), r⟩⟩

theorem row_turns {w w' : World} {base : Nat} {e : TypeId} {size n : Nat} {v : Value} {xs : List Value} (h : w.ownsRow base e size v n xs) (hg : w.grownBy w' v.ownBlock) (hb : base ≤ w.heap.size) : Only base (CellsOf e) w w' := by
  rcases h.2 with ⟨rfl, _⟩ | ⟨g', cap, cur, rfl, hgb, hh, _⟩
  · exact Only.below (below_of_only hg (Nat.le_refl _) (by simp [Value.ownBlock])) hb
  · exact Only.row (g := g') hg hh rfl hgb

/-- Numbers as the cells that hold them; a row of them. -/
def placeV (l : List Nat) : List Value := l.map fun (p : Nat) => Value.int .u64 (p : Int)
abbrev OwnU (w : World) (base : Nat) (u : Value) (l : List Nat) : Prop := w.ownsRow base 24 1 u l.length (placeV l)
theorem placeV_append (l m : List Nat) : placeV (l ++ m) = placeV l ++ placeV m := by simp [placeV]
theorem u64_info : (Tryd.prog.info? 24).map (fun i => (i.zero, i.size, i.bytes)) = some (some (.int .u64 0), 1, 8) := by kernel_rfl

theorem ownu_at {w : World} {base : Nat} {u : Value} {l : List Nat} (h : OwnU w base u l) : ∃ A cap, u = .slice A l.length cap ∧ (0 < l.length → ∃ g, A = some ⟨g, 0, none⟩ ∧ g < w.heap.size ∧ ∀ (j : Nat) (p : Nat), l[j]? = some p → w.cell? ⟨g, j, none⟩ = some (.int .u64 (p : Int))) := by
  rcases h.2 with ⟨rfl, h1⟩ | ⟨g, cap, cur, rfl, hb, hg, hnc, hcm, hcs, htake⟩
  · rw [h1]; exact ⟨_, _, rfl, fun h => by omega⟩
  · refine ⟨_, cap, rfl, fun _ => ⟨g, rfl, ?_, fun j p hj => ?_⟩⟩
    · rcases Nat.lt_or_ge g w.heap.size with h1 | h1
      · exact h1
      · rw [Array.getElem?_eq_none h1] at hg; cases hg
    · have hjl : j < l.length := (List.getElem?_eq_some_iff.1 hj).1
      have h1 := World.ownsRow.cellAt (g := g) (cap := cap) h j (by omega)
      rw [h1]
      simp [placeV, hj]

/-- A pool, behind a step of rows of numbers or of texts. -/
theorem PoolAt.rows {w w' : World} {base base' g mb : Nat} {v : Value} {ls : List (List UInt8)} {e : TypeId} (h : PoolAt w base g mb v ls) (hb : Only base' (CellsOf e) w w') (h1 : e ≠ 5) (h2 : e ≠ 140) : PoolAt w' base g mb v ls :=
  h.kept hb (fun _ _ x => h1 x.symm) (fun _ _ x => h2 x.symm) (fun _ _ x => x)

end Go.Proofs.YtpdjpafchfbabaaDoor
