/-
  Symbols and relocations: what they are, how they lie side by side in memory; a row whose cells are stored one by one.
-/
import Derived.Test.YtpmndmbhkfbljaaDoorSeA
import Derived.Test.YtpmndmbhkfbljaaDoorEhC
import Derived.Test.YtpmndmbhkfbljaaDoorPutR
import Derived.Test.YtpmndmbhkfbljaaDoorKeep
import Derived.Lib.AppendZerosOnto
import Derived.Test.YtpmndmbhkfbljaaDoorRwA
import Derived.Test.YtpmndmbhkfbljaaDoorPut
import Derived.Laws.ResultCell
import Derived.Stop.BytesEq
import Derived.Laws.Cover3
import Derived.Test.YtpmndmbhkfbljaaDoorCsP
import Derived.Shelf.Bytes.SlCountOne
import Derived.Laws.Rows
import Derived.Test.YtpmndmbhkfbljaaDoorPoX
namespace Go.Proofs.YtpmndmbhkfbljaaDoor
open Go Go.RowKit

/-! ### What a struct is told as -/
theorem ret_one {fn : Func} {p : Tmp} {T : TypeId} {fs : Array Field} (hT : Tryd.prog.underlying T = some (.struct fs)) (hres : fn.results = #[.cell p T]) {R : Ending → World → Prop} {a : Act} {W : World} {H : Nat} {cs : Array Value} (hB : Box W H T cs) (hcs : (Tryd.prog.info? T).map (·.size) = some cs.size)
    (hp : a.tmps.getD p undef = .pointer (some ⟨H, 0, none⟩)) (hd : a.defers = []) (h : R (.returned (.agg cs)) W) : bodyPost Tryd.prog fn R .ret a W := by
  refine bodyPost_ret (v := .agg cs) ?_ hd h
  have hl := run_loadVar_row (P := Tryd.prog) W H T T cs (0, 0) _ hB hT rfl hcs
  have hp' : a.tmps[p]?.getD undef = .pointer (some ⟨H, 0, none⟩) := by simpa using hp
  simp only [results, hres]
  simp [hp', asAddr, hl]
end Go.Proofs.YtpmndmbhkfbljaaDoor

namespace Go.Proofs.YtpmndmbhkfbljaaDoor
open Go Go.RowKit

/-! ### Items that lie side by side -/
section
variable {α : Type} {n : Nat} {f : α → List Value} {w w' : World} {B B' : Nat} {a : Option Addr} {L : List α}
/-- Items that lie side by side, each of n cells. -/
def Row (n : Nat) (f : α → List Value) (w : World) (B : Nat) (a : Option Addr) (L : List α) : Prop :=
  0 < L.length → ∃ b o, a = some ⟨b, o, none⟩ ∧ b < B ∧ ∀ (i : Nat) (x : α), L[i]? = some x → ∀ (j : Nat) (v : Value), (f x)[j]? = some v → w.cell? ⟨b, o + i * n + j, none⟩ = some v
theorem Row.below (h : Row n f w B a L) (hb : Below B w w') : Row n f w' B a L := fun hl => by
  obtain ⟨b, o, e, hlt, hc⟩ := h hl
  exact ⟨b, o, e, hlt, fun i x hx j v hv => by rw [hb.cell (p := ⟨b, o + i * n + j, none⟩) hlt]; exact hc i x hx j v hv⟩
theorem Row.more (h : Row n f w B a L) (hB : B ≤ B') : Row n f w B' a L := fun hl => by
  obtain ⟨b, o, e, hlt, hc⟩ := h hl
  exact ⟨b, o, e, by omega, hc⟩
theorem Row.drewN (h : Row n f w B a L) (k : Nat) : Row n f (w.drewN k) B a L := h.below (below_drewN (Below.refl _ _) k)
theorem Row.alloc (h : Row n f w B a L) (hB : B ≤ w.heap.size) (o : Obj) : Row n f (w.alloc o) B a L := h.below ((Below.refl _ _).alloc hB o)
theorem Row.up (h : Row n f w w.heap.size a L) (hb : Below w.heap.size w w') : Row n f w' w'.heap.size a L := (h.below hb).more hb.size

/-- The cells of a row of items. -/
def cellsF (f : α → List Value) (L : List α) : List Value := L.flatMap f
theorem cellsF_append (L M : List α) : cellsF f (L ++ M) = cellsF f L ++ cellsF f M := by simp [cellsF]
theorem cellsF_one (x : α) : cellsF f [x] = f x := by simp [cellsF]
end

/-! ### A row whose cells are stored one by one -/
def setAll (w : World) (g : Nat) : Nat → List Value → World
  | _, [] => w
  | o, v :: vs => setAll (w.setCell ⟨g, o, none⟩ v) g (o + 1) vs
theorem row_stores {T : TypeId} {size n g cap base : Nat} : ∀ (vs : List Value) (w : World) (C R : List Value), w.ownsRow base T size (.slice (some ⟨g, 0, none⟩) n cap) n (C ++ R) → vs.length ≤ R.length →
    (setAll w g C.length vs).ownsRow base T size (.slice (some ⟨g, 0, none⟩) n cap) n (C ++ vs ++ R.drop vs.length) ∧ w.grownBy (setAll w g C.length vs) (some g)
  | [], w, C, R, h, _ => by
    simp only [setAll, List.append_nil, List.length_nil, List.drop_zero]
    exact ⟨h, only_refl _ _⟩
  | v :: vs, w, C, R, h, hl => by
    obtain ⟨r, R, rfl⟩ : ∃ r R', R = r :: R' := by
      cases R with
      | nil => simp at hl
      | cons r R' => exact ⟨r, R', rfl⟩
    obtain ⟨s1, s2⟩ := World.ownsRow.stored h C.length v
    have e : (C ++ r :: R).set C.length v = (C ++ [v]) ++ R := by
      rw [List.set_append_right _ _ (Nat.le_refl _), Nat.sub_self]
      simp
    rw [e] at s1
    have ih := row_stores vs (w.setCell ⟨g, C.length, none⟩ v) (C ++ [v]) R s1 (by simpa using hl)
    rw [show (C ++ [v]).length = C.length + 1 by simp] at ih
    refine ⟨?_, only_trans s2 ih.2 (.inl rfl)⟩
    have e2 : C ++ v :: vs ++ (r :: R).drop (v :: vs).length = C ++ [v] ++ vs ++ R.drop vs.length := by simp
    rw [e2]
    exact ih.1
theorem row_free {T : TypeId} {size n g cap base : Nat} {w : World} {X : List Value} (h : w.ownsRow base T size (.slice (some ⟨g, 0, none⟩) n cap) n X) (j : Nat) (hj : j < n * size) : (∃ v, w.cell? ⟨g, j, none⟩ = some v) ∧ w.frozen? ⟨g, j, none⟩ = false := by
  have h1 := World.ownsRow.cellAt (g := g) (cap := cap) h j hj
  rw [List.getElem?_eq_getElem (by rw [h.1]; exact hj)] at h1
  exact ⟨⟨_, h1⟩, World.ownsRow.frozenAt (g := g) (cap := cap) h j⟩

/-! ### A struct of six cells, one of four -/
section
variable {W : World} {H : Nat} {T : TypeId}
end

/-! ### Symbols, relocations -/
/-- A symbol. -/
structure Sym where
  name : List UInt8
  bind : Int
  kind : Int
  sect : Int
  value : Nat
  size : Nat
/-- A relocation. -/
structure Rel where
  off : Nat
  sym : Int
  kind : Int
  add : Int
def Sym.cells (x : Sym) : List Value := [.string ⟨x.name.toArray⟩, .int .i64 x.bind, .int .i64 x.kind, .int .i64 x.sect, .int .u64 (x.value : Int), .int .u64 (x.size : Int)]
def Rel.cells (x : Rel) : List Value := [.int .u64 (x.off : Int), .int .i64 x.sym, .int .i64 x.kind, .int .i64 x.add]
abbrev Syms (w : World) (B : Nat) (a : Option Addr) (L : List Sym) : Prop := Row 6 Sym.cells w B a L
abbrev Rels (w : World) (B : Nat) (a : Option Addr) (L : List Rel) : Prop := Row 4 Rel.cells w B a L
section
variable {w : World} {B : Nat} {a : Option Addr}
end

end Go.Proofs.YtpmndmbhkfbljaaDoor
