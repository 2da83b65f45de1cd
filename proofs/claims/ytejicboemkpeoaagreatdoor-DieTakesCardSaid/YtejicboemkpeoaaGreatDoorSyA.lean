/-
  Symbols and relocations: what they are, how they lie side by side in memory; a row whose cells are stored one by one.
-/
import Derived.Test.YtejicboemkpeoaaGreatDoorSeA
import Derived.Test.YtejicboemkpeoaaGreatDoorEhC
import Derived.Test.YtejicboemkpeoaaGreatDoorCsL
import Derived.Test.YtejicboemkpeoaaGreatDoorZeros
import Derived.Test.YtejicboemkpeoaaGreatDoorCurN
import Derived.Laws.ResultCell
import Derived.Stop.BytesEq
import Derived.Laws.Cover3
import Derived.Test.YtejicboemkpeoaaGreatDoorCsQ
import Derived.Shelf.Bytes.SlCountOne
import Derived.Laws.Rows
import Derived.Test.YtejicboemkpeoaaGreatDoorPoX
namespace Go.Proofs.YtejicboemkpeoaaGreatDoor
open Go Go.RowKit

/-! ### What a struct is told as -/
theorem ret_one {fn : Func} {p : Tmp} {T : TypeId} {fs : Array Field} (hT : Tryz.prog.underlying T = some (.struct fs)) (hres : fn.results = #[.cell p T]) {R : Ending → World → Prop} {a : Act} {W : World} {H : Nat} {cs : Array Value} (hB : Box W H T cs) (hcs : (Tryz.prog.info? T).map (·.size) = some cs.size)
    (hp : a.tmps.getD p undef = .pointer (some ⟨H, 0, none⟩)) (hd : a.defers = []) (h : R (.returned (.agg cs)) W) : bodyPost Tryz.prog fn R .ret a W := by
  refine bodyPost_ret (v := .agg cs) ?_ hd h
  have hl := run_loadVar_row (P := Tryz.prog) W H T T cs (0, 0) _ hB hT rfl hcs
  have hp' : a.tmps[p]?.getD undef = .pointer (some ⟨H, 0, none⟩) := by simpa using hp
  simp only [results, hres]
  simp [hp', asAddr, hl]
theorem ret_two {fn : Func} {p u : Tmp} {T : TypeId} {fs : Array Field} (hT : Tryz.prog.underlying T = some (.struct fs)) (hres : fn.results = #[.cell p T, .tmp u]) {R : Ending → World → Prop} {a : Act} {W : World} {H : Nat} {cs : Array Value} (hB : Box W H T cs) (hcs : (Tryz.prog.info? T).map (·.size) = some cs.size)
    (hp : a.tmps.getD p undef = .pointer (some ⟨H, 0, none⟩)) (hd : a.defers = []) (h : R (.returned (.tuple #[.agg cs, a.tmps.getD u undef])) W) : bodyPost Tryz.prog fn R .ret a W := by
  refine bodyPost_ret (v := .tuple #[.agg cs, a.tmps.getD u undef]) ?_ hd h
  have hl := run_loadVar_row (P := Tryz.prog) W H T T cs (0, 0) _ hB hT rfl hcs
  have hp' : a.tmps[p]?.getD undef = .pointer (some ⟨H, 0, none⟩) := by simpa using hp
  simp only [results, hres]
  simp [Result.andThen, hp', asAddr, hl]
end Go.Proofs.YtejicboemkpeoaaGreatDoor

namespace Go.Proofs.YtejicboemkpeoaaGreatDoor
open Go Go.RowKit

/-! ### Items that lie side by side -/
section
variable {α : Type} {n : Nat} {f : α → List Value} {w w' : World} {B B' : Nat} {a : Option Addr} {L : List α}
/-- Items that lie side by side, each of n cells. -/
def Row (n : Nat) (f : α → List Value) (w : World) (B : Nat) (a : Option Addr) (L : List α) : Prop :=
  0 < L.length → ∃ b o, a = some ⟨b, o, none⟩ ∧ b < B ∧ ∀ (i : Nat) (x : α), L[i]? = some x → ∀ (j : Nat) (v : Value), (f x)[j]? = some v → w.cell? ⟨b, o + i * n + j, none⟩ = some v
theorem Row.below (h : Row n f w B a L) (hb : Below B w w') : Row n f w' B a L := fun hl => by
  obtain ⟨b, o, e, hlt, hc⟩ := h hl
  exact ⟨b, o, e, hlt, fun i x hx j v hv => by rw [hb.cell (p := ⟨b, o + i * n + j, none⟩) hlt]; exact hc i x hx j v hv⟩
theorem Row.more (h : Row n f w B a L) (hB : B ≤ B') : Row n f w B' a L := fun hl => by
  obtain ⟨b, o, e, hlt, hc⟩ := h hl
  exact ⟨b, o, e, by omega, hc⟩
theorem Row.drewN (h : Row n f w B a L) (k : Nat) : Row n f (w.drewN k) B a L := h.below (below_drewN (Below.refl _ _) k)
theorem Row.alloc (h : Row n f w B a L) (hB : B ≤ w.heap.size) (o : Obj) : Row n f (w.alloc o) B a L := h.below ((Below.refl _ _).alloc hB o)
theorem Row.up (h : Row n f w w.heap.size a L) (hb : Below w.heap.size w w') : Row n f w' w'.heap.size a L := (h.below hb).more hb.size

/-- The cells of a row of items. -/
def cellsF (f : α → List Value) (L : List α) : List Value := L.flatMap f
theorem cellsF_append (L M : List α) : cellsF f (L ++ M) = cellsF f L ++ cellsF f M := by simp [cellsF]
theorem cellsF_one (x : α) : cellsF f [x] = f x := by simp [cellsF]
theorem cellsF_at (hn : ∀ x, (f x).length = n) : ∀ (L : List α) (i : Nat) (x : α) (j : Nat) (v : Value), L[i]? = some x → (f x)[j]? = some v → (cellsF f L)[i * n + j]? = some v
  | [], _, _, _, _, h, _ => by simp at h
  | y :: L, 0, x, j, v, h, hv => by
    simp at h
    subst h
    have hj : j < (f y).length := (List.getElem?_eq_some_iff.1 hv).1
    rw [show cellsF f (y :: L) = f y ++ cellsF f L by simp [cellsF], Nat.zero_mul, Nat.zero_add, List.getElem?_append_left hj]
    exact hv
  | y :: L, i + 1, x, j, v, h, hv => by
    have ih := cellsF_at hn L i x j v (by simpa using h) hv
    have e : (i + 1) * n + j = n + (i * n + j) := by rw [Nat.add_mul]; omega
    rw [show cellsF f (y :: L) = f y ++ cellsF f L by simp [cellsF], e, List.getElem?_append_right (by rw [hn]; omega), hn, Nat.add_sub_cancel_left]
    exact ih
/-- A row of the call's own, as items that lie. -/
theorem own_row {T : TypeId} (hn : ∀ x, (f x).length = n) {base : Nat} {v : Value} (h : w.ownsRow base T n v L.length (cellsF f L)) : ∃ A c, v = .slice A L.length c ∧ L.length ≤ c ∧ c ≤ maxLen ∧ Row n f w w.heap.size A L := by
  rcases h.2 with ⟨rfl, h0⟩ | ⟨g, cap, cur, rfl, hb, hg, hnc, hcm, hcs, htake⟩
  · rw [h0]
    exact ⟨none, 0, rfl, Nat.le_refl _, Nat.zero_le _, fun hl => by omega⟩
  · have hlt : g < w.heap.size := by
      rcases Nat.lt_or_ge g w.heap.size with h1 | h1
      · exact h1
      · rw [Array.getElem?_eq_none h1] at hg; cases hg
    refine ⟨some ⟨g, 0, none⟩, cap, rfl, hnc, hcm, fun _ => ⟨g, 0, rfl, hlt, fun i x hx j u hu => ?_⟩⟩
    have hc := cellsF_at hn L i x j u hx hu
    have hil := (List.getElem?_eq_some_iff.1 hx).1
    have hjl : j < n := by have := (List.getElem?_eq_some_iff.1 hu).1; rw [hn] at this; exact this
    have hk : i * n + j < L.length * n := by
      have : (i + 1) * n ≤ L.length * n := Nat.mul_le_mul_right n hil
      rw [Nat.add_mul] at this
      omega
    have h1 := World.ownsRow.cellAt (g := g) (cap := cap) h (i * n + j) hk
    rw [Nat.zero_add, h1, hc]
/-- A literal row. -/
theorem lit_row (hn : ∀ x, (f x).length = n) (w : World) (T : TypeId) (L : List α) : Row n f (w.alloc (.cells (cellsF f L).toArray T)) (w.heap.size + 1) (some ⟨w.heap.size, 0, none⟩) L :=
  fun _ => ⟨w.heap.size, 0, rfl, by omega, fun i x hx j v hv => by
    rw [(Box.new w T (cellsF f L).toArray).cell, Nat.zero_add]
    simpa using cellsF_at hn L i x j v hx hv⟩
end

/-! ### A row whose cells are stored one by one -/
def setAll (w : World) (g : Nat) : Nat → List Value → World
  | _, [] => w
  | o, v :: vs => setAll (w.setCell ⟨g, o, none⟩ v) g (o + 1) vs
theorem row_stores {T : TypeId} {size n g cap base : Nat} : ∀ (vs : List Value) (w : World) (C R : List Value), w.ownsRow base T size (.slice (some ⟨g, 0, none⟩) n cap) n (C ++ R) → vs.length ≤ R.length →
    (setAll w g C.length vs).ownsRow base T size (.slice (some ⟨g, 0, none⟩) n cap) n (C ++ vs ++ R.drop vs.length) ∧ w.grownBy (setAll w g C.length vs) (some g)
  | [], w, C, R, h, _ => by
    simp only [setAll, List.append_nil, List.length_nil, List.drop_zero]
    exact ⟨h, only_refl _ _⟩
  | v :: vs, w, C, R, h, hl => by
    obtain ⟨r, R, rfl⟩ : ∃ r R', R = r :: R' := by
      cases R with
      | nil => simp at hl
      | cons r R' => exact ⟨r, R', rfl⟩
    obtain ⟨s1, s2⟩ := World.ownsRow.stored h C.length v
    have e : (C ++ r :: R).set C.length v = (C ++ [v]) ++ R := by
      rw [List.set_append_right _ _ (Nat.le_refl _), Nat.sub_self]
      simp
    rw [e] at s1
    have ih := row_stores vs (w.setCell ⟨g, C.length, none⟩ v) (C ++ [v]) R s1 (by simpa using hl)
    rw [show (C ++ [v]).length = C.length + 1 by simp] at ih
    refine ⟨?_, only_trans s2 ih.2 (.inl rfl)⟩
    have e2 : C ++ v :: vs ++ (r :: R).drop (v :: vs).length = C ++ [v] ++ vs ++ R.drop vs.length := by simp
    rw [e2]
    exact ih.1
theorem row_free {T : TypeId} {size n g cap base : Nat} {w : World} {X : List Value} (h : w.ownsRow base T size (.slice (some ⟨g, 0, none⟩) n cap) n X) (j : Nat) (hj : j < n * size) : (∃ v, w.cell? ⟨g, j, none⟩ = some v) ∧ w.frozen? ⟨g, j, none⟩ = false := by
  have h1 := World.ownsRow.cellAt (g := g) (cap := cap) h j hj
  rw [List.getElem?_eq_getElem (by rw [h.1]; exact hj)] at h1
  exact ⟨⟨_, h1⟩, World.ownsRow.frozenAt (g := g) (cap := cap) h j⟩

/-! ### A struct of six cells, one of four -/
section
variable {W : World} {H : Nat} {T : TypeId}
theorem six_cells {c0 c1 c2 c3 c4 c5 : Value} (h : Box W H T #[c0, c1, c2, c3, c4, c5]) : W.cell? ⟨H, 0, none⟩ = some c0 ∧ W.cell? ⟨H, 1, none⟩ = some c1 ∧ W.cell? ⟨H, 2, none⟩ = some c2 ∧ W.cell? ⟨H, 3, none⟩ = some c3 ∧ W.cell? ⟨H, 4, none⟩ = some c4 ∧ W.cell? ⟨H, 5, none⟩ = some c5 := by
  refine ⟨?_, ?_, ?_, ?_, ?_, ?_⟩ <;> (rw [h.cell]; rfl)
theorem six_free {cs : Array Value} (h : Box W H T cs) : W.frozen? ⟨H, 0, none⟩ = false ∧ W.frozen? ⟨H, 1, none⟩ = false ∧ W.frozen? ⟨H, 2, none⟩ = false ∧ W.frozen? ⟨H, 3, none⟩ = false ∧ W.frozen? ⟨H, 4, none⟩ = false ∧ W.frozen? ⟨H, 5, none⟩ = false :=
  ⟨h.free 0, h.free 1, h.free 2, h.free 3, h.free 4, h.free 5⟩
theorem six_box {cs : Array Value} (h : Box W H T cs) (hs : cs.size = 6) (v0 v1 v2 v3 v4 v5 : Value) :
    Box ((((((W.setCell ⟨H, 0, none⟩ v0).setCell ⟨H, 1, none⟩ v1).setCell ⟨H, 2, none⟩ v2).setCell ⟨H, 3, none⟩ v3).setCell ⟨H, 4, none⟩ v4).setCell ⟨H, 5, none⟩ v5) H T #[v0, v1, v2, v3, v4, v5] := by
  obtain ⟨l⟩ := cs
  match l, hs with
  | [c0, c1, c2, c3, c4, c5], _ => simpa using (((((h.set 0 v0).set 1 v1).set 2 v2).set 3 v3).set 4 v4).set 5 v5
theorem six_only (W : World) (H : Nat) (v0 v1 v2 v3 v4 v5 : Value) :
    W.grownBy ((((((W.setCell ⟨H, 0, none⟩ v0).setCell ⟨H, 1, none⟩ v1).setCell ⟨H, 2, none⟩ v2).setCell ⟨H, 3, none⟩ v3).setCell ⟨H, 4, none⟩ v4).setCell ⟨H, 5, none⟩ v5) (some H) :=
  only_set (only_set (only_set (only_set (only_set (only_set (only_refl W (some H)) 0 v0) 1 v1) 2 v2) 3 v3) 4 v4) 5 v5
theorem four_cells {c0 c1 c2 c3 : Value} (h : Box W H T #[c0, c1, c2, c3]) : W.cell? ⟨H, 0, none⟩ = some c0 ∧ W.cell? ⟨H, 1, none⟩ = some c1 ∧ W.cell? ⟨H, 2, none⟩ = some c2 ∧ W.cell? ⟨H, 3, none⟩ = some c3 := by
  refine ⟨?_, ?_, ?_, ?_⟩ <;> (rw [h.cell]; rfl)
theorem four_free {cs : Array Value} (h : Box W H T cs) : W.frozen? ⟨H, 0, none⟩ = false ∧ W.frozen? ⟨H, 1, none⟩ = false ∧ W.frozen? ⟨H, 2, none⟩ = false ∧ W.frozen? ⟨H, 3, none⟩ = false :=
  ⟨h.free 0, h.free 1, h.free 2, h.free 3⟩
theorem four_box {cs : Array Value} (h : Box W H T cs) (hs : cs.size = 4) (v0 v1 v2 v3 : Value) :
    Box ((((W.setCell ⟨H, 0, none⟩ v0).setCell ⟨H, 1, none⟩ v1).setCell ⟨H, 2, none⟩ v2).setCell ⟨H, 3, none⟩ v3) H T #[v0, v1, v2, v3] := by
  obtain ⟨l⟩ := cs
  match l, hs with
  | [c0, c1, c2, c3], _ => simpa using (((h.set 0 v0).set 1 v1).set 2 v2).set 3 v3
theorem four_only (W : World) (H : Nat) (v0 v1 v2 v3 : Value) :
    W.grownBy ((((W.setCell ⟨H, 0, none⟩ v0).setCell ⟨H, 1, none⟩ v1).setCell ⟨H, 2, none⟩ v2).setCell ⟨H, 3, none⟩ v3) (some H) :=
  only_set (only_set (only_set (only_set (only_refl W (some H)) 0 v0) 1 v1) 2 v2) 3 v3
end

/-! ### Symbols, relocations -/
/-- A symbol. -/
structure Sym where
  name : List UInt8
  bind : Int
  kind : Int
  sect : Int
  value : Nat
  size : Nat
/-- A relocation. -/
structure Rel where
  off : Nat
  sym : Int
  kind : Int
  add : Int
def Sym.cells (x : Sym) : List Value := [.string ⟨x.name.toArray⟩, .int .i64 x.bind, .int .i64 x.kind, .int .i64 x.sect, .int .u64 (x.value : Int), .int .u64 (x.size : Int)]
def Rel.cells (x : Rel) : List Value := [.int .u64 (x.off : Int), .int .i64 x.sym, .int .i64 x.kind, .int .i64 x.add]
abbrev Syms (w : World) (B : Nat) (a : Option Addr) (L : List Sym) : Prop := Row 6 Sym.cells w B a L
abbrev Rels (w : World) (B : Nat) (a : Option Addr) (L : List Rel) : Prop := Row 4 Rel.cells w B a L
abbrev OwnR (w : World) (base : Nat) (v : Value) (L : List Rel) : Prop := w.ownsRow base 322 4 v L.length (cellsF Rel.cells L)
section
variable {w : World} {B : Nat} {a : Option Addr}
end

end Go.Proofs.YtejicboemkpeoaaGreatDoor
