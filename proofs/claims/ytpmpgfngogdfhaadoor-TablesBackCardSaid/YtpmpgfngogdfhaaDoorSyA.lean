/-
  Symbols and relocations: what they are, how they lie side by side in memory; a row whose cells are stored one by one.
-/
import Derived.Test.YtpmpgfngogdfhaaDoorPoX
import Derived.Test.YtpmpgfngogdfhaaDoorEhC
import Derived.Test.YtpmpgfngogdfhaaDoorSeB
namespace Go.Proofs.YtpmpgfngogdfhaaDoor
open Go Go.RowKit

/-! ### Items that lie side by side -/
section
variable {α : Type} {n : Nat} {f : α → List Value} {w w' : World} {B B' : Nat} {a : Option Addr} {L : List α}
/-- Items that lie side by side, each of n cells. -/
def Row (n : Nat) (f : α → List Value) (w : World) (B : Nat) (a : Option Addr) (L : List α) : Prop :=
  0 < L.length → ∃ b o, a = some ⟨b, o, none⟩ ∧ b < B ∧ ∀ (i : Nat) (x : α), L[i]? = some x → ∀ (j : Nat) (v : Value), (f x)[j]? = some v → w.cell? ⟨b, o + i * n + j, none⟩ = some v
theorem Row.below (h : Row n f w B a L) (hb : Below B w w') : Row n f w' B a L := fun hl => by
  obtain ⟨b, o, e, hlt, hc⟩ := h hl
  exact ⟨b, o, e, hlt, fun i x hx j v hv => by rw [hb.cell (p := ⟨b, o + i * n + j, none⟩) hlt]; exact hc i x hx j v hv⟩
theorem Row.more (h : Row n f w B a L) (hB : B ≤ B') : Row n f w B' a L := fun hl => by
  obtain ⟨b, o, e, hlt, hc⟩ := h hl
  exact ⟨b, o, e, by omega, hc⟩
theorem Row.drewN (h : Row n f w B a L) (k : Nat) : Row n f (w.drewN k) B a L := h.below (below_drewN (Below.refl _ _) k)
theorem Row.alloc (h : Row n f w B a L) (hB : B ≤ w.heap.size) (o : Obj) : Row n f (w.alloc o) B a L := h.below ((Below.refl _ _).alloc hB o)
/-- The cells of a row of items. -/
def cellsF (f : α → List Value) (L : List α) : List Value := L.flatMap f
theorem cellsF_append (L M : List α) : cellsF f (L ++ M) = cellsF f L ++ cellsF f M := by simp [cellsF]
theorem cellsF_one (x : α) : cellsF f [x] = f x := by simp [cellsF]
theorem cellsF_at (hn : ∀ x, (f x).length = n) : ∀ (L : List α) (i : Nat) (x : α) (j : Nat) (v : Value), L[i]? = some x → (f x)[j]? = some v → (cellsF f L)[i * n + j]? = some v
  | [], _, _, _, _, h, _ => by simp at h
  | y :: L, 0, x, j, v, h, hv => by
    simp at h
    subst h
    have hj : j < (f y).length := (List.getElem?_eq_some_iff.1 hv).1
    rw [show cellsF f (y :: L) = f y ++ cellsF f L by simp [cellsF], Nat.zero_mul, Nat.zero_add, List.getElem?_append_left hj]
    exact hv
  | y :: L, i + 1, x, j, v, h, hv => by
    have ih := cellsF_at hn L i x j v (by simpa using h) hv
    have e : (i + 1) * n + j = n + (i * n + j) := by rw [Nat.add_mul]; omega
    rw [show cellsF f (y :: L) = f y ++ cellsF f L by simp [cellsF], e, List.getElem?_append_right (by rw [hn]; omega), hn, Nat.add_sub_cancel_left]
    exact ih
/-- A row of the call's own, as items that lie. -/
theorem own_row {T : TypeId} (hn : ∀ x, (f x).length = n) {base : Nat} {v : Value} (h : w.ownsRow base T n v L.length (cellsF f L)) : ∃ A c, v = .slice A L.length c ∧ L.length ≤ c ∧ c ≤ maxLen ∧ Row n f w w.heap.size A L := by
  rcases h.2 with ⟨rfl, h0⟩ | ⟨g, cap, cur, rfl, hb, hg, hnc, hcm, hcs, htake⟩
  · rw [h0]
    exact ⟨none, 0, rfl, Nat.le_refl _, Nat.zero_le _, fun hl => by omega⟩
  · have hlt : g < w.heap.size := by
      rcases Nat.lt_or_ge g w.heap.size with h1 | h1
      · exact h1
      · rw [Array.getElem?_eq_none h1] at hg; cases hg
    refine ⟨some ⟨g, 0, none⟩, cap, rfl, hnc, hcm, fun _ => ⟨g, 0, rfl, hlt, fun i x hx j u hu => ?_⟩⟩
    have hc := cellsF_at hn L i x j u hx hu
    have hil := (List.getElem?_eq_some_iff.1 hx).1
    have hjl : j < n := by have := (List.getElem?_eq_some_iff.1 hu).1; rw [hn] at this; exact this
    have hk : i * n + j < L.length * n := by
      have : (i + 1) * n ≤ L.length * n := Nat.mul_le_mul_right n hil
      rw [Nat.add_mul] at this
      omega
    have h1 := World.ownsRow.cellAt (g := g) (cap := cap) h (i * n + j) hk
    rw [Nat.zero_add, h1, hc]
/-- A literal row. -/
theorem lit_row (hn : ∀ x, (f x).length = n) (w : World) (T : TypeId) (L : List α) : Row n f (w.alloc (.cells (cellsF f L).toArray T)) (w.heap.size + 1) (some ⟨w.heap.size, 0, none⟩) L :=
  fun _ => ⟨w.heap.size, 0, rfl, by omega, fun i x hx j v hv => by
    rw [(Box.new w T (cellsF f L).toArray).cell, Nat.zero_add]
    simpa using cellsF_at hn L i x j v hx hv⟩
end

/-! ### A row whose cells are stored one by one -/
def setAll (w : World) (g : Nat) : Nat → List Value → World
  | _, [] => w
  | o, v :: vs => setAll (w.setCell ⟨g, o, none⟩ v) g (o + 1) vs
theorem row_stores {T : TypeId} {size n g cap base : Nat} : ∀ (vs : List Value) (w : World) (C R : List Value), w.ownsRow base T size (.slice (some ⟨g, 0, none⟩) n cap) n (C ++ R) → vs.length ≤ R.length →
    (setAll w g C.length vs).ownsRow base T size (.slice (some ⟨g, 0, none⟩) n cap) n (C ++ vs ++ R.drop vs.length) ∧ w.grownBy (setAll w g C.length vs) (some g)
  | [], w, C, R, h, _ => by
    simp only [setAll, List.append_nil, List.length_nil, List.drop_zero]
    exact ⟨h, only_refl _ _⟩
  | v :: vs, w, C, R, h, hl => by
    obtain ⟨r, R, rfl⟩ : ∃ r R', R = r :: R' := by
      cases R with
      | nil => simp at hl
      | cons r R' => exact ⟨r, R', rfl⟩
    obtain ⟨s1, s2⟩ := World.ownsRow.stored h C.length v
    have e : (C ++ r :: R).set C.length v = (C ++ [v]) ++ R := by
      rw [List.set_append_right _ _ (Nat.le_refl _), Nat.sub_self]
      simp
    rw [e] at s1
    have ih := row_stores vs (w.setCell ⟨g, C.length, none⟩ v) (C ++ [v]) R s1 (by simpa using hl)
    rw [show (C ++ [v]).length = C.length + 1 by simp] at ih
    refine ⟨?_, only_trans s2 ih.2 (.inl rfl)⟩
    have e2 : C ++ v :: vs ++ (r :: R).drop (v :: vs).length = C ++ [v] ++ vs ++ R.drop vs.length := by simp
    rw [e2]
    exact ih.1
theorem row_free {T : TypeId} {size n g cap base : Nat} {w : World} {X : List Value} (h : w.ownsRow base T size (.slice (some ⟨g, 0, none⟩) n cap) n X) (j : Nat) (hj : j < n * size) : (∃ v, w.cell? ⟨g, j, none⟩ = some v) ∧ w.frozen? ⟨g, j, none⟩ = false := by
  have h1 := World.ownsRow.cellAt (g := g) (cap := cap) h j hj
  rw [List.getElem?_eq_getElem (by rw [h.1]; exact hj)] at h1
  exact ⟨⟨_, h1⟩, World.ownsRow.frozenAt (g := g) (cap := cap) h j⟩

/-! ### A struct of six cells, one of four -/
section
variable {W : World} {H : Nat} {T : TypeId}
end

/-! ### Symbols, relocations -/
/-- A symbol. -/
structure Sym where
  name : List UInt8
  bind : Int
  kind : Int
  sect : Int
  value : Nat
  size : Nat
/-- A relocation. -/
structure Rel where
  off : Nat
  sym : Int
  kind : Int
  add : Int
def Sym.cells (x : Sym) : List Value := [.string ⟨x.name.toArray⟩, .int .i64 x.bind, .int .i64 x.kind, .int .i64 x.sect, .int .u64 (x.value : Int), .int .u64 (x.size : Int)]
def Rel.cells (x : Rel) : List Value := [.int .u64 (x.off : Int), .int .i64 x.sym, .int .i64 x.kind, .int .i64 x.add]
section
variable {w : World} {B : Nat} {a : Option Addr}
end

end Go.Proofs.YtpmpgfngogdfhaaDoor
