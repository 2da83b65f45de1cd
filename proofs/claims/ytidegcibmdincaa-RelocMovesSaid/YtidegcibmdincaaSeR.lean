/-
  Package sects: what an entry is refused with (refusal), and its bytes (data).
-/
import Derived.Test.YtidegcibmdincaaSeA
import Derived.Test.YtidegcibmdincaaEhG
import Derived.Test.YtidegcibmdincaaPut
import Derived.Test.YtidegcibmdincaaEhC
import Derived.Test.YtidegcibmdincaaEhA
import Derived.Laws.ResultCell
import Derived.Stop.BytesEq
import Derived.Laws.Cover3
import Derived.Test.YtidegcibmdincaaCsL
import Derived.Test.YtidegcibmdincaaCsP
import Derived.Shelf.Bytes.SlCountOne
import Derived.Laws.Rows
import Derived.Test.YtidegcibmdincaaPoX
import Derived.Test.YtidegcibmdincaaCsA
import Derived.Test.YtidegcibmdincaaRefR
import Derived.Lib.SlBytesConst
import Derived.Laws.StructEq
import Derived.Test.YtidegcibmdincaaKeep
import Derived.Lib.AppendZerosOnto
import Derived.Deep.RegionHeldLaw
namespace Go.Proofs.Ytidegcibmdincaa
open Go Go.RowKit

theorem ret_two {fn : Func} {p u : Tmp} {T : TypeId} {fs : Array Field} (hT : Try.prog.underlying T = some (.struct fs)) (hres : fn.results = #[.cell p T, .tmp u]) {R : Ending → World → Prop} {a : Act} {W : World} {H : Nat} {cs : Array Value} (hB : Box W H T cs) (hcs : (Try.prog.info? T).map (·.size) = some cs.size)
    (hp : a.tmps.getD p undef = .pointer (some ⟨H, 0, none⟩)) (hd : a.defers = []) (h : R (.returned (.tuple #[.agg cs, a.tmps.getD u undef])) W) : bodyPost Try.prog fn R .ret a W := by
  refine bodyPost_ret (v := .tuple #[.agg cs, a.tmps.getD u undef]) ?_ hd h
  have hl := run_loadVar_row (P := Try.prog) W H T T cs (0, 0) _ hB hT rfl hcs
  have hp' : a.tmps[p]?.getD undef = .pointer (some ⟨H, 0, none⟩) := by simpa using hp
  simp only [results, hres]
  simp [Result.andThen, hp', asAddr, hl]
end Go.Proofs.Ytidegcibmdincaa

namespace Go.Proofs.Ytidegcibmdincaa
open Go Go.RowKit

/-! ### Items that lie side by side -/
section
variable {α : Type} {n : Nat} {f : α → List Value} {w w' : World} {B B' : Nat} {a : Option Addr} {L : List α}
/-- Items that lie side by side, each of n cells. -/
def Row (n : Nat) (f : α → List Value) (w : World) (B : Nat) (a : Option Addr) (L : List α) : Prop :=
  0 < L.length → ∃ b o, a = some ⟨b, o, none⟩ ∧ b < B ∧ ∀ (i : Nat) (x : α), L[i]? = some x → ∀ (j : Nat) (v : Value), (f x)[j]? = some v → w.cell? ⟨b, o + i * n + j, none⟩ = some v
theorem Row.below (h : Row n f w B a L) (hb : Below B w w') : Row n f w' B a L := fun hl => by
  obtain ⟨b, o, e, hlt, hc⟩ := h hl
  exact ⟨b, o, e, hlt, fun i x hx j v hv => by rw [hb.cell (p := ⟨b, o + i * n + j, none⟩) hlt]; exact hc i x hx j v hv⟩
theorem Row.more (h : Row n f w B a L) (hB : B ≤ B') : Row n f w B' a L := fun hl => by
  obtain ⟨b, o, e, hlt, hc⟩ := h hl
  exact ⟨b, o, e, by omega, hc⟩
theorem Row.drewN (h : Row n f w B a L) (k : Nat) : Row n f (w.drewN k) B a L := h.below (below_drewN (Below.refl _ _) k)
theorem Row.alloc (h : Row n f w B a L) (hB : B ≤ w.heap.size) (o : Obj) : Row n f (w.alloc o) B a L := h.below ((Below.refl _ _).alloc hB o)
theorem Row.up (h : Row n f w w.heap.size a L) (hb : Below w.heap.size w w') : Row n f w' w'.heap.size a L := (h.below hb).more hb.size

/-- The cells of a row of items. -/
def cellsF (f : α → List Value) (L : List α) : List Value := L.flatMap f
theorem cellsF_length (hn : ∀ x, (f x).length = n) (L : List α) : (cellsF f L).length = L.length * n := by
  induction L with
  | nil => simp [cellsF]
  | cons x L ih =>
    have : (cellsF f (x :: L)).length = n + (cellsF f L).length := by simp [cellsF, hn]
    rw [this, ih, List.length_cons, Nat.add_mul]
    omega
theorem cellsF_append (L M : List α) : cellsF f (L ++ M) = cellsF f L ++ cellsF f M := by simp [cellsF]
theorem cellsF_one (x : α) : cellsF f [x] = f x := by simp [cellsF]
theorem cellsF_at (hn : ∀ x, (f x).length = n) : ∀ (L : List α) (i : Nat) (x : α) (j : Nat) (v : Value), L[i]? = some x → (f x)[j]? = some v → (cellsF f L)[i * n + j]? = some v
  | [], _, _, _, _, h, _ => by simp at h
  | y :: L, 0, x, j, v, h, hv => by
    simp at h
    subst h
    have hj : j < (f y).length := (List.getElem?_eq_some_iff.1 hv).1
    rw [show cellsF f (y :: L) = f y ++ cellsF f L by simp [cellsF], Nat.zero_mul, Nat.zero_add, List.getElem?_append_left hj]
    exact hv
  | y :: L, i + 1, x, j, v, h, hv => by
    have ih := cellsF_at hn L i x j v (by simpa using h) hv
    have e : (i + 1) * n + j = n + (i * n + j) := by rw [Nat.add_mul]; omega
    rw [show cellsF f (y :: L) = f y ++ cellsF f L by simp [cellsF], e, List.getElem?_append_right (by rw [hn]; omega), hn, Nat.add_sub_cancel_left]
    exact ih
/-- A row of the call's own, as items that lie. -/
theorem own_row {T : TypeId} (hn : ∀ x, (f x).length = n) {base : Nat} {v : Value} (h : w.ownsRow base T n v L.length (cellsF f L)) : ∃ A c, v = .slice A L.length c ∧ L.length ≤ c ∧ c ≤ maxLen ∧ Row n f w w.heap.size A L := by
  rcases h.2 with ⟨rfl, h0⟩ | ⟨g, cap, cur, rfl, hb, hg, hnc, hcm, hcs, htake⟩
  · rw [h0]
    exact ⟨none, 0, rfl, Nat.le_refl _, Nat.zero_le _, fun hl => by omega⟩
  · have hlt : g < w.heap.size := by
      rcases Nat.lt_or_ge g w.heap.size with h1 | h1
      · exact h1
      · rw [Array.getElem?_eq_none h1] at hg; cases hg
    refine ⟨some ⟨g, 0, none⟩, cap, rfl, hnc, hcm, fun _ => ⟨g, 0, rfl, hlt, fun i x hx j u hu => ?_⟩⟩
    have hc := cellsF_at hn L i x j u hx hu
    have hil := (List.getElem?_eq_some_iff.1 hx).1
    have hjl : j < n := by have := (List.getElem?_eq_some_iff.1 hu).1; rw [hn] at this; exact this
    have hk : i * n + j < L.length * n := by
      have : (i + 1) * n ≤ L.length * n := Nat.mul_le_mul_right n hil
      rw [Nat.add_mul] at this
      omega
    have h1 := World.ownsRow.cellAt (g := g) (cap := cap) h (i * n + j) hk
    rw [Nat.zero_add, h1, hc]
/-- A literal row. -/
theorem lit_row (hn : ∀ x, (f x).length = n) (w : World) (T : TypeId) (L : List α) : Row n f (w.alloc (.cells (cellsF f L).toArray T)) (w.heap.size + 1) (some ⟨w.heap.size, 0, none⟩) L :=
  fun _ => ⟨w.heap.size, 0, rfl, by omega, fun i x hx j v hv => by
    rw [(Box.new w T (cellsF f L).toArray).cell, Nat.zero_add]
    simpa using cellsF_at hn L i x j v hx hv⟩
end

/-! ### A row whose cells are stored one by one -/
def setAll (w : World) (g : Nat) : Nat → List Value → World
  | _, [] => w
  | o, v :: vs => setAll (w.setCell ⟨g, o, none⟩ v) g (o + 1) vs
theorem row_stores {T : TypeId} {size n g cap base : Nat} : ∀ (vs : List Value) (w : World) (C R : List Value), w.ownsRow base T size (.slice (some ⟨g, 0, none⟩) n cap) n (C ++ R) → vs.length ≤ R.length →
    (setAll w g C.length vs).ownsRow base T size (.slice (some ⟨g, 0, none⟩) n cap) n (C ++ vs ++ R.drop vs.length) ∧ w.grownBy (setAll w g C.length vs) (some g)
  | [], w, C, R, h, _ => by
    simp only [setAll, List.append_nil, List.length_nil, List.drop_zero]
    exact ⟨h, only_refl _ _⟩
  | v :: vs, w, C, R, h, hl => by
    obtain ⟨r, R, rfl⟩ : ∃ r R', R = r :: R' := by
      cases R with
      | nil => simp at hl
      | cons r R' => exact ⟨r, R', rfl⟩
    obtain ⟨s1, s2⟩ := World.ownsRow.stored h C.length v
    have e : (C ++ r :: R).set C.length v = (C ++ [v]) ++ R := by
      rw [List.set_append_right _ _ (Nat.le_refl _), Nat.sub_self]
      simp
    rw [e] at s1
    have ih := row_stores vs (w.setCell ⟨g, C.length, none⟩ v) (C ++ [v]) R s1 (by simpa using hl)
    rw [show (C ++ [v]).length = C.length + 1 by simp] at ih
    refine ⟨?_, only_trans s2 ih.2 (.inl rfl)⟩
    have e2 : C ++ v :: vs ++ (r :: R).drop (v :: vs).length = C ++ [v] ++ vs ++ R.drop vs.length := by simp
    rw [e2]
    exact ih.1
theorem row_free {T : TypeId} {size n g cap base : Nat} {w : World} {X : List Value} (h : w.ownsRow base T size (.slice (some ⟨g, 0, none⟩) n cap) n X) (j : Nat) (hj : j < n * size) : (∃ v, w.cell? ⟨g, j, none⟩ = some v) ∧ w.frozen? ⟨g, j, none⟩ = false := by
  have h1 := World.ownsRow.cellAt (g := g) (cap := cap) h j hj
  rw [List.getElem?_eq_getElem (by rw [h.1]; exact hj)] at h1
  exact ⟨⟨_, h1⟩, World.ownsRow.frozenAt (g := g) (cap := cap) h j⟩

/-! ### A struct of six cells, one of four -/
section
variable {W : World} {H : Nat} {T : TypeId}
theorem six_cells {c0 c1 c2 c3 c4 c5 : Value} (h : Box W H T #[c0, c1, c2, c3, c4, c5]) : W.cell? ⟨H, 0, none⟩ = some c0 ∧ W.cell? ⟨H, 1, none⟩ = some c1 ∧ W.cell? ⟨H, 2, none⟩ = some c2 ∧ W.cell? ⟨H, 3, none⟩ = some c3 ∧ W.cell? ⟨H, 4, none⟩ = some c4 ∧ W.cell? ⟨H, 5, none⟩ = some c5 := by
  refine ⟨?_, ?_, ?_, ?_, ?_, ?_⟩ <;> (rw [h.cell]; rfl)
theorem four_cells {c0 c1 c2 c3 : Value} (h : Box W H T #[c0, c1, c2, c3]) : W.cell? ⟨H, 0, none⟩ = some c0 ∧ W.cell? ⟨H, 1, none⟩ = some c1 ∧ W.cell? ⟨H, 2, none⟩ = some c2 ∧ W.cell? ⟨H, 3, none⟩ = some c3 := by
  refine ⟨?_, ?_, ?_, ?_⟩ <;> (rw [h.cell]; rfl)
theorem four_free {cs : Array Value} (h : Box W H T cs) : W.frozen? ⟨H, 0, none⟩ = false ∧ W.frozen? ⟨H, 1, none⟩ = false ∧ W.frozen? ⟨H, 2, none⟩ = false ∧ W.frozen? ⟨H, 3, none⟩ = false :=
  ⟨h.free 0, h.free 1, h.free 2, h.free 3⟩
theorem four_box {cs : Array Value} (h : Box W H T cs) (hs : cs.size = 4) (v0 v1 v2 v3 : Value) :
    Box ((((W.setCell ⟨H, 0, none⟩ v0).setCell ⟨H, 1, none⟩ v1).setCell ⟨H, 2, none⟩ v2).setCell ⟨H, 3, none⟩ v3) H T #[v0, v1, v2, v3] := by
  obtain ⟨l⟩ := cs
  match l, hs with
  | [c0, c1, c2, c3], _ => simpa using (((h.set 0 v0).set 1 v1).set 2 v2).set 3 v3
theorem four_only (W : World) (H : Nat) (v0 v1 v2 v3 : Value) :
    W.grownBy ((((W.setCell ⟨H, 0, none⟩ v0).setCell ⟨H, 1, none⟩ v1).setCell ⟨H, 2, none⟩ v2).setCell ⟨H, 3, none⟩ v3) (some H) :=
  only_set (only_set (only_set (only_set (only_refl W (some H)) 0 v0) 1 v1) 2 v2) 3 v3
end

/-! ### Symbols, relocations -/
/-- A symbol. -/
structure Sym where
  name : List UInt8
  bind : Int
  kind : Int
  sect : Int
  value : Nat
  size : Nat
/-- A relocation. -/
structure Rel where
  off : Nat
  sym : Int
  kind : Int
  add : Int
def Sym.cells (x : Sym) : List Value := [.string ⟨x.name.toArray⟩, .int .i64 x.bind, .int .i64 x.kind, .int .i64 x.sect, .int .u64 (x.value : Int), .int .u64 (x.size : Int)]
def Rel.cells (x : Rel) : List Value := [.int .u64 (x.off : Int), .int .i64 x.sym, .int .i64 x.kind, .int .i64 x.add]
theorem sym_six (x : Sym) : x.cells.length = 6 := rfl
theorem rel_four (x : Rel) : x.cells.length = 4 := rfl
abbrev Syms (w : World) (B : Nat) (a : Option Addr) (L : List Sym) : Prop := Row 6 Sym.cells w B a L
abbrev Rels (w : World) (B : Nat) (a : Option Addr) (L : List Rel) : Prop := Row 4 Rel.cells w B a L
abbrev OwnR (w : World) (base : Nat) (v : Value) (L : List Rel) : Prop := w.ownsRow base 53 4 v L.length (cellsF Rel.cells L)
section
variable {w : World} {B : Nat} {a : Option Addr}
/-- The cells of one of them. -/
theorem sym_at {L : List Sym} (h : Syms w B a L) {i : Nat} {x : Sym} (hx : L[i]? = some x) : ∃ b o, a = some ⟨b, o, none⟩ ∧ b < B ∧
    w.cell? ⟨b, o + i * 6, none⟩ = some (.string ⟨x.name.toArray⟩) ∧ w.cell? ⟨b, o + i * 6 + 1, none⟩ = some (.int .i64 x.bind) ∧ w.cell? ⟨b, o + i * 6 + 2, none⟩ = some (.int .i64 x.kind) ∧
    w.cell? ⟨b, o + i * 6 + 3, none⟩ = some (.int .i64 x.sect) ∧ w.cell? ⟨b, o + i * 6 + 4, none⟩ = some (.int .u64 (x.value : Int)) ∧ w.cell? ⟨b, o + i * 6 + 5, none⟩ = some (.int .u64 (x.size : Int)) := by
  have hl : 0 < L.length := by have := (List.getElem?_eq_some_iff.1 hx).1; omega
  obtain ⟨b, o, e, hlt, hc⟩ := h hl
  have h' := hc i x hx
  exact ⟨b, o, e, hlt, h' 0 _ rfl, h' 1 _ rfl, h' 2 _ rfl, h' 3 _ rfl, h' 4 _ rfl, h' 5 _ rfl⟩
theorem rel_at {L : List Rel} (h : Rels w B a L) {i : Nat} {x : Rel} (hx : L[i]? = some x) : ∃ b o, a = some ⟨b, o, none⟩ ∧ b < B ∧
    w.cell? ⟨b, o + i * 4, none⟩ = some (.int .u64 (x.off : Int)) ∧ w.cell? ⟨b, o + i * 4 + 1, none⟩ = some (.int .i64 x.sym) ∧ w.cell? ⟨b, o + i * 4 + 2, none⟩ = some (.int .i64 x.kind) ∧ w.cell? ⟨b, o + i * 4 + 3, none⟩ = some (.int .i64 x.add) := by
  have hl : 0 < L.length := by have := (List.getElem?_eq_some_iff.1 hx).1; omega
  obtain ⟨b, o, e, hlt, hc⟩ := h hl
  have h' := hc i x hx
  exact ⟨b, o, e, hlt, h' 0 _ rfl, h' 1 _ rfl, h' 2 _ rfl, h' 3 _ rfl⟩
end

/-- The first k entries may be read. -/
def okTo (ok : Nat → Bool) (k : Nat) : Bool := (List.range k).all ok
theorem okTo_next (ok : Nat → Bool) (k : Nat) : okTo ok (k + 1) = (okTo ok k && ok k) := by simp [okTo, List.range_succ]
theorem okTo_more {ok : Nat → Bool} {k n : Nat} (hk : k < n) (h : ok k = false) : okTo ok n = false := by
  rw [← Bool.not_eq_true, okTo, List.all_eq_true]
  intro hh
  have := hh k (by simpa using hk)
  rw [h] at this
  cases this
end Go.Proofs.Ytidegcibmdincaa

namespace Go.Proofs.Ytidegcibmdincaa
open Go Go.RowKit

section
end

/-- How many bytes the names have. -/
def sumN (L : List Sym) : Nat := (L.map fun x => x.name.length).sum
theorem sumN_next {L : List Sym} {k : Nat} {x : Sym} (h : L[k]? = some x) : sumN (L.take (k + 1)) = sumN (L.take k) + x.name.length := by
  unfold sumN
  rw [List.take_add_one, h]
  simp

end Go.Proofs.Ytidegcibmdincaa

namespace Go.Proofs.Ytidegcibmdincaa
open Go Go.RowKit

/-! ### Values -/
/-- A place. -/
structure Place where
  obj : Int
  sect : Int
  addr : Nat
/-- A symbol of a map. -/
structure Named where
  name : List UInt8
  addr : Nat
/-- A range of addresses. -/
structure Span where
  lo : Nat
  hi : Nat
def Place.cells (p : Place) : List Value := [.int .i64 p.obj, .int .i64 p.sect, .int .u64 (p.addr : Int)]
def Named.cells (s : Named) : List Value := [.string ⟨s.name.toArray⟩, .int .u64 (s.addr : Int)]
def Span.cells (r : Span) : List Value := [.int .u64 (r.lo : Int), .int .u64 (r.hi : Int)]
theorem place_three (p : Place) : p.cells.length = 3 := rfl
theorem named_two (s : Named) : s.cells.length = 2 := rfl
theorem Place.one (p : Place) : ∀ u ∈ p.cells, u.oneCell' = true := fun u hu => by
  simp only [Place.cells, List.mem_cons, List.not_mem_nil, or_false] at hu
  rcases hu with rfl | rfl | rfl <;> rfl
theorem Named.one (s : Named) : ∀ u ∈ s.cells, u.oneCell' = true := fun u hu => by
  simp only [Named.cells, List.mem_cons, List.not_mem_nil, or_false] at hu
  rcases hu with rfl | rfl <;> rfl
theorem Span.one (r : Span) : ∀ u ∈ r.cells, u.oneCell' = true := fun u hu => by
  simp only [Span.cells, List.mem_cons, List.not_mem_nil, or_false] at hu
  rcases hu with rfl | rfl <;> rfl
theorem Place.ext' {p q : Place} (h1 : p.obj = q.obj) (h2 : p.sect = q.sect) (h3 : p.addr = q.addr) : p = q := by
  cases p; cases q; simp_all
/-- Numbers that the types hold. -/
def Place.Nums (p : Place) : Prop := InI p.obj ∧ InI p.sect ∧ p.addr < two64
def Named.Nums (s : Named) : Prop := s.addr < two64
def Span.Nums (r : Span) : Prop := r.lo < two64 ∧ r.hi < two64

section
variable {w : World} {B : Nat} {a : Option Addr} {i : Nat}
theorem place_at {P : List Place} {p : Place} (h : Row 3 Place.cells w B a P) (hp : P[i]? = some p) : ∃ b o, a = some ⟨b, o, none⟩ ∧ b < B ∧ w.cell? ⟨b, o + i * 3, none⟩ = some (.int .i64 p.obj) ∧ w.cell? ⟨b, o + i * 3 + 1, none⟩ = some (.int .i64 p.sect) ∧ w.cell? ⟨b, o + i * 3 + 2, none⟩ = some (.int .u64 (p.addr : Int)) := by
  have hl : 0 < P.length := by have := (List.getElem?_eq_some_iff.1 hp).1; omega
  obtain ⟨b, o, e, hlt, hc⟩ := h hl
  exact ⟨b, o, e, hlt, hc i p hp 0 _ rfl, hc i p hp 1 _ rfl, hc i p hp 2 _ rfl⟩
theorem named_at {Y : List Named} {s : Named} (h : Row 2 Named.cells w B a Y) (hs : Y[i]? = some s) : ∃ b o, a = some ⟨b, o, none⟩ ∧ b < B ∧ w.cell? ⟨b, o + i * 2, none⟩ = some (.string ⟨s.name.toArray⟩) ∧ w.cell? ⟨b, o + i * 2 + 1, none⟩ = some (.int .u64 (s.addr : Int)) := by
  have hl : 0 < Y.length := by have := (List.getElem?_eq_some_iff.1 hs).1; omega
  obtain ⟨b, o, e, hlt, hc⟩ := h hl
  exact ⟨b, o, e, hlt, hc i s hs 0 _ rfl, hc i s hs 1 _ rfl⟩
end

/-! ### What a map tells -/
/-- The first place from number i on of which p holds. -/
def firstK {α : Type} (p : α → Bool) : Nat → List α → Option Nat
  | _, [] => none
  | i, x :: l => if p x then some i else firstK p (i + 1) l
section
variable {α : Type} {p : α → Bool}
theorem firstK_none : ∀ (l : List α) (i : Nat), l.all (fun y => !(p y)) = true → firstK p i l = none
  | [], _, _ => rfl
  | y :: l, i, ha => by
    simp only [List.all_cons, Bool.and_eq_true, Bool.not_eq_true'] at ha
    simp only [firstK, ha.1]
    simpa using firstK_none l (i + 1) ha.2
theorem firstK_some : ∀ {l : List α} {i k : Nat}, firstK p i l = some (i + k) → ∃ x, l[k]? = some x ∧ p x = true ∧ (l.take k).all (fun y => !(p y)) = true
  | [], _, _, h => by cases h
  | y :: l, i, k, h => by
    unfold firstK at h
    by_cases hp : p y = true
    · rw [if_pos hp] at h
      have : k = 0 := by injection h with h; omega
      subst this
      exact ⟨y, rfl, hp, rfl⟩
    · rw [if_neg hp] at h
      have hk : ∀ {l : List α} {i m : Nat}, firstK p i l = some m → i ≤ m := by
        intro l
        induction l with
        | nil => intro i m h; cases h
        | cons z l ih =>
          intro i m h
          unfold firstK at h
          split at h
          · injection h with h; omega
          · have := ih h; omega
      have h0 := hk h
      obtain ⟨k', rfl⟩ : ∃ k', k = k' + 1 := ⟨k - 1, by omega⟩
      rw [show i + (k' + 1) = i + 1 + k' by omega] at h
      obtain ⟨x, h1, h2, h3⟩ := firstK_some h
      refine ⟨x, by simpa using h1, h2, ?_⟩
      simp only [List.take_succ_cons, List.all_cons, Bool.and_eq_true, Bool.not_eq_true']
      exact ⟨by simpa using hp, h3⟩
end
/-- Is a place that of a section of an object? -/
def hasP (o s : Int) (p : Place) : Bool := decide (p.obj = o) && decide (p.sect = s)
/-- The place of a section of an object. -/
def outK (P : List Place) (o s : Int) : Option Nat := firstK (hasP o s) 0 P
/-- The symbol of a name. -/
def nameK (Y : List Named) (n : List UInt8) : Option Nat := firstK (fun s => decide (s.name = n)) 0 Y

end Go.Proofs.Ytidegcibmdincaa

namespace Go.Proofs.Ytidegcibmdincaa
open Go Go.RowKit

/-- A group. -/
structure Grp where
  place : Nat
  one : Bool
  name : List UInt8
  mem : List Nat

/-- Where the first section of symbols stands; -1. -/
def tabG (S : List Sect) : Int := match S.findIdx? (fun s => s.kind == 2) with
  | some i => (i : Int)
  | none => -1
theorem tabG_none {S : List Sect} (hk : ∀ (j : Nat) (t : Sect), S[j]? = some t → t.kind ≠ 2) : tabG S = -1 := by
  have : S.findIdx? (fun s => s.kind == 2) = none := by
    rw [List.findIdx?_eq_none_iff]
    intro x hx
    obtain ⟨j, hj⟩ := List.getElem?_of_mem hx
    simpa using hk j x hj
  unfold tabG
  rw [this]
section
variable {S : List Sect} {Y : List Sym} {k : Nat} {l : List Grp} {met b : List Bool} {s : Sect}
end
end Go.Proofs.Ytidegcibmdincaa

namespace Go.Proofs.Ytidegcibmdincaa
open Go Go.RowKit

/-- A number within its limit. -/
def inTo (x lim : Int) : Bool := decide (0 ≤ x) && decide (x ≤ lim)
/-- Whether a symbol may be. -/
def okY (s : Sym) : Bool := rightT s.name && (inTo s.bind 15 && (inTo s.kind 15 && inTo s.sect 65534))
def rightY (l : List Sym) : Bool := decide (l.length ≤ 400) && l.all okY

end Go.Proofs.Ytidegcibmdincaa

namespace Go.Proofs.Ytidegcibmdincaa
open Go Go.RowKit

/-- The name of the section of the names. -/
def shstrN : List UInt8 := [46, 115, 104, 115, 116, 114, 116, 97, 98]
/-- The same section? -/
def sameS (x y : Sect) : Bool :=
  decide (x.name = y.name) && (decide (x.kind = y.kind) && (decide (x.flags = y.flags) && (decide (x.addr = y.addr) && (decide (x.data = y.data) && (decide (x.link = y.link) && (decide (x.inf = y.inf) && (decide (x.algn = y.algn) && decide (x.ent = y.ent))))))))
end Go.Proofs.Ytidegcibmdincaa

namespace Go.Proofs.Ytidegcibmdincaa
open Go Go.RowKit

/-! ### Sections that Put makes -/
def symtabN : List UInt8 := [46, 115, 121, 109, 116, 97, 98]
def strtabN : List UInt8 := [46, 115, 116, 114, 116, 97, 98]
/-- A section that Put makes, or that Take refuses. -/
def madeS (s : Sect) : Bool := decide (s.kind = 2) || (decide (s.kind = 4) || (decide (s.kind = 9) || (decide (s.name = symtabN) || (decide (s.name = strtabN) || decide (s.name = shstrN)))))

theorem int_eq_beq (a b : Int) : (a == b) = decide (a = b) := by rw [Bool.eq_iff_iff]; simp
def anyMade (l : List Sect) : Bool := l.any madeS

/-! ### Symbols that stand in sections -/
/-- A symbol's section is none of so many, and no special number. -/
def farY (n : Nat) (x : Sym) : Bool := decide ((n : Int) ≤ x.sect) && decide (x.sect < 65521)
def placedY (L : List Sym) (n : Nat) : Bool := !(L.any (farY n))

end Go.Proofs.Ytidegcibmdincaa

namespace Go.Proofs.Ytidegcibmdincaa
open Go Go.RowKit

def badF (n : Nat) (x : Rel) : Bool := decide (x.sym < 0) || (decide ((n : Int) ≤ x.sym) || (decide (x.kind < 0) || decide (2147483647 < x.kind)))
def fitR (L : List Rel) (n : Nat) : Bool := !(L.any (badF n))

end Go.Proofs.Ytidegcibmdincaa

namespace Go.Proofs.Ytidegcibmdincaa
open Go Go.RowKit

section
variable {P : Program}
end

/-! ### Copies -/
theorem own_empty (w : World) (base : Nat) (hb : base ≤ w.heap.size) (e : TypeId) (size : Nat) : (w.alloc (.cells #[] e)).ownsRow base e size (.slice (some ⟨w.heap.size, 0, none⟩) 0 0) 0 [] :=
  ⟨by simp, .inr ⟨w.heap.size, 0, #[], rfl, hb, heap_alloc_new w _, Nat.le_refl _, Nat.zero_le _, by simp, by simp⟩⟩

theorem eql_nil {t e : TypeId} (h : Try.prog.underlying t = some (.slice e)) (A : Option Addr) (n c : Nat) (W : World) : (binOp .eql t (.slice A n c) (.slice none 0 0)).run Try.prog W = .ok (.bool A.isNone) W := by
  simp only [binOp]
  simp [run_equal_slice_nil W t e A n c h]

set_option maxRecDepth 10000 in
theorem bclone_any {w : World} {B : Nat} {A : Option Addr} {l : List UInt8} (hr : Rd w B A l) (hB : B ≤ w.heap.size) (c : Nat) (hl : l.length ≤ 140737488355328) :
    Calls Try.prog 16 #[.slice A l.length c] w fun r w' => ∃ v', r = .returned v' ∧ Own w' w.heap.size v' l ∧ Below w.heap.size w w' := by
  obtain ⟨i0, hi, hz0, hz1, hz2⟩ := info_parts u8_info
  rcases A with _ | ad
  · have hl0 : l = [] := by
      rcases l with _ | ⟨x, r⟩
      · rfl
      · obtain ⟨b, o, e, _⟩ := hr (by simp)
        cases e
    subst hl0
    have hE := eql_nil Try.underlying22 none
    go_enter Try.func16, Try.ntmps16
    go_wp2_with fail
    go_ret
    exact ⟨_, rfl, World.ownsRow_nil _ _ _ _, Below.refl _ _⟩
  · have HR := Lib.hid (((hr.more hB).alloc (Nat.le_refl _) (.cells #[] 5)))
    have HO := Lib.hid (own_empty w w.heap.size (Nat.le_refl _) 5 1)
    have hbs : w.heap.size ≤ (w.alloc (.cells #[] 5)).heap.size := by simp
    have hsum : ([] : List UInt8).length + l.length ≤ 140737488355328 := by simpa using hl
    have HB := Lib.hid ((Below.refl w.heap.size w).alloc (Nat.le_refl _) (.cells #[] 5))
    have hE := eql_nil Try.underlying22 (some ad)
    clear hr hB hl
    go_enter Try.func16, Try.ntmps16
    go_wp2_with (at_builtin; refine wpList_append_bytes (by rfl) (.tmp 5) (.tmp 6) _ (by rfl) w.heap.size i0 Try.underlying22 hi hz0 hz1 hz2 (.slice (some ⟨w.heap.size, 0, none⟩) 0 0) [] (by rfl) HO.out w.heap.size (some ad) l.length c l rfl (by rfl) HR.out hsum hbs ?_; intro v1 w1 hown1 hg1 hat1)
    go_ret
    exact ⟨_, rfl, hown1, HB.out.grown hg1 (by simp) (by simp [Value.ownBlock])⟩

def cellsL (L : List Lay) : List Value := L.flatMap Lay.cells
theorem cellsL_at : ∀ (L : List Lay) (i : Nat) (x : Lay) (j : Nat) (v : Value), L[i]? = some x → x.cells[j]? = some v → (cellsL L)[i * 9 + j]? = some v
  | [], _, _, _, _, h, _ => by simp at h
  | y :: L, 0, x, j, v, h, hv => by
    simp at h
    subst h
    have hj : j < y.cells.length := (List.getElem?_eq_some_iff.1 hv).1
    rw [show cellsL (y :: L) = y.cells ++ cellsL L from rfl, Nat.zero_mul, Nat.zero_add, List.getElem?_append_left hj]
    exact hv
  | y :: L, i + 1, x, j, v, h, hv => by
    have ih := cellsL_at L i x j v (by simpa using h) hv
    have h9 : y.cells.length = 9 := rfl
    rw [show cellsL (y :: L) = y.cells ++ cellsL L from rfl, List.getElem?_append_right (by omega), h9, show (i + 1) * 9 + j - 9 = i * 9 + j by omega]
    exact ih
theorem cellsL_append (L M : List Lay) : cellsL (L ++ M) = cellsL L ++ cellsL M := by simp [cellsL]
/-- A row of sections of the call's own. -/
abbrev OwnL (w : World) (base : Nat) (v : Value) (L : List Lay) : Prop := w.ownsRow base 48 9 v L.length (cellsL L)
/-- A row of the call's own, as sections that lie. -/
theorem ownl_secs {w : World} {base : Nat} {v : Value} {L : List Lay} (h : OwnL w base v L) (hok : ∀ x ∈ L, x.Ok w w.heap.size) : ∃ A c, v = .slice A L.length c ∧ L.length ≤ c ∧ c ≤ maxLen ∧ Secs w w.heap.size A L := by
  rcases h.2 with ⟨rfl, h0⟩ | ⟨g, cap, cur, rfl, hb, hg, hnc, hcm, hcs, htake⟩
  · rw [h0]
    exact ⟨none, 0, rfl, Nat.le_refl _, Nat.zero_le _, ⟨fun hl => by omega, hok⟩⟩
  · have hlt : g < w.heap.size := by
      rcases Nat.lt_or_ge g w.heap.size with h1 | h1
      · exact h1
      · rw [Array.getElem?_eq_none h1] at hg; cases hg
    refine ⟨some ⟨g, 0, none⟩, cap, rfl, hnc, hcm, ⟨fun _ => ⟨g, 0, rfl, hlt, fun i x hx j u hu => ?_⟩, hok⟩⟩
    have hc := cellsL_at L i x j u hx hu
    have hil := (List.getElem?_eq_some_iff.1 hx).1
    have hjl : j < 9 := (List.getElem?_eq_some_iff.1 hu).1
    have h1 := World.ownsRow.cellAt (g := g) (cap := cap) h (i * 9 + j) (by omega)
    rw [Nat.zero_add, h1, hc]

end Go.Proofs.Ytidegcibmdincaa

namespace Go.Proofs.Ytidegcibmdincaa
open Go Go.RowKit

theorem row_below {w w' : World} {base : Nat} {e : TypeId} {size n : Nat} {v : Value} {xs : List Value} (h : w.ownsRow base e size v n xs) (hb : Below w.heap.size w w') : w'.ownsRow base e size v n xs :=
  row_only h (Only.below (base := 0) (bad := fun _ => False) hb (Nat.zero_le _)) (fun _ _ x => x)
theorem row_base {w : World} {base base' : Nat} {e : TypeId} {size n : Nat} {v : Value} {xs : List Value} (h : w.ownsRow base e size v n xs) (hb : base' ≤ base) : w.ownsRow base' e size v n xs :=
  ⟨h.1, h.2.imp id fun ⟨g, cap, cur, p, q, r⟩ => ⟨g, cap, cur, p, Nat.le_trans hb q, r⟩⟩

end Go.Proofs.Ytidegcibmdincaa

namespace Go.Proofs.Ytidegcibmdincaa
open Go Go.RowKit

/-- The rounds of Take: the row's first k items are there. -/
def RowTo (T : TypeId) (n : Nat) (w : World) (ge q : Nat) (C : List Value) : Prop := ∃ R : List Value, w.ownsRow ge T n (.slice (some ⟨ge, 0, none⟩) q q) q (C ++ R)
theorem RowTo.kept {T : TypeId} {n ge q : Nat} {C : List Value} {w w' : World} {row : Option Nat} (h : RowTo T n w ge q C) (hg : w.grownBy w' row) (hne : some ge ≠ row) : RowTo T n w' ge q C := by
  obtain ⟨R, hR⟩ := h
  exact ⟨R, World.ownsRow.kept (w := w) hR hg (.inr (by simpa [Value.ownBlock] using hne))⟩
theorem RowTo.below {T : TypeId} {n ge q : Nat} {C : List Value} {w w' : World} (h : RowTo T n w ge q C) (hb : Below w.heap.size w w') : RowTo T n w' ge q C := by
  obtain ⟨R, hR⟩ := h
  exact ⟨R, World.ownsRow.kept (w := w) hR (only_below hb none) (.inr (by simp [Value.ownBlock]))⟩
theorem RowTo.free {T : TypeId} {n ge q : Nat} {C : List Value} {w : World} (h : RowTo T n w ge q C) (j : Nat) (hj : j < q * n) : (∃ v, w.cell? ⟨ge, j, none⟩ = some v) ∧ w.frozen? ⟨ge, j, none⟩ = false := by
  obtain ⟨R, hR⟩ := h
  exact row_free hR j hj
theorem RowTo.store {T : TypeId} {n ge q : Nat} {C : List Value} {w : World} (h : RowTo T n w ge q C) (vs : List Value) (hl : C.length + vs.length ≤ q * n) : RowTo T n (setAll w ge C.length vs) ge q (C ++ vs) ∧ w.grownBy (setAll w ge C.length vs) (some ge) := by
  obtain ⟨R, hR⟩ := h
  have hlen := hR.1
  rw [List.length_append] at hlen
  obtain ⟨h1, h2⟩ := row_stores vs w C R hR (by omega)
  exact ⟨⟨_, h1⟩, h2⟩
theorem RowTo.done {T : TypeId} {n ge q base : Nat} {C : List Value} {w : World} (h : RowTo T n w ge q C) (hl : C.length = q * n) (hb : base ≤ ge) : w.ownsRow base T n (.slice (some ⟨ge, 0, none⟩) q q) q C := by
  obtain ⟨R, hR⟩ := h
  have hlen := hR.1
  rw [List.length_append] at hlen
  obtain rfl : R = [] := List.eq_nil_of_length_eq_zero (by omega)
  rw [List.append_nil] at hR
  exact row_base hR hb

section
variable {t ns : List UInt8}
end
theorem below_only {B : Nat} {a b c : World} {g : Nat} (h : Below B a b) (hB : B ≤ a.heap.size) (hg : b.grownBy c (some g)) (hBg : B ≤ g) : Below B a c :=
  h.grown hg (Nat.le_trans hB h.size) (fun x hx => by injection hx with hx; omega)

end Go.Proofs.Ytidegcibmdincaa

namespace Go.Proofs.Ytidegcibmdincaa
open Go Go.RowKit

theorem RowTo.lt {T : TypeId} {n ge q : Nat} {C : List Value} {w : World} (h : RowTo T n w ge q C) : ge < w.heap.size := by
  obtain ⟨R, hR⟩ := h
  exact (hR.lt ge rfl).2
end Go.Proofs.Ytidegcibmdincaa

namespace Go.Proofs.Ytidegcibmdincaa
open Go Go.RowKit

variable {S : List Sect} {p : Int} {n k : Nat} {s : Sect}
/-- Relocations, with where they are. -/
structure RLay where
  a : Option Addr
  c : Nat
  l : List Rel
def RLay.val (x : RLay) : Value := .slice x.a x.l.length x.c
abbrev RowBl (w : World) (base g N : Nat) (h : List Bool) : Prop := w.ownsRow base 4 1 (.slice (some ⟨g, 0, none⟩) N N) N (h.map Value.bool)
abbrev RowQ (w : World) (base g N : Nat) (Q : List RLay) : Prop := w.ownsRow base 51 1 (.slice (some ⟨g, 0, none⟩) N N) N (Q.map RLay.val)
/-- What goes along in the rounds: what was met, the relocations; nothing that was there has turned. -/
structure RelAt (w wr : World) (gm gr N : Nat) (h : List Bool) (Q : List RLay) : Prop where
  met : RowBl wr w.heap.size gm N h
  rel : RowQ wr w.heap.size gr N Q
  own : ∀ q ∈ Q, OwnR wr w.heap.size q.val q.l
  below : Below w.heap.size w wr
variable {w wr w' : World} {gm gr N : Nat} {h : List Bool} {Q : List RLay}
theorem RelAt.later (H : RelAt w wr gm gr N h Q) (hb : Below wr.heap.size wr w') : RelAt w w' gm gr N h Q :=
  ⟨row_below H.met hb, row_below H.rel hb, fun q hq => row_below (H.own q hq) hb, H.below.trans (hb.mono H.below.size)⟩
theorem RelAt.alloc (H : RelAt w wr gm gr N h Q) (o : Obj) : RelAt w (wr.alloc o) gm gr N h Q := H.later ((Below.refl _ _).alloc (Nat.le_refl _) o)
theorem row_lens {T : TypeId} {b n : Nat} {v : Value} {X : List Value} (H : w.ownsRow b T 1 v n X) : X.length = n := by have := H.1; simpa using this
theorem RelAt.lens (H : RelAt w wr gm gr N h Q) : h.length = N ∧ Q.length = N := ⟨by have := row_lens H.met; simpa using this, by have := row_lens H.rel; simpa using this⟩
theorem row_block {T : TypeId} {b n c g : Nat} {X : List Value} (H : w.ownsRow b T 1 (.slice (some ⟨g, 0, none⟩) n c) n X) : b ≤ g ∧ g < w.heap.size ∧ ∃ cs, Box w g T cs := by
  rcases H.2 with ⟨e, _⟩ | ⟨g', cap, cur, e, hb, hg, _⟩
  · cases e
  · injection e with e _ _
    injection e with e
    injection e with e _ _
    subst e
    exact ⟨hb, (Array.getElem?_eq_some_iff.1 hg).1, cur, hg⟩
theorem RelAt.apart (H : RelAt w wr gm gr N h Q) : gm ≠ gr := by
  obtain ⟨_, _, cs, h1⟩ := row_block H.met
  obtain ⟨_, _, cs', h2⟩ := row_block H.rel
  exact Box.other h1 h2 (by decide)
/-- Cells that may be read, and stored. -/
theorem RelAt.cell (H : RelAt w wr gm gr N h Q) {i : Nat} (hi : i < N) : (∃ b, h[i]? = some b ∧ wr.cell? ⟨gm, i, none⟩ = some (.bool b)) ∧ wr.frozen? ⟨gm, i, none⟩ = false ∧ (∃ v, wr.cell? ⟨gr, i, none⟩ = some v) ∧ wr.frozen? ⟨gr, i, none⟩ = false := by
  obtain ⟨l1, l2⟩ := H.lens
  have c1 := World.ownsRow.cellAt (g := gm) (cap := N) H.met i (by omega)
  have c2 := World.ownsRow.cellAt (g := gr) (cap := N) H.rel i (by omega)
  rw [List.getElem?_map] at c1 c2
  refine ⟨⟨h[i]'(by omega), List.getElem?_eq_getElem _, ?_⟩, World.ownsRow.frozenAt (g := gm) (cap := N) H.met i, ⟨(Q[i]'(by omega)).val, ?_⟩, World.ownsRow.frozenAt (g := gr) (cap := N) H.rel i⟩
  · rw [c1, List.getElem?_eq_getElem (by omega)]; rfl
  · rw [c2, List.getElem?_eq_getElem (by omega)]; rfl
/-- Relocations put at a place. -/
theorem RelAt.put (H : RelAt w wr gm gr N h Q) {q : RLay} (hq : OwnR wr w.heap.size q.val q.l) (i : Nat) : RelAt w ((wr.setCell ⟨gm, i, none⟩ (.bool true)).setCell ⟨gr, i, none⟩ q.val) gm gr N (h.set i true) (Q.set i q) := by
  have hB := H.below.size
  obtain ⟨s1, s2⟩ := World.ownsRow.stored H.met i (.bool true)
  have o1 : Only w.heap.size (CellsOf 4) wr _ := row_turns H.met s2 hB
  have r1 := row_only H.rel o1 (fun cs f hh => absurd (show 51 = 4 from hh) (by decide))
  obtain ⟨t1, t2⟩ := World.ownsRow.stored r1 i q.val
  have hB1 := Nat.le_trans hB o1.1.size
  have o2 : Only w.heap.size (CellsOf 51) _ _ := row_turns r1 t2 hB1
  have m2 := row_only s1 o2 (fun cs f hh => absurd (show 4 = 51 from hh) (by decide))
  have hown : ∀ (x : RLay), OwnR wr w.heap.size x.val x.l → OwnR ((wr.setCell ⟨gm, i, none⟩ (.bool true)).setCell ⟨gr, i, none⟩ q.val) w.heap.size x.val x.l := fun x hx =>
    row_only (row_only hx o1 (fun cs f hh => absurd (show 53 = 4 from hh) (by decide))) o2 (fun cs f hh => absurd (show 53 = 51 from hh) (by decide))
  refine ⟨?_, ?_, fun x hx => ?_, H.below.trans (o1.1.trans o2.1)⟩
  · rw [RowBl, List.map_set]; exact m2
  · rw [RowQ, List.map_set]; exact t1
  · rcases List.mem_or_eq_of_mem_set hx with hx | rfl
    · exact hown x (H.own x hx)
    · exact hown _ hq
/-- A row of rows of relocations of the call's own. -/
def OwnQ (w : World) (base : Nat) (v : Value) (R : List (List Rel)) : Prop := ∃ Q : List RLay, Q.map (·.l) = R ∧ w.ownsRow base 51 1 v Q.length (Q.map RLay.val) ∧ ∀ q ∈ Q, OwnR w base q.val q.l
theorem OwnQ.later {base : Nat} {v : Value} {R : List (List Rel)} (H : OwnQ w base v R) (hb : Below w.heap.size w w') : OwnQ w' base v R := by
  obtain ⟨Q, h1, h2, h3⟩ := H
  exact ⟨Q, h1, row_below h2 hb, fun q hq => row_below (h3 q hq) hb⟩
end Go.Proofs.Ytidegcibmdincaa

namespace Go.Proofs.Ytidegcibmdincaa
open Go Go.RowKit

/-- An entry in memory. -/
def EntAt (w : World) (g o : Nat) (ns : List Nat) : Prop := ns.length = 10 ∧ ∀ (j x : Nat), ns[j]? = some x → w.cell? ⟨g, o + j, none⟩ = some (.int .u64 (x : Int))
theorem EntAt.below {w w' : World} {g o B : Nat} {ns : List Nat} (h : EntAt w g o ns) (hb : Below B w w') (hg : g < B) : EntAt w' g o ns :=
  ⟨h.1, fun j x hx => by rw [hb.cell (p := ⟨g, o + j, none⟩) hg]; exact h.2 j x hx⟩
theorem EntAt.lt {w : World} {g o : Nat} {ns : List Nat} (h : EntAt w g o ns) : g < w.heap.size := by
  have h0 : ns[0]? = some (ns[0]'(by rw [h.1]; decide)) := List.getElem?_eq_getElem _
  exact World.block_lt_of_cell? w _ (h.2 0 _ h0)

end Go.Proofs.Ytidegcibmdincaa
