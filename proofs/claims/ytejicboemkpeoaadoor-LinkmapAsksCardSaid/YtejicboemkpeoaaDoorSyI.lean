/-
  Package syms: which symbol may not be (wrong), whether symbols may be (Right); the document's Right.
-/
import Derived.Test.YtejicboemkpeoaaDoorSeA
import Derived.Test.YtejicboemkpeoaaDoorEhC
import Derived.Test.YtejicboemkpeoaaDoorEhA
import Derived.Test.YtejicboemkpeoaaDoorKeep
import Derived.Lib.AppendZerosOnto
import Derived.Test.YtejicboemkpeoaaDoorCsL
import Derived.Test.YtejicboemkpeoaaDoorPut
import Derived.Laws.ResultCell
import Derived.Stop.BytesEq
import Derived.Laws.Cover3
import Derived.Test.YtejicboemkpeoaaDoorCsQ
import Derived.Shelf.Bytes.SlCountOne
import Derived.Laws.Rows
import Derived.Test.YtejicboemkpeoaaDoorPoX
import Derived.Test.YtejicboemkpeoaaDoorRefR
import Derived.Lib.SlBytesConst
import Derived.Laws.StructEq
namespace Go.Proofs.YtejicboemkpeoaaDoor
open Go Go.RowKit

theorem ret_two {fn : Func} {p u : Tmp} {T : TypeId} {fs : Array Field} (hT : Tryd.prog.underlying T = some (.struct fs)) (hres : fn.results = #[.cell p T, .tmp u]) {R : Ending → World → Prop} {a : Act} {W : World} {H : Nat} {cs : Array Value} (hB : Box W H T cs) (hcs : (Tryd.prog.info? T).map (·.size) = some cs.size)
    (hp : a.tmps.getD p undef = .pointer (some ⟨H, 0, none⟩)) (hd : a.defers = []) (h : R (.returned (.tuple #[.agg cs, a.tmps.getD u undef])) W) : bodyPost Tryd.prog fn R .ret a W := by
  refine bodyPost_ret (v := .tuple #[.agg cs, a.tmps.getD u undef]) ?_ hd h
  have hl := run_loadVar_row (P := Tryd.prog) W H T T cs (0, 0) _ hB hT rfl hcs
  have hp' : a.tmps[p]?.getD undef = .pointer (some ⟨H, 0, none⟩) := by simpa using hp
  simp only [results, hres]
  simp [Result.andThen, hp', asAddr, hl]
theorem all_take {α : Type} (p : α → Bool) (l : List α) (k : Nat) (x : α) (hx : l[k]? = some x) (h : (l.take k).all p = true) (hp : p x = true) : (l.take (k + 1)).all p = true := by
  rw [List.take_add_one, hx]
  simp only [List.all_append, h, Option.toList, List.all_cons, List.all_nil, hp, Bool.and_self]
theorem all_not {α : Type} (p : α → Bool) (l : List α) (k : Nat) (x : α) (hx : l[k]? = some x) (hp : p x = false) : l.all p = false := by
  rw [List.all_eq_false]
  exact ⟨x, List.mem_of_getElem? hx, by simp [hp]⟩

end Go.Proofs.YtejicboemkpeoaaDoor

namespace Go.Proofs.YtejicboemkpeoaaDoor
open Go Go.RowKit

/-! ### Items that lie side by side -/
section
variable {α : Type} {n : Nat} {f : α → List Value} {w w' : World} {B B' : Nat} {a : Option Addr} {L : List α}
/-- Items that lie side by side, each of n cells. -/
def Row (n : Nat) (f : α → List Value) (w : World) (B : Nat) (a : Option Addr) (L : List α) : Prop :=
  0 < L.length → ∃ b o, a = some ⟨b, o, none⟩ ∧ b < B ∧ ∀ (i : Nat) (x : α), L[i]? = some x → ∀ (j : Nat) (v : Value), (f x)[j]? = some v → w.cell? ⟨b, o + i * n + j, none⟩ = some v
theorem Row.below (h : Row n f w B a L) (hb : Below B w w') : Row n f w' B a L := fun hl => by
  obtain ⟨b, o, e, hlt, hc⟩ := h hl
  exact ⟨b, o, e, hlt, fun i x hx j v hv => by rw [hb.cell (p := ⟨b, o + i * n + j, none⟩) hlt]; exact hc i x hx j v hv⟩
theorem Row.more (h : Row n f w B a L) (hB : B ≤ B') : Row n f w B' a L := fun hl => by
  obtain ⟨b, o, e, hlt, hc⟩ := h hl
  exact ⟨b, o, e, by omega, hc⟩
theorem Row.drewN (h : Row n f w B a L) (k : Nat) : Row n f (w.drewN k) B a L := h.below (below_drewN (Below.refl _ _) k)
theorem Row.alloc (h : Row n f w B a L) (hB : B ≤ w.heap.size) (o : Obj) : Row n f (w.alloc o) B a L := h.below ((Below.refl _ _).alloc hB o)
theorem Row.up (h : Row n f w w.heap.size a L) (hb : Below w.heap.size w w') : Row n f w' w'.heap.size a L := (h.below hb).more hb.size

/-- The cells of a row of items. -/
def cellsF (f : α → List Value) (L : List α) : List Value := L.flatMap f
theorem cellsF_length (hn : ∀ x, (f x).length = n) (L : List α) : (cellsF f L).length = L.length * n := by
  induction L with
  | nil => simp [cellsF]
  | cons x L ih =>
    have : (cellsF f (x :: L)).length = n + (cellsF f L).length := by simp [cellsF, hn]
    rw [this, ih, List.length_cons, Nat.add_mul]
    omega
theorem cellsF_append (L M : List α) : cellsF f (L ++ M) = cellsF f L ++ cellsF f M := by simp [cellsF]
theorem cellsF_one (x : α) : cellsF f [x] = f x := by simp [cellsF]
theorem cellsF_at (hn : ∀ x, (f x).length = n) : ∀ (L : List α) (i : Nat) (x : α) (j : Nat) (v : Value), L[i]? = some x → (f x)[j]? = some v → (cellsF f L)[i * n + j]? = some v
  | [], _, _, _, _, h, _ => by simp at h
  | y :: L, 0, x, j, v, h, hv => by
    simp at h
    subst h
    have hj : j < (f y).length := (List.getElem?_eq_some_iff.1 hv).1
    rw [show cellsF f (y :: L) = f y ++ cellsF f L by simp [cellsF], Nat.zero_mul, Nat.zero_add, List.getElem?_append_left hj]
    exact hv
  | y :: L, i + 1, x, j, v, h, hv => by
    have ih := cellsF_at hn L i x j v (by simpa using h) hv
    have e : (i + 1) * n + j = n + (i * n + j) := by rw [Nat.add_mul]; omega
    rw [show cellsF f (y :: L) = f y ++ cellsF f L by simp [cellsF], e, List.getElem?_append_right (by rw [hn]; omega), hn, Nat.add_sub_cancel_left]
    exact ih
/-- A row of the call's own, as items that lie. -/
theorem own_row {T : TypeId} (hn : ∀ x, (f x).length = n) {base : Nat} {v : Value} (h : w.ownsRow base T n v L.length (cellsF f L)) : ∃ A c, v = .slice A L.length c ∧ L.length ≤ c ∧ c ≤ maxLen ∧ Row n f w w.heap.size A L := by
  rcases h.2 with ⟨rfl, h0⟩ | ⟨g, cap, cur, rfl, hb, hg, hnc, hcm, hcs, htake⟩
  · rw [h0]
    exact ⟨none, 0, rfl, Nat.le_refl _, Nat.zero_le _, fun hl => by omega⟩
  · have hlt : g < w.heap.size := by
      rcases Nat.lt_or_ge g w.heap.size with h1 | h1
      · exact h1
      · rw [Array.getElem?_eq_none h1] at hg; cases hg
    refine ⟨some ⟨g, 0, none⟩, cap, rfl, hnc, hcm, fun _ => ⟨g, 0, rfl, hlt, fun i x hx j u hu => ?_⟩⟩
    have hc := cellsF_at hn L i x j u hx hu
    have hil := (List.getElem?_eq_some_iff.1 hx).1
    have hjl : j < n := by have := (List.getElem?_eq_some_iff.1 hu).1; rw [hn] at this; exact this
    have hk : i * n + j < L.length * n := by
      have : (i + 1) * n ≤ L.length * n := Nat.mul_le_mul_right n hil
      rw [Nat.add_mul] at this
      omega
    have h1 := World.ownsRow.cellAt (g := g) (cap := cap) h (i * n + j) hk
    rw [Nat.zero_add, h1, hc]
/-- A literal row. -/
theorem lit_row (hn : ∀ x, (f x).length = n) (w : World) (T : TypeId) (L : List α) : Row n f (w.alloc (.cells (cellsF f L).toArray T)) (w.heap.size + 1) (some ⟨w.heap.size, 0, none⟩) L :=
  fun _ => ⟨w.heap.size, 0, rfl, by omega, fun i x hx j v hv => by
    rw [(Box.new w T (cellsF f L).toArray).cell, Nat.zero_add]
    simpa using cellsF_at hn L i x j v hx hv⟩
end

theorem row_free {T : TypeId} {size n g cap base : Nat} {w : World} {X : List Value} (h : w.ownsRow base T size (.slice (some ⟨g, 0, none⟩) n cap) n X) (j : Nat) (hj : j < n * size) : (∃ v, w.cell? ⟨g, j, none⟩ = some v) ∧ w.frozen? ⟨g, j, none⟩ = false := by
  have h1 := World.ownsRow.cellAt (g := g) (cap := cap) h j hj
  rw [List.getElem?_eq_getElem (by rw [h.1]; exact hj)] at h1
  exact ⟨⟨_, h1⟩, World.ownsRow.frozenAt (g := g) (cap := cap) h j⟩

/-! ### A struct of six cells, one of four -/
section
variable {W : World} {H : Nat} {T : TypeId}
theorem four_cells {c0 c1 c2 c3 : Value} (h : Box W H T #[c0, c1, c2, c3]) : W.cell? ⟨H, 0, none⟩ = some c0 ∧ W.cell? ⟨H, 1, none⟩ = some c1 ∧ W.cell? ⟨H, 2, none⟩ = some c2 ∧ W.cell? ⟨H, 3, none⟩ = some c3 := by
  refine ⟨?_, ?_, ?_, ?_⟩ <;> (rw [h.cell]; rfl)
theorem four_free {cs : Array Value} (h : Box W H T cs) : W.frozen? ⟨H, 0, none⟩ = false ∧ W.frozen? ⟨H, 1, none⟩ = false ∧ W.frozen? ⟨H, 2, none⟩ = false ∧ W.frozen? ⟨H, 3, none⟩ = false :=
  ⟨h.free 0, h.free 1, h.free 2, h.free 3⟩
theorem four_box {cs : Array Value} (h : Box W H T cs) (hs : cs.size = 4) (v0 v1 v2 v3 : Value) :
    Box ((((W.setCell ⟨H, 0, none⟩ v0).setCell ⟨H, 1, none⟩ v1).setCell ⟨H, 2, none⟩ v2).setCell ⟨H, 3, none⟩ v3) H T #[v0, v1, v2, v3] := by
  obtain ⟨l⟩ := cs
  match l, hs with
  | [c0, c1, c2, c3], _ => simpa using (((h.set 0 v0).set 1 v1).set 2 v2).set 3 v3
theorem four_only (W : World) (H : Nat) (v0 v1 v2 v3 : Value) :
    W.grownBy ((((W.setCell ⟨H, 0, none⟩ v0).setCell ⟨H, 1, none⟩ v1).setCell ⟨H, 2, none⟩ v2).setCell ⟨H, 3, none⟩ v3) (some H) :=
  only_set (only_set (only_set (only_set (only_refl W (some H)) 0 v0) 1 v1) 2 v2) 3 v3
end

/-! ### Symbols, relocations -/
/-- A symbol. -/
structure Sym where
  name : List UInt8
  bind : Int
  kind : Int
  sect : Int
  value : Nat
  size : Nat
/-- A relocation. -/
structure Rel where
  off : Nat
  sym : Int
  kind : Int
  add : Int
def Sym.cells (x : Sym) : List Value := [.string ⟨x.name.toArray⟩, .int .i64 x.bind, .int .i64 x.kind, .int .i64 x.sect, .int .u64 (x.value : Int), .int .u64 (x.size : Int)]
def Rel.cells (x : Rel) : List Value := [.int .u64 (x.off : Int), .int .i64 x.sym, .int .i64 x.kind, .int .i64 x.add]
theorem sym_six (x : Sym) : x.cells.length = 6 := rfl
theorem rel_four (x : Rel) : x.cells.length = 4 := rfl
abbrev Syms (w : World) (B : Nat) (a : Option Addr) (L : List Sym) : Prop := Row 6 Sym.cells w B a L
abbrev Rels (w : World) (B : Nat) (a : Option Addr) (L : List Rel) : Prop := Row 4 Rel.cells w B a L
abbrev OwnR (w : World) (base : Nat) (v : Value) (L : List Rel) : Prop := w.ownsRow base 162 4 v L.length (cellsF Rel.cells L)
section
variable {w : World} {B : Nat} {a : Option Addr}
/-- The cells of one of them. -/
theorem sym_at {L : List Sym} (h : Syms w B a L) {i : Nat} {x : Sym} (hx : L[i]? = some x) : ∃ b o, a = some ⟨b, o, none⟩ ∧ b < B ∧
    w.cell? ⟨b, o + i * 6, none⟩ = some (.string ⟨x.name.toArray⟩) ∧ w.cell? ⟨b, o + i * 6 + 1, none⟩ = some (.int .i64 x.bind) ∧ w.cell? ⟨b, o + i * 6 + 2, none⟩ = some (.int .i64 x.kind) ∧
    w.cell? ⟨b, o + i * 6 + 3, none⟩ = some (.int .i64 x.sect) ∧ w.cell? ⟨b, o + i * 6 + 4, none⟩ = some (.int .u64 (x.value : Int)) ∧ w.cell? ⟨b, o + i * 6 + 5, none⟩ = some (.int .u64 (x.size : Int)) := by
  have hl : 0 < L.length := by have := (List.getElem?_eq_some_iff.1 hx).1; omega
  obtain ⟨b, o, e, hlt, hc⟩ := h hl
  have h' := hc i x hx
  exact ⟨b, o, e, hlt, h' 0 _ rfl, h' 1 _ rfl, h' 2 _ rfl, h' 3 _ rfl, h' 4 _ rfl, h' 5 _ rfl⟩
end

/-- The first k entries may be read. -/
def okTo (ok : Nat → Bool) (k : Nat) : Bool := (List.range k).all ok
theorem okTo_next (ok : Nat → Bool) (k : Nat) : okTo ok (k + 1) = (okTo ok k && ok k) := by simp [okTo, List.range_succ]
theorem okTo_more {ok : Nat → Bool} {k n : Nat} (hk : k < n) (h : ok k = false) : okTo ok n = false := by
  rw [← Bool.not_eq_true, okTo, List.all_eq_true]
  intro hh
  have := hh k (by simpa using hk)
  rw [h] at this
  cases this
end Go.Proofs.YtejicboemkpeoaaDoor

namespace Go.Proofs.YtejicboemkpeoaaDoor
open Go Go.RowKit

/-- All alike, one by one. -/
def alikeL {α : Type} (p : α → α → Bool) (l m : List α) : Bool := decide (l.length = m.length) && (l.zip m).all fun q => p q.1 q.2
theorem alikeL_refl {α : Type} {p : α → α → Bool} (hp : ∀ x, p x x = true) (l : List α) : alikeL p l l = true := by
  unfold alikeL
  rw [Bool.and_eq_true, decide_eq_true_eq, List.all_eq_true]
  refine ⟨rfl, fun q hq => ?_⟩
  have : q.1 = q.2 := by
    obtain ⟨i, hi, e⟩ := List.getElem_of_mem hq
    rw [← e, List.getElem_zip]
  rw [this]
  exact hp _
theorem zip_get {α : Type} {l m : List α} {k : Nat} {x y : α} (hx : l[k]? = some x) (hy : m[k]? = some y) : (l.zip m)[k]? = some (x, y) := by rw [List.getElem?_zip_eq_some]; exact ⟨hx, hy⟩

section
theorem part_u64 (xs : Array Value) (k : Nat) (u : Value) (hx : xs[k]? = some u) (W : World) : (part 41 xs k).run Tryd.prog W = .ok u W := by
  simp only [part, Sem.run_bind, isAgg, run_underlying Tryd.underlying41, Result.andThen_ok, Sem.run_pure]
  simp [hx]
theorem eq_fields {d : Nat} {xs ys : Array Value} {f : Field} {fs : List Field} {W : World} {u v : Value} {b r : Bool} (hn : f.name ≠ "_") (hu : (part f.type xs f.offset).run Tryd.prog W = .ok u W) (hv : (part f.type ys f.offset).run Tryd.prog W = .ok v W)
    (he : (Op.equalIn (d + 1) f.type u v).run Tryd.prog W = .ok b W) (hr : (Op.eqFields (d + 1) xs ys fs).run Tryd.prog W = .ok r W) : (Op.eqFields (d + 1) xs ys (f :: fs)).run Tryd.prog W = .ok (b && r) W := by
  simp only [Op.eqFields, if_pos hn, Sem.run_bind, hu, hv, he, Result.andThen_ok]
  cases b
  · simp
  · simp [hr]
theorem beq_int (a b : Int) : (a == b) = decide (a = b) := by rw [Bool.eq_iff_iff, beq_iff_eq, decide_eq_true_eq]
theorem beq_nat (a b : Nat) : ((a : Int) == (b : Int)) = decide (a = b) := by rw [beq_int]; exact decide_eq_decide.2 (by omega)

end

/-- How many bytes the names have. -/
def sumN (L : List Sym) : Nat := (L.map fun x => x.name.length).sum
theorem sumN_next {L : List Sym} {k : Nat} {x : Sym} (h : L[k]? = some x) : sumN (L.take (k + 1)) = sumN (L.take k) + x.name.length := by
  unfold sumN
  rw [List.take_add_one, h]
  simp

end Go.Proofs.YtejicboemkpeoaaDoor

namespace Go.Proofs.YtejicboemkpeoaaDoor
open Go Go.RowKit

/-! ### Values -/
/-- A place. -/
structure Place where
  obj : Int
  sect : Int
  addr : Nat
/-- A symbol of a map. -/
structure Named where
  name : List UInt8
  addr : Nat
/-- A range of addresses. -/
structure Span where
  lo : Nat
  hi : Nat
def Place.cells (p : Place) : List Value := [.int .i64 p.obj, .int .i64 p.sect, .int .u64 (p.addr : Int)]
def Named.cells (s : Named) : List Value := [.string ⟨s.name.toArray⟩, .int .u64 (s.addr : Int)]
def Span.cells (r : Span) : List Value := [.int .u64 (r.lo : Int), .int .u64 (r.hi : Int)]
/-- A number of eight bytes. -/
def sizC (n : Nat) : List Value := [.int .u64 (n : Int)]
theorem place_three (p : Place) : p.cells.length = 3 := rfl
theorem named_two (s : Named) : s.cells.length = 2 := rfl
theorem span_two (r : Span) : r.cells.length = 2 := rfl
theorem sizC_one (n : Nat) : (sizC n).length = 1 := rfl
theorem Place.one (p : Place) : ∀ u ∈ p.cells, u.oneCell' = true := fun u hu => by
  simp only [Place.cells, List.mem_cons, List.not_mem_nil, or_false] at hu
  rcases hu with rfl | rfl | rfl <;> rfl
theorem Named.one (s : Named) : ∀ u ∈ s.cells, u.oneCell' = true := fun u hu => by
  simp only [Named.cells, List.mem_cons, List.not_mem_nil, or_false] at hu
  rcases hu with rfl | rfl <;> rfl
theorem Span.one (r : Span) : ∀ u ∈ r.cells, u.oneCell' = true := fun u hu => by
  simp only [Span.cells, List.mem_cons, List.not_mem_nil, or_false] at hu
  rcases hu with rfl | rfl <;> rfl
/-- Numbers that the types hold. -/
def Place.Nums (p : Place) : Prop := InI p.obj ∧ InI p.sect ∧ p.addr < two64
def Named.Nums (s : Named) : Prop := s.addr < two64
def Span.Nums (r : Span) : Prop := r.lo < two64 ∧ r.hi < two64

section
variable {w : World} {B : Nat} {a : Option Addr} {i : Nat}
theorem place_at {P : List Place} {p : Place} (h : Row 3 Place.cells w B a P) (hp : P[i]? = some p) : ∃ b o, a = some ⟨b, o, none⟩ ∧ b < B ∧ w.cell? ⟨b, o + i * 3, none⟩ = some (.int .i64 p.obj) ∧ w.cell? ⟨b, o + i * 3 + 1, none⟩ = some (.int .i64 p.sect) ∧ w.cell? ⟨b, o + i * 3 + 2, none⟩ = some (.int .u64 (p.addr : Int)) := by
  have hl : 0 < P.length := by have := (List.getElem?_eq_some_iff.1 hp).1; omega
  obtain ⟨b, o, e, hlt, hc⟩ := h hl
  exact ⟨b, o, e, hlt, hc i p hp 0 _ rfl, hc i p hp 1 _ rfl, hc i p hp 2 _ rfl⟩
theorem named_at {Y : List Named} {s : Named} (h : Row 2 Named.cells w B a Y) (hs : Y[i]? = some s) : ∃ b o, a = some ⟨b, o, none⟩ ∧ b < B ∧ w.cell? ⟨b, o + i * 2, none⟩ = some (.string ⟨s.name.toArray⟩) ∧ w.cell? ⟨b, o + i * 2 + 1, none⟩ = some (.int .u64 (s.addr : Int)) := by
  have hl : 0 < Y.length := by have := (List.getElem?_eq_some_iff.1 hs).1; omega
  obtain ⟨b, o, e, hlt, hc⟩ := h hl
  exact ⟨b, o, e, hlt, hc i s hs 0 _ rfl, hc i s hs 1 _ rfl⟩
theorem span_at {R : List Span} {r : Span} (h : Row 2 Span.cells w B a R) (hr : R[i]? = some r) : ∃ b o, a = some ⟨b, o, none⟩ ∧ b < B ∧ w.cell? ⟨b, o + i * 2, none⟩ = some (.int .u64 (r.lo : Int)) ∧ w.cell? ⟨b, o + i * 2 + 1, none⟩ = some (.int .u64 (r.hi : Int)) := by
  have hl : 0 < R.length := by have := (List.getElem?_eq_some_iff.1 hr).1; omega
  obtain ⟨b, o, e, hlt, hc⟩ := h hl
  exact ⟨b, o, e, hlt, hc i r hr 0 _ rfl, hc i r hr 1 _ rfl⟩
theorem size_at {S : List Nat} {n : Nat} (h : Row 1 sizC w B a S) (hn : S[i]? = some n) : ∃ b o, a = some ⟨b, o, none⟩ ∧ b < B ∧ w.cell? ⟨b, o + i, none⟩ = some (.int .u64 (n : Int)) := by
  have hl : 0 < S.length := by have := (List.getElem?_eq_some_iff.1 hn).1; omega
  obtain ⟨b, o, e, hlt, hc⟩ := h hl
  exact ⟨b, o, e, hlt, by have := hc i n hn 0 _ rfl; simpa using this⟩
end

/-! ### What a map tells -/
/-- The first place from number i on of which p holds. -/
def firstK {α : Type} (p : α → Bool) : Nat → List α → Option Nat
  | _, [] => none
  | i, x :: l => if p x then some i else firstK p (i + 1) l
section
variable {α : Type} {p : α → Bool}
theorem firstK_take : ∀ (l : List α) (i k : Nat) (x : α), l[k]? = some x → (l.take k).all (fun y => !(p y)) = true → p x = true → firstK p i l = some (i + k)
  | [], _, _, _, h, _, _ => by simp at h
  | y :: l, i, 0, x, h, _, hp => by
    simp at h
    subst h
    simp [firstK, hp]
  | y :: l, i, k + 1, x, h, ha, hp => by
    simp only [List.take_succ_cons, List.all_cons, Bool.and_eq_true, Bool.not_eq_true'] at ha
    simp only [firstK, ha.1]
    have := firstK_take l (i + 1) k x (by simpa using h) ha.2 hp
    rw [show i + 1 + k = i + (k + 1) by omega] at this
    simpa using this
theorem firstK_none : ∀ (l : List α) (i : Nat), l.all (fun y => !(p y)) = true → firstK p i l = none
  | [], _, _ => rfl
  | y :: l, i, ha => by
    simp only [List.all_cons, Bool.and_eq_true, Bool.not_eq_true'] at ha
    simp only [firstK, ha.1]
    simpa using firstK_none l (i + 1) ha.2
theorem firstK_some : ∀ {l : List α} {i k : Nat}, firstK p i l = some (i + k) → ∃ x, l[k]? = some x ∧ p x = true ∧ (l.take k).all (fun y => !(p y)) = true
  | [], _, _, h => by cases h
  | y :: l, i, k, h => by
    unfold firstK at h
    by_cases hp : p y = true
    · rw [if_pos hp] at h
      have : k = 0 := by injection h with h; omega
      subst this
      exact ⟨y, rfl, hp, rfl⟩
    · rw [if_neg hp] at h
      have hk : ∀ {l : List α} {i m : Nat}, firstK p i l = some m → i ≤ m := by
        intro l
        induction l with
        | nil => intro i m h; cases h
        | cons z l ih =>
          intro i m h
          unfold firstK at h
          split at h
          · injection h with h; omega
          · have := ih h; omega
      have h0 := hk h
      obtain ⟨k', rfl⟩ : ∃ k', k = k' + 1 := ⟨k - 1, by omega⟩
      rw [show i + (k' + 1) = i + 1 + k' by omega] at h
      obtain ⟨x, h1, h2, h3⟩ := firstK_some h
      refine ⟨x, by simpa using h1, h2, ?_⟩
      simp only [List.take_succ_cons, List.all_cons, Bool.and_eq_true, Bool.not_eq_true']
      exact ⟨by simpa using hp, h3⟩
theorem all_next {l : List α} {k : Nat} {x : α} {q : α → Bool} (h : (l.take k).all q = true) (hx : l[k]? = some x) (hq : q x = true) : (l.take (k + 1)).all q = true := by
  obtain ⟨hk, rfl⟩ := List.getElem?_eq_some_iff.1 hx
  rw [List.take_succ_eq_append_getElem hk, List.all_append, h]
  simpa using hq
end
/-- Is a place that of a section of an object? -/
def hasP (o s : Int) (p : Place) : Bool := decide (p.obj = o) && decide (p.sect = s)
/-- The place of a section of an object. -/
def outK (P : List Place) (o s : Int) : Option Nat := firstK (hasP o s) 0 P
/-- Is an address in the image of a place whose section has so many bytes? -/
def inQ (a : Nat) (q : Place × Nat) : Bool := decide (q.1.addr ≤ a) && decide (a - q.1.addr < q.2)
/-- The place whose image has an address. -/
def inK (P : List Place) (S : List Nat) (a : Nat) : Option Nat := firstK (inQ a) 0 (P.zip S)
/-- The symbol of a name. -/
def nameK (Y : List Named) (n : List UInt8) : Option Nat := firstK (fun s => decide (s.name = n)) 0 Y

end Go.Proofs.YtejicboemkpeoaaDoor

namespace Go.Proofs.YtejicboemkpeoaaDoor
open Go Go.RowKit

/-- The same? -/
def sameG (x y : Span) : Bool := decide (x.lo = y.lo) && (decide (x.hi = y.hi))
theorem sameG_refl (x : Span) : sameG x x = true := by simp [sameG]
section
theorem eqFields_span (x y : Span) (W : World) (d : Nat) : (Op.eqFields (d + 1) x.cells.toArray y.cells.toArray (Tryd.prog.fieldsOf 58).toList).run Tryd.prog W = .ok (sameG x y) W := by
  have h0 := run_equalIn_int (P := Tryd.prog) W d 41 .u64 .u64 (x.lo : Int) (y.lo : Int) Tryd.underlying41
  have h1 := run_equalIn_int (P := Tryd.prog) W d 41 .u64 .u64 (x.hi : Int) (y.hi : Int) Tryd.underlying41
  rw [beq_nat] at h0
  rw [beq_nat] at h1
  have hf : ∀ (i : Nat) (f : Field), (Tryd.prog.fieldsOf 58).toList[i]? = some f → f.name ≠ "_" ∧ f.offset = i ∧ [41, 41][i]? = some f.type := by
    simp only [Program.fieldsOf, Tryd.underlying58]
    intro i f hf
    have hi := (List.getElem?_eq_some_iff.1 hf).1
    simp only [List.length_cons, List.length_nil] at hi
    match i, hi with
    | 0, _ | 1, _ =>
      injection hf with hf
      subst hf
      exact ⟨by decide, rfl, rfl⟩
  have hl : (Tryd.prog.fieldsOf 58).toList.length = 2 := by simp only [Program.fieldsOf, Tryd.underlying58]; rfl
  generalize (Tryd.prog.fieldsOf 58).toList = fs at *
  obtain ⟨f0, f1, rfl⟩ : ∃ f0 f1, fs = [f0, f1] := by
    match fs, hl with
    | [f0, f1], _ => exact ⟨f0, f1, rfl⟩
  obtain ⟨n0, o0, t0⟩ := hf 0 _ rfl
  obtain ⟨n1, o1, t1⟩ := hf 1 _ rfl
  have t0 : f0.type = 41 := (Option.some.inj (show some 41 = some f0.type from t0)).symm
  have t1 : f1.type = 41 := (Option.some.inj (show some 41 = some f1.type from t1)).symm
  have key := eq_fields (xs := x.cells.toArray) (ys := y.cells.toArray) n0 (by rw [t0, o0]; exact part_u64 _ 0 _ rfl W) (by rw [t0, o0]; exact part_u64 _ 0 _ rfl W) (by rw [t0]; exact h0)
    (eq_fields n1 (by rw [t1, o1]; exact part_u64 _ 1 _ rfl W) (by rw [t1, o1]; exact part_u64 _ 1 _ rfl W) (by rw [t1]; exact h1) (fs := []) (r := true) rfl)
  rw [key]
  unfold sameG
  simp only [Bool.and_true]
theorem neq_span (x y : Span) (W : World) : (binOp .neq 58 (.agg x.cells.toArray) (.agg y.cells.toArray)).run Tryd.prog W = .ok (.bool (!(sameG x y))) W := by
  rw [run_neq_struct, run_equalIn_agg W 9999 _ _ _ (by kernel_rfl) (by kernel_rfl), eqFields_span x y W 9998]
  rfl
end

end Go.Proofs.YtejicboemkpeoaaDoor

namespace Go.Proofs.YtejicboemkpeoaaDoor

/-! ### Digits -/
/-- A digit's byte. -/
def digC (d : Nat) : UInt8 := if d < 10 then UInt8.ofNat (48 + d) else UInt8.ofNat (87 + d)
/-- A number in a base. -/
def digB (b n : Nat) : List UInt8 := if _h : b ≤ n ∧ 2 ≤ b then digB b (n / b) ++ [digC (n % b)] else [digC n]
termination_by n
decreasing_by exact Nat.div_lt_self (by omega) (by omega)
theorem digB_low {b n : Nat} (h : n < b) : digB b n = [digC n] := by rw [digB, dif_neg (by omega)]
theorem digB_next {b n : Nat} (h : b ≤ n) (hb : 2 ≤ b) : digB b n = digB b (n / b) ++ [digC (n % b)] := by rw [digB, dif_pos ⟨h, hb⟩]
theorem digB_ne (b n : Nat) : digB b n ≠ [] := by
  rw [digB]
  split <;> simp
theorem digB_len {b : Nat} (h2 : 2 ≤ b) : ∀ (k n : Nat), n < b ^ (k + 1) → (digB b n).length ≤ k + 1
  | 0, n, h => by
    rw [digB_low (by simpa using h)]
    simp
  | k + 1, n, h => by
    rcases Nat.lt_or_ge n b with hb | hb
    · rw [digB_low hb]
      simp
    · rw [digB_next hb h2]
      have := digB_len h2 k (n / b) (by
        rw [Nat.div_lt_iff_lt_mul (by omega)]
        rwa [← Nat.pow_succ])
      simp
      omega
/-- A whole number in decimal. -/
def decB (z : Int) : List UInt8 := if z < 0 then 45 :: digB 10 z.natAbs else digB 10 z.toNat

end Go.Proofs.YtejicboemkpeoaaDoor

namespace Go.Proofs.YtejicboemkpeoaaDoor
open Go Go.RowKit

/-- A number within its limit. -/
def inTo (x lim : Int) : Bool := decide (0 ≤ x) && decide (x ≤ lim)
/-- Whether a symbol may be. -/
def okY (s : Sym) : Bool := rightT s.name && (inTo s.bind 15 && (inTo s.kind 15 && inTo s.sect 65534))
def rightY (l : List Sym) : Bool := decide (l.length ≤ 400) && l.all okY

end Go.Proofs.YtejicboemkpeoaaDoor
