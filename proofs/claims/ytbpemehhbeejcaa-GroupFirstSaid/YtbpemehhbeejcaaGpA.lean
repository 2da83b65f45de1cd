/-
  Groups of sections: what the bytes of an object's groups say, and which sections are left out. No program.
-/
import Derived.Test.YtbpemehhbeejcaaPoX
import Derived.Test.YtbpemehhbeejcaaEhC
import Derived.Test.YtbpemehhbeejcaaPoO
import Derived.Test.YtbpemehhbeejcaaCurN
import Derived.Laws.IdiomStrings
import Derived.Laws.BytesArg
import Derived.Test.YtbpemehhbeejcaaKeep
import Derived.Lib.AppendZerosOnto
import Derived.Test.YtbpemehhbeejcaaParts
import Derived.Laws.ResultCell
import Derived.Stop.BytesEq
import Derived.Laws.Cover3
import Derived.Test.YtbpemehhbeejcaaCsM
import Derived.Lib.BytesEntry
import Derived.Lib.AppendStr
import Derived.Laws.Externs
import Derived.Deep.Slices
import Derived.Shelf.Bytes.SlCountOne
import Derived.Laws.Rows
namespace Go.Proofs.Ytbpemehhbeejcaa
open Go Go.RowKit

/-! ### Items that lie side by side -/
section
variable {α : Type} {n : Nat} {f : α → List Value} {w w' : World} {B B' : Nat} {a : Option Addr} {L : List α}
/-- Items that lie side by side, each of n cells. -/
def Row (n : Nat) (f : α → List Value) (w : World) (B : Nat) (a : Option Addr) (L : List α) : Prop :=
  0 < L.length → ∃ b o, a = some ⟨b, o, none⟩ ∧ b < B ∧ ∀ (i : Nat) (x : α), L[i]? = some x → ∀ (j : Nat) (v : Value), (f x)[j]? = some v → w.cell? ⟨b, o + i * n + j, none⟩ = some v
theorem Row.below (h : Row n f w B a L) (hb : Below B w w') : Row n f w' B a L := fun hl => by
  obtain ⟨b, o, e, hlt, hc⟩ := h hl
  exact ⟨b, o, e, hlt, fun i x hx j v hv => by rw [hb.cell (p := ⟨b, o + i * n + j, none⟩) hlt]; exact hc i x hx j v hv⟩
theorem Row.more (h : Row n f w B a L) (hB : B ≤ B') : Row n f w B' a L := fun hl => by
  obtain ⟨b, o, e, hlt, hc⟩ := h hl
  exact ⟨b, o, e, by omega, hc⟩
theorem Row.drewN (h : Row n f w B a L) (k : Nat) : Row n f (w.drewN k) B a L := h.below (below_drewN (Below.refl _ _) k)
theorem Row.alloc (h : Row n f w B a L) (hB : B ≤ w.heap.size) (o : Obj) : Row n f (w.alloc o) B a L := h.below ((Below.refl _ _).alloc hB o)
theorem Row.up (h : Row n f w w.heap.size a L) (hb : Below w.heap.size w w') : Row n f w' w'.heap.size a L := (h.below hb).more hb.size

/-- The cells of a row of items. -/
def cellsF (f : α → List Value) (L : List α) : List Value := L.flatMap f
theorem cellsF_length (hn : ∀ x, (f x).length = n) (L : List α) : (cellsF f L).length = L.length * n := by
  induction L with
  | nil => simp [cellsF]
  | cons x L ih =>
    have : (cellsF f (x :: L)).length = n + (cellsF f L).length := by simp [cellsF, hn]
    rw [this, ih, List.length_cons, Nat.add_mul]
    omega
theorem cellsF_append (L M : List α) : cellsF f (L ++ M) = cellsF f L ++ cellsF f M := by simp [cellsF]
theorem cellsF_one (x : α) : cellsF f [x] = f x := by simp [cellsF]
theorem cellsF_at (hn : ∀ x, (f x).length = n) : ∀ (L : List α) (i : Nat) (x : α) (j : Nat) (v : Value), L[i]? = some x → (f x)[j]? = some v → (cellsF f L)[i * n + j]? = some v
  | [], _, _, _, _, h, _ => by simp at h
  | y :: L, 0, x, j, v, h, hv => by
    simp at h
    subst h
    have hj : j < (f y).length := (List.getElem?_eq_some_iff.1 hv).1
    rw [show cellsF f (y :: L) = f y ++ cellsF f L by simp [cellsF], Nat.zero_mul, Nat.zero_add, List.getElem?_append_left hj]
    exact hv
  | y :: L, i + 1, x, j, v, h, hv => by
    have ih := cellsF_at hn L i x j v (by simpa using h) hv
    have e : (i + 1) * n + j = n + (i * n + j) := by rw [Nat.add_mul]; omega
    rw [show cellsF f (y :: L) = f y ++ cellsF f L by simp [cellsF], e, List.getElem?_append_right (by rw [hn]; omega), hn, Nat.add_sub_cancel_left]
    exact ih
/-- A row of the call's own, as items that lie. -/
theorem own_row {T : TypeId} (hn : ∀ x, (f x).length = n) {base : Nat} {v : Value} (h : w.ownsRow base T n v L.length (cellsF f L)) : ∃ A c, v = .slice A L.length c ∧ L.length ≤ c ∧ c ≤ maxLen ∧ Row n f w w.heap.size A L := by
  rcases h.2 with ⟨rfl, h0⟩ | ⟨g, cap, cur, rfl, hb, hg, hnc, hcm, hcs, htake⟩
  · rw [h0]
    exact ⟨none, 0, rfl, Nat.le_refl _, Nat.zero_le _, fun hl => by omega⟩
  · have hlt : g < w.heap.size := by
      rcases Nat.lt_or_ge g w.heap.size with h1 | h1
      · exact h1
      · rw [Array.getElem?_eq_none h1] at hg; cases hg
    refine ⟨some ⟨g, 0, none⟩, cap, rfl, hnc, hcm, fun _ => ⟨g, 0, rfl, hlt, fun i x hx j u hu => ?_⟩⟩
    have hc := cellsF_at hn L i x j u hx hu
    have hil := (List.getElem?_eq_some_iff.1 hx).1
    have hjl : j < n := by have := (List.getElem?_eq_some_iff.1 hu).1; rw [hn] at this; exact this
    have hk : i * n + j < L.length * n := by
      have : (i + 1) * n ≤ L.length * n := Nat.mul_le_mul_right n hil
      rw [Nat.add_mul] at this
      omega
    have h1 := World.ownsRow.cellAt (g := g) (cap := cap) h (i * n + j) hk
    rw [Nat.zero_add, h1, hc]
/-- A literal row. -/
theorem lit_row (hn : ∀ x, (f x).length = n) (w : World) (T : TypeId) (L : List α) : Row n f (w.alloc (.cells (cellsF f L).toArray T)) (w.heap.size + 1) (some ⟨w.heap.size, 0, none⟩) L :=
  fun _ => ⟨w.heap.size, 0, rfl, by omega, fun i x hx j v hv => by
    rw [(Box.new w T (cellsF f L).toArray).cell, Nat.zero_add]
    simpa using cellsF_at hn L i x j v hx hv⟩
end

/-! ### A row whose cells are stored one by one -/
def setAll (w : World) (g : Nat) : Nat → List Value → World
  | _, [] => w
  | o, v :: vs => setAll (w.setCell ⟨g, o, none⟩ v) g (o + 1) vs
theorem row_stores {T : TypeId} {size n g cap base : Nat} : ∀ (vs : List Value) (w : World) (C R : List Value), w.ownsRow base T size (.slice (some ⟨g, 0, none⟩) n cap) n (C ++ R) → vs.length ≤ R.length →
    (setAll w g C.length vs).ownsRow base T size (.slice (some ⟨g, 0, none⟩) n cap) n (C ++ vs ++ R.drop vs.length) ∧ w.grownBy (setAll w g C.length vs) (some g)
  | [], w, C, R, h, _ => by
    simp only [setAll, List.append_nil, List.length_nil, List.drop_zero]
    exact ⟨h, only_refl _ _⟩
  | v :: vs, w, C, R, h, hl => by
    obtain ⟨r, R, rfl⟩ : ∃ r R', R = r :: R' := by
      cases R with
      | nil => simp at hl
      | cons r R' => exact ⟨r, R', rfl⟩
    obtain ⟨s1, s2⟩ := World.ownsRow.stored h C.length v
    have e : (C ++ r :: R).set C.length v = (C ++ [v]) ++ R := by
      rw [List.set_append_right _ _ (Nat.le_refl _), Nat.sub_self]
      simp
    rw [e] at s1
    have ih := row_stores vs (w.setCell ⟨g, C.length, none⟩ v) (C ++ [v]) R s1 (by simpa using hl)
    rw [show (C ++ [v]).length = C.length + 1 by simp] at ih
    refine ⟨?_, only_trans s2 ih.2 (.inl rfl)⟩
    have e2 : C ++ v :: vs ++ (r :: R).drop (v :: vs).length = C ++ [v] ++ vs ++ R.drop vs.length := by simp
    rw [e2]
    exact ih.1
theorem row_free {T : TypeId} {size n g cap base : Nat} {w : World} {X : List Value} (h : w.ownsRow base T size (.slice (some ⟨g, 0, none⟩) n cap) n X) (j : Nat) (hj : j < n * size) : (∃ v, w.cell? ⟨g, j, none⟩ = some v) ∧ w.frozen? ⟨g, j, none⟩ = false := by
  have h1 := World.ownsRow.cellAt (g := g) (cap := cap) h j hj
  rw [List.getElem?_eq_getElem (by rw [h.1]; exact hj)] at h1
  exact ⟨⟨_, h1⟩, World.ownsRow.frozenAt (g := g) (cap := cap) h j⟩

/-! ### A struct of six cells, one of four -/
section
variable {W : World} {H : Nat} {T : TypeId}
theorem four_cells {c0 c1 c2 c3 : Value} (h : Box W H T #[c0, c1, c2, c3]) : W.cell? ⟨H, 0, none⟩ = some c0 ∧ W.cell? ⟨H, 1, none⟩ = some c1 ∧ W.cell? ⟨H, 2, none⟩ = some c2 ∧ W.cell? ⟨H, 3, none⟩ = some c3 := by
  refine ⟨?_, ?_, ?_, ?_⟩ <;> (rw [h.cell]; rfl)
end

/-! ### Symbols, relocations -/
/-- A symbol. -/
structure Sym where
  name : List UInt8
  bind : Int
  kind : Int
  sect : Int
  value : Nat
  size : Nat
/-- A relocation. -/
structure Rel where
  off : Nat
  sym : Int
  kind : Int
  add : Int
def Sym.cells (x : Sym) : List Value := [.string ⟨x.name.toArray⟩, .int .i64 x.bind, .int .i64 x.kind, .int .i64 x.sect, .int .u64 (x.value : Int), .int .u64 (x.size : Int)]
def Rel.cells (x : Rel) : List Value := [.int .u64 (x.off : Int), .int .i64 x.sym, .int .i64 x.kind, .int .i64 x.add]
theorem sym_six (x : Sym) : x.cells.length = 6 := rfl
theorem rel_four (x : Rel) : x.cells.length = 4 := rfl
abbrev Syms (w : World) (B : Nat) (a : Option Addr) (L : List Sym) : Prop := Row 6 Sym.cells w B a L
abbrev Rels (w : World) (B : Nat) (a : Option Addr) (L : List Rel) : Prop := Row 4 Rel.cells w B a L
abbrev OwnR (w : World) (base : Nat) (v : Value) (L : List Rel) : Prop := w.ownsRow base 110 4 v L.length (cellsF Rel.cells L)
section
variable {w : World} {B : Nat} {a : Option Addr}
/-- The cells of one of them. -/
theorem sym_at {L : List Sym} (h : Syms w B a L) {i : Nat} {x : Sym} (hx : L[i]? = some x) : ∃ b o, a = some ⟨b, o, none⟩ ∧ b < B ∧
    w.cell? ⟨b, o + i * 6, none⟩ = some (.string ⟨x.name.toArray⟩) ∧ w.cell? ⟨b, o + i * 6 + 1, none⟩ = some (.int .i64 x.bind) ∧ w.cell? ⟨b, o + i * 6 + 2, none⟩ = some (.int .i64 x.kind) ∧
    w.cell? ⟨b, o + i * 6 + 3, none⟩ = some (.int .i64 x.sect) ∧ w.cell? ⟨b, o + i * 6 + 4, none⟩ = some (.int .u64 (x.value : Int)) ∧ w.cell? ⟨b, o + i * 6 + 5, none⟩ = some (.int .u64 (x.size : Int)) := by
  have hl : 0 < L.length := by have := (List.getElem?_eq_some_iff.1 hx).1; omega
  obtain ⟨b, o, e, hlt, hc⟩ := h hl
  have h' := hc i x hx
  exact ⟨b, o, e, hlt, h' 0 _ rfl, h' 1 _ rfl, h' 2 _ rfl, h' 3 _ rfl, h' 4 _ rfl, h' 5 _ rfl⟩
end

/-- The numbers of an entry's bytes. -/
theorem num_lt (l : List UInt8) (f n : Nat) : numT l f n < 256 ^ n := by
  have h := leNat_lt (cutT l f n)
  have h2 : (cutT l f n).length ≤ n := by simp [cutT]; omega
  exact Nat.lt_of_lt_of_le h (Nat.pow_le_pow_right (by decide) h2)
theorem num4 (l : List UInt8) (f : Nat) : numT l f 4 < 4294967296 := num_lt l f 4
end Go.Proofs.Ytbpemehhbeejcaa

namespace Go.Proofs.Ytbpemehhbeejcaa
open Go Go.RowKit

/-- A group. -/
structure Grp where
  place : Nat
  one : Bool
  name : List UInt8
  mem : List Nat

/-- Where the first section of symbols stands; -1. -/
def tabG (S : List Sect) : Int := match S.findIdx? (fun s => s.kind == 2) with
  | some i => (i : Int)
  | none => -1
theorem tabG_at {S : List Sect} {k : Nat} {s : Sect} (hk : ∀ (j : Nat) (t : Sect), j < k → S[j]? = some t → t.kind ≠ 2) (h : S[k]? = some s) (h2 : s.kind = 2) : tabG S = (k : Int) := by
  have hlt : k < S.length := (List.getElem?_eq_some_iff.1 h).1
  have he : S[k] = s := (List.getElem?_eq_some_iff.1 h).2
  have : S.findIdx? (fun s => s.kind == 2) = some k := by
    rw [List.findIdx?_eq_some_iff_getElem]
    refine ⟨hlt, by simp [he, h2], fun j hj => ?_⟩
    have := hk j S[j] hj (List.getElem?_eq_getElem (by omega))
    simpa using this
  unfold tabG
  rw [this]
theorem tabG_none {S : List Sect} (hk : ∀ (j : Nat) (t : Sect), S[j]? = some t → t.kind ≠ 2) : tabG S = -1 := by
  have : S.findIdx? (fun s => s.kind == 2) = none := by
    rw [List.findIdx?_eq_none_iff]
    intro x hx
    obtain ⟨j, hj⟩ := List.getElem?_of_mem hx
    simpa using hk j x hj
  unfold tabG
  rw [this]
theorem tabG_bound (S : List Sect) : -1 ≤ tabG S ∧ tabG S < (S.length : Int) := by
  unfold tabG
  cases h : S.findIdx? (fun s => s.kind == 2) with
  | none => constructor <;> simp <;> omega
  | some i =>
    rw [List.findIdx?_eq_some_iff_getElem] at h
    obtain ⟨h, -⟩ := h
    constructor <;> simp <;> omega

/-- Is the head of a group's section in order: its link, its symbol, its bytes' number, its first number? -/
def headG (S : List Sect) (ny : Nat) (s : Sect) : Bool :=
  decide (0 ≤ tabG S ∧ s.link = tabG S ∧ 0 ≤ s.inf ∧ s.inf < (ny : Int) ∧ s.data.length % 4 = 0 ∧ 8 ≤ s.data.length ∧ numT s.data 0 4 ≤ 1)

/-- The k-th member that the bytes name. -/
def memG (d : List UInt8) (k : Nat) : Nat := numT d (4 * (k + 1)) 4
def memsG (d : List UInt8) (k : Nat) : List Nat := (List.range k).map (memG d)
theorem memsG_succ (d : List UInt8) (k : Nat) : memsG d (k + 1) = memsG d k ++ [memG d k] := by simp [memsG, List.range_succ]
theorem memsG_length (d : List UInt8) (k : Nat) : (memsG d k).length = k := by simp [memsG]
/-- How many members the bytes name. -/
def cntG (d : List UInt8) : Nat := d.length / 4 - 1
/-- May this one be a member, where these were? -/
def badM (n i : Nat) (met : List Bool) (m : Nat) : Bool := decide (m = 0 ∨ n ≤ m ∨ m = i ∨ met[m]? = some true)
/-- The members that were met behind the first k of a group's; none: one of them may not be. -/
def metG (n i : Nat) (d : List UInt8) (met : List Bool) : Nat → Option (List Bool)
  | 0 => some met
  | k + 1 => match metG n i d met k with
    | none => none
    | some b => if badM n i b (memG d k) then none else some (b.set (memG d k) true)
theorem metG_none {n i : Nat} {d : List UInt8} {met : List Bool} {k : Nat} (h : metG n i d met k = none) : ∀ m, k ≤ m → metG n i d met m = none := by
  intro m hm
  obtain ⟨q, rfl⟩ := Nat.le.dest hm
  induction q with
  | zero => exact h
  | succ q ih => rw [← Nat.add_assoc, metG, ih (by omega)]
theorem metG_bad {n i : Nat} {d : List UInt8} {met b : List Bool} {k : Nat} (h : metG n i d met k = some b) (hb : badM n i b (memG d k) = true) {m : Nat} (hm : k < m) : metG n i d met m = none :=
  metG_none (k := k + 1) (by rw [metG, h]; simp [hb]) m hm
theorem metG_next {n i : Nat} {d : List UInt8} {met b : List Bool} {k : Nat} (h : metG n i d met k = some b) (hb : badM n i b (memG d k) = false) : metG n i d met (k + 1) = some (b.set (memG d k) true) := by
  rw [metG, h]; simp [hb]
theorem metG_length {n i : Nat} {d : List UInt8} {met : List Bool} : ∀ {k : Nat} {b : List Bool}, metG n i d met k = some b → b.length = met.length
  | 0, b, h => by rw [metG] at h; cases h; rfl
  | k + 1, b, h => by
    rw [metG] at h
    cases hk : metG n i d met k with
    | none => simp [hk] at h
    | some c =>
      rw [hk] at h
      have ih := metG_length hk
      by_cases hb : badM n i c (memG d k)
      · simp [hb] at h
      · simp [hb] at h
        subst h
        simpa using ih

/-- The group of a section. -/
def grpOf (Y : List Sym) (k : Nat) (s : Sect) : Grp := ⟨k, numT s.data 0 4 == 1, ((Y[s.inf.toNat]?).map (·.name)).getD [], memsG s.data (cntG s.data)⟩
/-- The groups of the first k sections, and what was met; none: refused. -/
def grpS (S : List Sect) (Y : List Sym) : Nat → Option (List Grp × List Bool)
  | 0 => some ([], List.replicate S.length false)
  | k + 1 => match grpS S Y k with
    | none => none
    | some (l, met) => match S[k]? with
      | none => some (l, met)
      | some s => if s.kind ≠ 17 then some (l, met) else if headG S Y.length s then
          match metG S.length k s.data met (cntG s.data) with
          | none => none
          | some b => some (l ++ [grpOf Y k s], b)
        else none
section
variable {S : List Sect} {Y : List Sym} {k : Nat} {l : List Grp} {met b : List Bool} {s : Sect}
theorem grpS_none (h : grpS S Y k = none) : ∀ m, k ≤ m → grpS S Y m = none := by
  intro m hm
  obtain ⟨q, rfl⟩ := Nat.le.dest hm
  induction q with
  | zero => exact h
  | succ q ih => rw [← Nat.add_assoc, grpS, ih (by omega)]
theorem grpS_other (h : grpS S Y k = some (l, met)) (hs : S[k]? = some s) (hk : s.kind ≠ 17) : grpS S Y (k + 1) = some (l, met) := by
  rw [grpS, h]; simp [hs, hk]
theorem grpS_head (h : grpS S Y k = some (l, met)) (hs : S[k]? = some s) (hk : s.kind = 17) (hh : headG S Y.length s = false) {m : Nat} (hm : k < m) : grpS S Y m = none :=
  grpS_none (k := k + 1) (by rw [grpS, h]; simp [hs, hk, hh]) m hm
theorem grpS_bad (h : grpS S Y k = some (l, met)) (hs : S[k]? = some s) (hk : s.kind = 17) (hh : headG S Y.length s = true) (hb : metG S.length k s.data met (cntG s.data) = none) {m : Nat} (hm : k < m) : grpS S Y m = none :=
  grpS_none (k := k + 1) (by rw [grpS, h]; simp [hs, hk, hh, hb]) m hm
theorem grpS_next (h : grpS S Y k = some (l, met)) (hs : S[k]? = some s) (hk : s.kind = 17) (hh : headG S Y.length s = true) (hb : metG S.length k s.data met (cntG s.data) = some b) : grpS S Y (k + 1) = some (l ++ [grpOf Y k s], b) := by
  rw [grpS, h]; simp [hs, hk, hh, hb]
theorem grpS_length : ∀ {k : Nat} {l : List Grp} {met : List Bool}, grpS S Y k = some (l, met) → met.length = S.length ∧ l.length ≤ k
  | 0, l, met, h => by
    rw [grpS] at h
    cases h
    simp
  | k + 1, l, met, h => by
    rw [grpS] at h
    cases hk : grpS S Y k with
    | none => simp [hk] at h
    | some q =>
      obtain ⟨l', m'⟩ := q
      obtain ⟨i1, i2⟩ := grpS_length hk
      rw [hk] at h
      cases hs : S[k]? with
      | none => simp [hs] at h; obtain ⟨rfl, rfl⟩ := h; exact ⟨i1, by omega⟩
      | some s =>
        by_cases h17 : s.kind = 17
        · by_cases hh : headG S Y.length s
          · cases hb : metG S.length k s.data m' (cntG s.data) with
            | none => simp [hs, h17, hh, hb] at h
            | some b =>
              simp [hs, h17, hh, hb] at h
              obtain ⟨rfl, rfl⟩ := h
              exact ⟨(metG_length hb).trans i1, by simp; omega⟩
          · simp [hs, h17, hh] at h
        · simp [hs, h17] at h; obtain ⟨rfl, rfl⟩ := h; exact ⟨i1, by omega⟩
end
/-- An object's groups; none: refused. -/
def grpT (S : List Sect) (Y : List Sym) : Option (List Grp) := (grpS S Y S.length).map (·.1)

/-- What is left out of one object, behind k of its groups, and the names that were met: where these names had been. -/
def leftK (n : Nat) (G : List Grp) (names : List (List UInt8)) : Nat → List (List UInt8) × List Bool
  | 0 => (names, List.replicate n false)
  | k + 1 => match G[k]? with
    | none => leftK n G names k
    | some g => if g.one then ((leftK n G names k).1 ++ [g.name],
        if (leftK n G names k).1.contains g.name then g.mem.foldl (fun b m => b.set m true) (leftK n G names k).2 else (leftK n G names k).2)
      else leftK n G names k
/-- What is left out of objects, one by one; none: refused. -/
def leftS (O : List (List Sect × List Sym)) : Nat → Option (List (List UInt8) × List (List Bool))
  | 0 => some ([], [])
  | k + 1 => match leftS O k with
    | none => none
    | some (names, out) => match O[k]? with
      | none => some (names, out)
      | some (S, Y) => match grpT S Y with
        | none => none
        | some G => some ((leftK S.length G names G.length).1, out ++ [(leftK S.length G names G.length).2])

end Go.Proofs.Ytbpemehhbeejcaa
