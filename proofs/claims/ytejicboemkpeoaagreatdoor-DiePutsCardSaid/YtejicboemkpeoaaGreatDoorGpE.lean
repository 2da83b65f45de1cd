/-
  Where the section of symbols stands: the program's search, by a function of its own, and the document's.
-/
import Derived.Test.YtejicboemkpeoaaGreatDoorSeR
import Derived.Test.YtejicboemkpeoaaGreatDoorSeV
import Derived.Test.YtejicboemkpeoaaGreatDoorEhL
import Derived.Test.YtejicboemkpeoaaGreatDoorCopyB
import Derived.Test.YtejicboemkpeoaaGreatDoorCurN
import Derived.Test.YtejicboemkpeoaaGreatDoorLawA
import Derived.Test.YtejicboemkpeoaaGreatDoorSyA
import Derived.Test.YtejicboemkpeoaaGreatDoorCsA
import Derived.Test.YtejicboemkpeoaaGreatDoorCsQ
import Derived.Test.YtejicboemkpeoaaGreatDoorRefR
import Derived.Test.YtejicboemkpeoaaGreatDoorCsL
import Derived.Lib.SlBytesConst
import Derived.Laws.StructEq
import Derived.Test.YtejicboemkpeoaaGreatDoorPoO
namespace Go.Proofs.YtejicboemkpeoaaGreatDoor
open Go Go.RowKit

/-! ### Objects in memory -/
def RLay.cells1 (q : RLay) : List Value := [q.val]
/-- Rows of relocations that lie side by side. -/
structure Lists (w : World) (B : Nat) (a : Option Addr) (Q : List RLay) : Prop where
  row : Row 1 RLay.cells1 w B a Q
  rels : ∀ q ∈ Q, Rels w B q.a q.l
theorem Lists.below {w w' : World} {B : Nat} {a : Option Addr} {Q : List RLay} (h : Lists w B a Q) (hb : Below B w w') : Lists w' B a Q := ⟨h.row.below hb, fun q hq => (h.rels q hq).below hb⟩
theorem Lists.more {w : World} {B B' : Nat} {a : Option Addr} {Q : List RLay} (h : Lists w B a Q) (hB : B ≤ B') : Lists w B' a Q := ⟨h.row.more hB, fun q hq => (h.rels q hq).more hB⟩
/-- One of the rows: its value where it lies. -/
theorem Lists.at_ {w : World} {B : Nat} {a : Option Addr} {Q : List RLay} (h : Lists w B a Q) {i : Nat} {q : RLay} (hq : Q[i]? = some q) : ∃ b o, a = some ⟨b, o, none⟩ ∧ b < B ∧ w.cell? ⟨b, o + i, none⟩ = some (.slice q.a q.l.length q.c) := by
  have hl : 0 < Q.length := by have := (List.getElem?_eq_some_iff.1 hq).1; omega
  obtain ⟨b, o, e, hlt, hc⟩ := h.row hl
  have := hc i q hq 0 _ rfl
  rw [Nat.mul_one, Nat.add_zero] at this
  exact ⟨b, o, e, hlt, this⟩
/-- An object, with where its rows are. -/
structure ObjV where
  kind : Int
  machine : Int
  aS : Option Addr
  cS : Nat
  L : List Lay
  aY : Option Addr
  cY : Nat
  Y : List Sym
  aR : Option Addr
  cR : Nat
  Q : List RLay
def ObjV.cells (o : ObjV) : List Value := [.int .i64 o.kind, .int .i64 o.machine, .slice o.aS o.L.length o.cS, .slice o.aY o.Y.length o.cY, .slice o.aR o.Q.length o.cR]
def ObjV.val (o : ObjV) : Value := .agg o.cells.toArray
structure ObjV.Ok (w : World) (B : Nat) (o : ObjV) : Prop where
  secs : Secs w B o.aS o.L
  syms : Syms w B o.aY o.Y
  lists : Lists w B o.aR o.Q
  capS : o.L.length ≤ o.cS
  capR : o.Q.length ≤ o.cR
theorem ObjV.Ok.below {w w' : World} {B : Nat} {o : ObjV} (h : o.Ok w B) (hb : Below B w w') : o.Ok w' B := ⟨h.secs.below hb, Row.below h.syms hb, h.lists.below hb, h.capS, h.capR⟩
theorem ObjV.Ok.more {w : World} {B B' : Nat} {o : ObjV} (h : o.Ok w B) (hB : B ≤ B') : o.Ok w B' := ⟨h.secs.more hB, Row.more h.syms hB, h.lists.more hB, h.capS, h.capR⟩
/-! ### A struct of five cells -/
section
variable {W : World} {H : Nat} {T : TypeId}
end

end Go.Proofs.YtejicboemkpeoaaGreatDoor

namespace Go.Proofs.YtejicboemkpeoaaGreatDoor
open Go Go.RowKit

/-! ### Groups that lie side by side -/
/-- A group, with where its members are. -/
structure GLay where
  g : Grp
  a : Option Addr
  c : Nat
def GLay.cells (x : GLay) : List Value := [.int .i64 (x.g.place : Int), .bool x.g.one, .string ⟨x.g.name.toArray⟩, .slice x.a x.g.mem.length x.c]
def memC (m : Nat) : List Value := [.int .i64 (m : Int)]
theorem mem_map (M : List Nat) : cellsF memC M = M.map fun m : Nat => (.int .i64 (m : Int) : Value) := by
  induction M with
  | nil => rfl
  | cons m M ih => simp only [cellsF, List.flatMap_cons, List.map_cons] at ih ⊢; rw [ih]; rfl
/-- Members that lie side by side. -/
abbrev Mems (w : World) (B : Nat) (a : Option Addr) (M : List Nat) : Prop := Row 1 memC w B a M
/-- A row of members of the call's own. -/
abbrev OwnM (w : World) (base : Nat) (v : Value) (M : List Nat) : Prop := w.ownsRow base 3 1 v M.length (cellsF memC M)
structure GLay.Ok (w : World) (B : Nat) (x : GLay) : Prop where
  mem : Mems w B x.a x.g.mem
  cap : x.g.mem.length ≤ x.c
  max : x.c ≤ maxLen
structure Grps (w : World) (B : Nat) (a : Option Addr) (L : List GLay) : Prop where
  row : Row 4 GLay.cells w B a L
  ok : ∀ x ∈ L, x.Ok w B
section
variable {w w' : World} {B B' : Nat} {a : Option Addr} {L : List GLay} {x : GLay}
theorem GLay.Ok.below (h : x.Ok w B) (hb : Below B w w') : x.Ok w' B := ⟨Row.below h.mem hb, h.cap, h.max⟩
theorem GLay.Ok.more (h : x.Ok w B) (hB : B ≤ B') : x.Ok w B' := ⟨Row.more h.mem hB, h.cap, h.max⟩
theorem Grps.below (h : Grps w B a L) (hb : Below B w w') : Grps w' B a L := ⟨h.row.below hb, fun x hx => (h.ok x hx).below hb⟩
theorem Grps.more (h : Grps w B a L) (hB : B ≤ B') : Grps w B' a L := ⟨h.row.more hB, fun x hx => (h.ok x hx).more hB⟩
theorem Grps.up (h : Grps w w.heap.size a L) (hb : Below w.heap.size w w') : Grps w' w'.heap.size a L := (h.below hb).more hb.size
/-- One of the groups: its cells where it lies. -/
theorem Grps.at_ (h : Grps w B a L) {i : Nat} (hx : L[i]? = some x) : ∃ b o, a = some ⟨b, o, none⟩ ∧ b < B ∧ w.cell? ⟨b, o + i * 4, none⟩ = some (.int .i64 (x.g.place : Int)) ∧ w.cell? ⟨b, o + i * 4 + 1, none⟩ = some (.bool x.g.one) ∧
    w.cell? ⟨b, o + i * 4 + 2, none⟩ = some (.string ⟨x.g.name.toArray⟩) ∧ w.cell? ⟨b, o + i * 4 + 3, none⟩ = some (.slice x.a x.g.mem.length x.c) := by
  have hl : 0 < L.length := by have := (List.getElem?_eq_some_iff.1 hx).1; omega
  obtain ⟨b, o, e, hlt, hc⟩ := h.row hl
  exact ⟨b, o, e, hlt, hc i x hx 0 _ rfl, hc i x hx 1 _ rfl, hc i x hx 2 _ rfl, hc i x hx 3 _ rfl⟩
/-- One of the members: where it lies. -/
theorem Mems.at_ {M : List Nat} (h : Mems w B a M) {i m : Nat} (hm : M[i]? = some m) : ∃ b o, a = some ⟨b, o, none⟩ ∧ b < B ∧ w.cell? ⟨b, o + i, none⟩ = some (.int .i64 (m : Int)) := by
  have hl : 0 < M.length := by have := (List.getElem?_eq_some_iff.1 hm).1; omega
  obtain ⟨b, o, e, hlt, hc⟩ := h hl
  have := hc i m hm 0 _ rfl
  rw [Nat.mul_one, Nat.add_zero] at this
  exact ⟨b, o, e, hlt, this⟩
end
/-- A row of groups of the call's own, their members too. -/
def OwnG (T : TypeId) (w : World) (base : Nat) (v : Value) (R : List Grp) : Prop := ∃ L : List GLay, L.map (·.g) = R ∧ w.ownsRow base T 4 v L.length (cellsF GLay.cells L) ∧ ∀ x ∈ L, OwnM w base (.slice x.a x.g.mem.length x.c) x.g.mem
section
variable {T : TypeId} {w w' : World} {base base' : Nat} {v : Value} {R : List Grp}
theorem OwnG.later (H : OwnG T w base v R) (hb : Below w.heap.size w w') : OwnG T w' base v R := by
  obtain ⟨L, h1, h2, h3⟩ := H
  exact ⟨L, h1, row_below h2 hb, fun q hq => row_below (h3 q hq) hb⟩
end

/-! ### Rows of rows of truths -/
/-- A row of truths, with where it is. -/
structure BLay where
  a : Option Addr
  c : Nat
  l : List Bool
def BLay.val (q : BLay) : Value := .slice q.a q.l.length q.c
def BLay.cells1 (q : BLay) : List Value := [q.val]
def boolC (b : Bool) : List Value := [.bool b]
theorem bool_map (M : List Bool) : cellsF boolC M = M.map Value.bool := by
  induction M with
  | nil => rfl
  | cons m M ih => simp only [cellsF, List.flatMap_cons, List.map_cons] at ih ⊢; rw [ih]; rfl
abbrev Truths (w : World) (B : Nat) (a : Option Addr) (M : List Bool) : Prop := Row 1 boolC w B a M
abbrev OwnB (w : World) (base : Nat) (v : Value) (M : List Bool) : Prop := w.ownsRow base 4 1 v M.length (cellsF boolC M)
structure BRows (w : World) (B : Nat) (a : Option Addr) (Q : List BLay) : Prop where
  row : Row 1 BLay.cells1 w B a Q
  ok : ∀ q ∈ Q, Truths w B q.a q.l
section
variable {w w' : World} {B B' : Nat} {a : Option Addr} {Q : List BLay}
theorem BRows.below (h : BRows w B a Q) (hb : Below B w w') : BRows w' B a Q := ⟨h.row.below hb, fun q hq => Row.below (h.ok q hq) hb⟩
theorem BRows.more (h : BRows w B a Q) (hB : B ≤ B') : BRows w B' a Q := ⟨h.row.more hB, fun q hq => Row.more (h.ok q hq) hB⟩
theorem BRows.up (h : BRows w w.heap.size a Q) (hb : Below w.heap.size w w') : BRows w' w'.heap.size a Q := (h.below hb).more hb.size
theorem BRows.at_ (h : BRows w B a Q) {i : Nat} {q : BLay} (hq : Q[i]? = some q) : ∃ b o, a = some ⟨b, o, none⟩ ∧ b < B ∧ w.cell? ⟨b, o + i, none⟩ = some (.slice q.a q.l.length q.c) := by
  have hl : 0 < Q.length := by have := (List.getElem?_eq_some_iff.1 hq).1; omega
  obtain ⟨b, o, e, hlt, hc⟩ := h.row hl
  have := hc i q hq 0 _ rfl
  rw [Nat.mul_one, Nat.add_zero] at this
  exact ⟨b, o, e, hlt, this⟩
theorem Truths.at_ {M : List Bool} (h : Truths w B a M) {i : Nat} {m : Bool} (hm : M[i]? = some m) : ∃ b o, a = some ⟨b, o, none⟩ ∧ b < B ∧ w.cell? ⟨b, o + i, none⟩ = some (.bool m) := by
  have hl : 0 < M.length := by have := (List.getElem?_eq_some_iff.1 hm).1; omega
  obtain ⟨b, o, e, hlt, hc⟩ := h hl
  have := hc i m hm 0 _ rfl
  rw [Nat.mul_one, Nat.add_zero] at this
  exact ⟨b, o, e, hlt, this⟩
end

end Go.Proofs.YtejicboemkpeoaaGreatDoor

namespace Go.Proofs.YtejicboemkpeoaaGreatDoor
open Go Go.RowKit

/-- Nothing turned but some blocks, and new ones. -/
def But (P : Nat → Prop) (w w' : World) : Prop := Below 0 w w' ∧ ∀ k, k < w.heap.size → ¬ P k → w'.heap[k]? = w.heap[k]?
section
variable {P : Nat → Prop} {a b c w w' : World}
theorem But.refl (P : Nat → Prop) (w : World) : But P w w := ⟨Below.refl _ _, fun _ _ _ => rfl⟩
theorem But.trans (h : But P a b) (k : But P b c) : But P a c := ⟨h.1.trans k.1, fun i hi hp => (k.2 i (Nat.lt_of_lt_of_le hi h.1.size) hp).trans (h.2 i hi hp)⟩
theorem But.grown {row : Option Nat} (h : But P a b) (k : b.grownBy c row) (hr : ∀ x, row = some x → P x ∨ a.heap.size ≤ x) : But P a c :=
  ⟨h.1.trans (below_of_only k (Nat.zero_le _) (fun _ _ => Nat.zero_le _)), fun i hi hp => (k.block i (Nat.lt_of_lt_of_le hi h.1.size) (fun e => by
    rcases hr i e.symm with h1 | h1
    · exact hp h1
    · omega)).trans (h.2 i hi hp)⟩
theorem But.then_ (h : But P a b) (k : Below b.heap.size b c) : But P a c := h.grown (only_below k none) (by simp)
theorem But.of_below (k : Below a.heap.size a c) : But P a c := (But.refl P a).then_ k
theorem But.below (h : But P a b) {B : Nat} (hB : B ≤ a.heap.size) (hP : ∀ k, P k → B ≤ k) : Below B a b :=
  ⟨h.1.os, h.1.tape, h.1.output, h.1.size, fun k hk => h.2 k (by omega) (fun hp => by have := hP k hp; omega)⟩
theorem But.mono {Q : Nat → Prop} (h : But P a b) (hq : ∀ k, k < a.heap.size → P k → Q k) : But Q a b := ⟨h.1, fun k hk hn => h.2 k hk (fun hp => hn (hq k hk hp))⟩
theorem But.box (h : But P a b) {g : Nat} {t : TypeId} {cs : Array Value} (hX : Box a g t cs) (hg : ¬ P g) : Box b g t cs := (h.2 g hX.lt hg).trans hX
theorem But.row (h : But P a b) {base n size : Nat} {e : TypeId} {v : Value} {xs : List Value} (hr : a.ownsRow base e size v n xs) (hv : ∀ k, v.ownBlock = some k → ¬ P k) : b.ownsRow base e size v n xs := by
  refine ⟨hr.1, ?_⟩
  rcases hr.2 with h1 | ⟨g, cap, cur, e1, e2, hg, r⟩
  · exact .inl h1
  · refine .inr ⟨g, cap, cur, e1, e2, (h.2 g ?_ (hv g (by rw [e1]; rfl))).trans hg, r⟩
    rcases Nat.lt_or_ge g a.heap.size with h1 | h1
    · exact h1
    · rw [Array.getElem?_eq_none h1] at hg; cases hg
theorem row_heap {base n size : Nat} {e : TypeId} {v : Value} {xs : List Value} {x : Nat} (h : w.ownsRow base e size v n xs) (hx : v.ownBlock = some x) : ∃ cs f, w.heap[x]? = some (.cells cs e f) := by
  rcases h.2 with ⟨rfl, _⟩ | ⟨g, cap, cur, rfl, _, hh, _⟩
  · cases hx
  · have hx' : g = x := by simpa [Value.ownBlock] using hx
    subst hx'
    exact ⟨_, _, hh⟩
/-- A row's block is none of another kind. -/
theorem row_other {base n size : Nat} {e t : TypeId} {v : Value} {xs : List Value} {mb : Nat} {cs : Array Value} {f : Nat × Nat} (h : w.ownsRow base e size v n xs) (hg : w.heap[mb]? = some (.cells cs t f)) (hne : e ≠ t) : ∀ k, v.ownBlock = some k → k ≠ mb := by
  rintro k hk rfl
  rcases h.2 with ⟨rfl, _⟩ | ⟨g, cap, cur, rfl, _, hh, _⟩
  · cases hk
  · injection hk with hk
    rw [← hk, hh] at hg
    injection hg with hg
    injection hg with _ h2
    exact hne h2
end

/-! ### Truths that are stored one by one -/
/-- A row of n truths of the call's own, in the block mb. -/
def Met (w : World) (base mb n : Nat) (M : List Bool) : Prop := M.length = n ∧ w.ownsRow base 4 1 (.slice (some ⟨mb, 0, none⟩) n n) n (cellsF boolC M)
section
variable {w w' : World} {base mb n : Nat} {M : List Bool}
theorem Met.lt (h : Met w base mb n M) : base ≤ mb ∧ mb < w.heap.size := h.2.lt mb rfl
theorem Met.cell (h : Met w base mb n M) {i : Nat} {b : Bool} (hi : M[i]? = some b) : w.cell? ⟨mb, i, none⟩ = some (.bool b) := by
  have hin : i < n := by rw [← h.1]; exact (List.getElem?_eq_some_iff.1 hi).1
  have h1 := World.ownsRow.cellAt (g := mb) (cap := n) h.2 i (by omega)
  rw [h1, bool_map, List.getElem?_map, hi]; rfl
theorem Met.free (h : Met w base mb n M) (i : Nat) : w.frozen? ⟨mb, i, none⟩ = false := World.ownsRow.frozenAt (g := mb) (cap := n) h.2 i
theorem Met.store (h : Met w base mb n M) (i : Nat) (b : Bool) : Met (w.setCell ⟨mb, i, none⟩ (.bool b)) base mb n (M.set i b) := by
  refine ⟨by simp [h.1], ?_⟩
  have h1 := (World.ownsRow.stored h.2 i (.bool b)).1
  rw [bool_map] at h1 ⊢
  rwa [List.map_set]
theorem Met.box (h : Met w base mb n M) : ∃ cs f, w.heap[mb]? = some (.cells cs 4 f) := by
  rcases h.2.2 with ⟨e, _⟩ | ⟨g, cap, cur, e, _, hh, _⟩
  · cases e
  · injection e with e1 e2 e3
    injection e1 with e1
    injection e1 with e1
    subst e1
    exact ⟨_, _, hh⟩
theorem Met.but {P : Nat → Prop} (h : Met w base mb n M) (hb : But P w w') (hp : ¬ P mb) : Met w' base mb n M := ⟨h.1, hb.row h.2 (fun k hk => by injection hk with hk; exact hk ▸ hp)⟩
theorem Met.below (h : Met w base mb n M) (hb : Below w.heap.size w w') : Met w' base mb n M := h.but (P := fun _ => False) (But.of_below hb) (fun h => h)
theorem Met.grown (h : Met w base mb n M) {row : Option Nat} (hb : w.grownBy w' row) (hne : some mb ≠ row) : Met w' base mb n M := h.but (P := fun k => some k = row) ((But.refl _ w).grown hb (fun _ hx => .inl hx.symm)) hne
/-- Its row, as truths of the call's own. -/
theorem Met.own (h : Met w base mb n M) : OwnB w base (.slice (some ⟨mb, 0, none⟩) n n) M := by
  show w.ownsRow _ _ _ _ M.length _
  rw [h.1]; exact h.2
end

theorem int_info : (Tryz.prog.info? 3).map (fun i => (i.zero, i.size, i.bytes)) = some (some (.int .i64 0), 1, 8) := by kernel_rfl

end Go.Proofs.YtejicboemkpeoaaGreatDoor

namespace Go.Proofs.YtejicboemkpeoaaGreatDoor
open Go Go.RowKit

section
variable {w w' : World} {B B' g : Nat} {P : List Place} {S : List Nat} {Y : List Named}
end
/-- What Out, In, Whole, Sym tell. -/
def outA (P : List Place) (o s : Int) : Nat := match outK P o s with | none => 0 | some k => match P[k]? with | none => 0 | some p => p.addr
def nameA (Y : List Named) (n : List UInt8) : Nat := match nameK Y n with | none => 18446744073709551615 | some k => match Y[k]? with | none => 0 | some s => s.addr

end Go.Proofs.YtejicboemkpeoaaGreatDoor

namespace Go.Proofs.YtejicboemkpeoaaGreatDoor
open Go Go.RowKit

/-- No section of the first k is one of symbols. -/
def NoTab (S : List Sect) (k : Nat) : Prop := ∀ (j : Nat) (t : Sect), j < k → S[j]? = some t → t.kind ≠ 2
theorem NoTab.next {S : List Sect} {k : Nat} {s : Sect} (h : NoTab S k) (hs : S[k]? = some s) (hk : s.kind ≠ 2) : NoTab S (k + 1) := fun j t hj ht => by
  rcases Nat.lt_or_ge j k with h1 | h1
  · exact h j t h1 ht
  · rw [show j = k by omega, hs] at ht
    injection ht with ht
    exact ht ▸ hk
theorem NoTab.all {S : List Sect} (h : NoTab S S.length) : tabG S = -1 := tabG_none fun j t ht => h j t (List.getElem?_eq_some_iff.1 ht).1 ht

end Go.Proofs.YtejicboemkpeoaaGreatDoor
