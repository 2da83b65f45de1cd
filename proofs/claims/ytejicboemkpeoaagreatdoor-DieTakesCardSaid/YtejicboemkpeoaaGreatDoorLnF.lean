/-
  Package linkmap: maps by sections, and by names, in memory: what they tell.
-/
import Derived.Test.YtejicboemkpeoaaGreatDoorSeR
import Derived.Test.YtejicboemkpeoaaGreatDoorSeV
import Derived.Test.YtejicboemkpeoaaGreatDoorEhL
import Derived.Test.YtejicboemkpeoaaGreatDoorCopyB
import Derived.Test.YtejicboemkpeoaaGreatDoorGpA
import Derived.Test.YtejicboemkpeoaaGreatDoorCurN
import Derived.Test.YtejicboemkpeoaaGreatDoorCsL
import Derived.Test.YtejicboemkpeoaaGreatDoorSyA
import Derived.Test.YtejicboemkpeoaaGreatDoorPoO
import Derived.Lib.SlBytesConst
import Derived.Laws.StructEq
import Derived.Test.YtejicboemkpeoaaGreatDoorCsQ
import Derived.Deep.DeepCutAuto
import Derived.Deep.LoopGhost
import Derived.DeepKeys4
namespace Go.Proofs.YtejicboemkpeoaaGreatDoor
open Go Go.RowKit

/-! ### Objects in memory -/
def RLay.cells1 (q : RLay) : List Value := [q.val]
/-- Rows of relocations that lie side by side. -/
structure Lists (w : World) (B : Nat) (a : Option Addr) (Q : List RLay) : Prop where
  row : Row 1 RLay.cells1 w B a Q
  rels : ∀ q ∈ Q, Rels w B q.a q.l
theorem Lists.below {w w' : World} {B : Nat} {a : Option Addr} {Q : List RLay} (h : Lists w B a Q) (hb : Below B w w') : Lists w' B a Q := ⟨h.row.below hb, fun q hq => (h.rels q hq).below hb⟩
theorem Lists.more {w : World} {B B' : Nat} {a : Option Addr} {Q : List RLay} (h : Lists w B a Q) (hB : B ≤ B') : Lists w B' a Q := ⟨h.row.more hB, fun q hq => (h.rels q hq).more hB⟩
/-- One of the rows: its value where it lies. -/
theorem Lists.at_ {w : World} {B : Nat} {a : Option Addr} {Q : List RLay} (h : Lists w B a Q) {i : Nat} {q : RLay} (hq : Q[i]? = some q) : ∃ b o, a = some ⟨b, o, none⟩ ∧ b < B ∧ w.cell? ⟨b, o + i, none⟩ = some (.slice q.a q.l.length q.c) := by
  have hl : 0 < Q.length := by have := (List.getElem?_eq_some_iff.1 hq).1; omega
  obtain ⟨b, o, e, hlt, hc⟩ := h.row hl
  have := hc i q hq 0 _ rfl
  rw [Nat.mul_one, Nat.add_zero] at this
  exact ⟨b, o, e, hlt, this⟩
/-- An object, with where its rows are. -/
structure ObjV where
  kind : Int
  machine : Int
  aS : Option Addr
  cS : Nat
  L : List Lay
  aY : Option Addr
  cY : Nat
  Y : List Sym
  aR : Option Addr
  cR : Nat
  Q : List RLay
def ObjV.cells (o : ObjV) : List Value := [.int .i64 o.kind, .int .i64 o.machine, .slice o.aS o.L.length o.cS, .slice o.aY o.Y.length o.cY, .slice o.aR o.Q.length o.cR]
def ObjV.val (o : ObjV) : Value := .agg o.cells.toArray
structure ObjV.Ok (w : World) (B : Nat) (o : ObjV) : Prop where
  secs : Secs w B o.aS o.L
  syms : Syms w B o.aY o.Y
  lists : Lists w B o.aR o.Q
  capS : o.L.length ≤ o.cS
  capR : o.Q.length ≤ o.cR
theorem ObjV.Ok.below {w w' : World} {B : Nat} {o : ObjV} (h : o.Ok w B) (hb : Below B w w') : o.Ok w' B := ⟨h.secs.below hb, Row.below h.syms hb, h.lists.below hb, h.capS, h.capR⟩
theorem ObjV.Ok.more {w : World} {B B' : Nat} {o : ObjV} (h : o.Ok w B) (hB : B ≤ B') : o.Ok w B' := ⟨h.secs.more hB, Row.more h.syms hB, h.lists.more hB, h.capS, h.capR⟩
/-! ### A struct of five cells -/
section
variable {W : World} {H : Nat} {T : TypeId}
theorem five_cells {c0 c1 c2 c3 c4 : Value} (h : Box W H T #[c0, c1, c2, c3, c4]) : W.cell? ⟨H, 0, none⟩ = some c0 ∧ W.cell? ⟨H, 1, none⟩ = some c1 ∧ W.cell? ⟨H, 2, none⟩ = some c2 ∧ W.cell? ⟨H, 3, none⟩ = some c3 ∧ W.cell? ⟨H, 4, none⟩ = some c4 := by
  refine ⟨?_, ?_, ?_, ?_, ?_⟩ <;> (rw [h.cell]; rfl)
end

end Go.Proofs.YtejicboemkpeoaaGreatDoor

namespace Go.Proofs.YtejicboemkpeoaaGreatDoor
open Go Go.RowKit

/-! ### Groups that lie side by side -/
/-- A group, with where its members are. -/
structure GLay where
  g : Grp
  a : Option Addr
  c : Nat
def GLay.cells (x : GLay) : List Value := [.int .i64 (x.g.place : Int), .bool x.g.one, .string ⟨x.g.name.toArray⟩, .slice x.a x.g.mem.length x.c]
def memC (m : Nat) : List Value := [.int .i64 (m : Int)]
theorem mem_map (M : List Nat) : cellsF memC M = M.map fun m : Nat => (.int .i64 (m : Int) : Value) := by
  induction M with
  | nil => rfl
  | cons m M ih => simp only [cellsF, List.flatMap_cons, List.map_cons] at ih ⊢; rw [ih]; rfl
/-- Members that lie side by side. -/
abbrev Mems (w : World) (B : Nat) (a : Option Addr) (M : List Nat) : Prop := Row 1 memC w B a M
/-- A row of members of the call's own. -/
abbrev OwnM (w : World) (base : Nat) (v : Value) (M : List Nat) : Prop := w.ownsRow base 3 1 v M.length (cellsF memC M)
structure GLay.Ok (w : World) (B : Nat) (x : GLay) : Prop where
  mem : Mems w B x.a x.g.mem
  cap : x.g.mem.length ≤ x.c
  max : x.c ≤ maxLen
structure Grps (w : World) (B : Nat) (a : Option Addr) (L : List GLay) : Prop where
  row : Row 4 GLay.cells w B a L
  ok : ∀ x ∈ L, x.Ok w B
section
variable {w w' : World} {B B' : Nat} {a : Option Addr} {L : List GLay} {x : GLay}
theorem GLay.Ok.below (h : x.Ok w B) (hb : Below B w w') : x.Ok w' B := ⟨Row.below h.mem hb, h.cap, h.max⟩
theorem GLay.Ok.more (h : x.Ok w B) (hB : B ≤ B') : x.Ok w B' := ⟨Row.more h.mem hB, h.cap, h.max⟩
theorem Grps.below (h : Grps w B a L) (hb : Below B w w') : Grps w' B a L := ⟨h.row.below hb, fun x hx => (h.ok x hx).below hb⟩
theorem Grps.more (h : Grps w B a L) (hB : B ≤ B') : Grps w B' a L := ⟨h.row.more hB, fun x hx => (h.ok x hx).more hB⟩
theorem Grps.up (h : Grps w w.heap.size a L) (hb : Below w.heap.size w w') : Grps w' w'.heap.size a L := (h.below hb).more hb.size
/-- One of the groups: its cells where it lies. -/
theorem Grps.at_ (h : Grps w B a L) {i : Nat} (hx : L[i]? = some x) : ∃ b o, a = some ⟨b, o, none⟩ ∧ b < B ∧ w.cell? ⟨b, o + i * 4, none⟩ = some (.int .i64 (x.g.place : Int)) ∧ w.cell? ⟨b, o + i * 4 + 1, none⟩ = some (.bool x.g.one) ∧
    w.cell? ⟨b, o + i * 4 + 2, none⟩ = some (.string ⟨x.g.name.toArray⟩) ∧ w.cell? ⟨b, o + i * 4 + 3, none⟩ = some (.slice x.a x.g.mem.length x.c) := by
  have hl : 0 < L.length := by have := (List.getElem?_eq_some_iff.1 hx).1; omega
  obtain ⟨b, o, e, hlt, hc⟩ := h.row hl
  exact ⟨b, o, e, hlt, hc i x hx 0 _ rfl, hc i x hx 1 _ rfl, hc i x hx 2 _ rfl, hc i x hx 3 _ rfl⟩
/-- One of the members: where it lies. -/
theorem Mems.at_ {M : List Nat} (h : Mems w B a M) {i m : Nat} (hm : M[i]? = some m) : ∃ b o, a = some ⟨b, o, none⟩ ∧ b < B ∧ w.cell? ⟨b, o + i, none⟩ = some (.int .i64 (m : Int)) := by
  have hl : 0 < M.length := by have := (List.getElem?_eq_some_iff.1 hm).1; omega
  obtain ⟨b, o, e, hlt, hc⟩ := h hl
  have := hc i m hm 0 _ rfl
  rw [Nat.mul_one, Nat.add_zero] at this
  exact ⟨b, o, e, hlt, this⟩
end
/-- A row of groups of the call's own, their members too. -/
def OwnG (T : TypeId) (w : World) (base : Nat) (v : Value) (R : List Grp) : Prop := ∃ L : List GLay, L.map (·.g) = R ∧ w.ownsRow base T 4 v L.length (cellsF GLay.cells L) ∧ ∀ x ∈ L, OwnM w base (.slice x.a x.g.mem.length x.c) x.g.mem
section
variable {T : TypeId} {w w' : World} {base base' : Nat} {v : Value} {R : List Grp}
theorem OwnG.later (H : OwnG T w base v R) (hb : Below w.heap.size w w') : OwnG T w' base v R := by
  obtain ⟨L, h1, h2, h3⟩ := H
  exact ⟨L, h1, row_below h2 hb, fun q hq => row_below (h3 q hq) hb⟩
end

/-! ### Rows of rows of truths -/
/-- A row of truths, with where it is. -/
structure BLay where
  a : Option Addr
  c : Nat
  l : List Bool
def BLay.val (q : BLay) : Value := .slice q.a q.l.length q.c
def BLay.cells1 (q : BLay) : List Value := [q.val]
def boolC (b : Bool) : List Value := [.bool b]
theorem bool_map (M : List Bool) : cellsF boolC M = M.map Value.bool := by
  induction M with
  | nil => rfl
  | cons m M ih => simp only [cellsF, List.flatMap_cons, List.map_cons] at ih ⊢; rw [ih]; rfl
abbrev Truths (w : World) (B : Nat) (a : Option Addr) (M : List Bool) : Prop := Row 1 boolC w B a M
abbrev OwnB (w : World) (base : Nat) (v : Value) (M : List Bool) : Prop := w.ownsRow base 4 1 v M.length (cellsF boolC M)
structure BRows (w : World) (B : Nat) (a : Option Addr) (Q : List BLay) : Prop where
  row : Row 1 BLay.cells1 w B a Q
  ok : ∀ q ∈ Q, Truths w B q.a q.l
section
variable {w w' : World} {B B' : Nat} {a : Option Addr} {Q : List BLay}
theorem BRows.below (h : BRows w B a Q) (hb : Below B w w') : BRows w' B a Q := ⟨h.row.below hb, fun q hq => Row.below (h.ok q hq) hb⟩
theorem BRows.more (h : BRows w B a Q) (hB : B ≤ B') : BRows w B' a Q := ⟨h.row.more hB, fun q hq => Row.more (h.ok q hq) hB⟩
theorem BRows.up (h : BRows w w.heap.size a Q) (hb : Below w.heap.size w w') : BRows w' w'.heap.size a Q := (h.below hb).more hb.size
theorem BRows.at_ (h : BRows w B a Q) {i : Nat} {q : BLay} (hq : Q[i]? = some q) : ∃ b o, a = some ⟨b, o, none⟩ ∧ b < B ∧ w.cell? ⟨b, o + i, none⟩ = some (.slice q.a q.l.length q.c) := by
  have hl : 0 < Q.length := by have := (List.getElem?_eq_some_iff.1 hq).1; omega
  obtain ⟨b, o, e, hlt, hc⟩ := h.row hl
  have := hc i q hq 0 _ rfl
  rw [Nat.mul_one, Nat.add_zero] at this
  exact ⟨b, o, e, hlt, this⟩
theorem Truths.at_ {M : List Bool} (h : Truths w B a M) {i : Nat} {m : Bool} (hm : M[i]? = some m) : ∃ b o, a = some ⟨b, o, none⟩ ∧ b < B ∧ w.cell? ⟨b, o + i, none⟩ = some (.bool m) := by
  have hl : 0 < M.length := by have := (List.getElem?_eq_some_iff.1 hm).1; omega
  obtain ⟨b, o, e, hlt, hc⟩ := h hl
  have := hc i m hm 0 _ rfl
  rw [Nat.mul_one, Nat.add_zero] at this
  exact ⟨b, o, e, hlt, this⟩
end

end Go.Proofs.YtejicboemkpeoaaGreatDoor

namespace Go.Proofs.YtejicboemkpeoaaGreatDoor
open Go Go.RowKit

/-- Nothing turned but some blocks, and new ones. -/
def But (P : Nat → Prop) (w w' : World) : Prop := Below 0 w w' ∧ ∀ k, k < w.heap.size → ¬ P k → w'.heap[k]? = w.heap[k]?
section
variable {P : Nat → Prop} {a b c w w' : World}
theorem But.refl (P : Nat → Prop) (w : World) : But P w w := ⟨Below.refl _ _, fun _ _ _ => rfl⟩
theorem But.trans (h : But P a b) (k : But P b c) : But P a c := ⟨h.1.trans k.1, fun i hi hp => (k.2 i (Nat.lt_of_lt_of_le hi h.1.size) hp).trans (h.2 i hi hp)⟩
theorem But.grown {row : Option Nat} (h : But P a b) (k : b.grownBy c row) (hr : ∀ x, row = some x → P x ∨ a.heap.size ≤ x) : But P a c :=
  ⟨h.1.trans (below_of_only k (Nat.zero_le _) (fun _ _ => Nat.zero_le _)), fun i hi hp => (k.block i (Nat.lt_of_lt_of_le hi h.1.size) (fun e => by
    rcases hr i e.symm with h1 | h1
    · exact hp h1
    · omega)).trans (h.2 i hi hp)⟩
theorem But.then_ (h : But P a b) (k : Below b.heap.size b c) : But P a c := h.grown (only_below k none) (by simp)
theorem But.of_below (k : Below a.heap.size a c) : But P a c := (But.refl P a).then_ k
theorem But.below (h : But P a b) {B : Nat} (hB : B ≤ a.heap.size) (hP : ∀ k, P k → B ≤ k) : Below B a b :=
  ⟨h.1.os, h.1.tape, h.1.output, h.1.size, fun k hk => h.2 k (by omega) (fun hp => by have := hP k hp; omega)⟩
theorem But.mono {Q : Nat → Prop} (h : But P a b) (hq : ∀ k, k < a.heap.size → P k → Q k) : But Q a b := ⟨h.1, fun k hk hn => h.2 k hk (fun hp => hn (hq k hk hp))⟩
theorem But.box (h : But P a b) {g : Nat} {t : TypeId} {cs : Array Value} (hX : Box a g t cs) (hg : ¬ P g) : Box b g t cs := (h.2 g hX.lt hg).trans hX
theorem But.row (h : But P a b) {base n size : Nat} {e : TypeId} {v : Value} {xs : List Value} (hr : a.ownsRow base e size v n xs) (hv : ∀ k, v.ownBlock = some k → ¬ P k) : b.ownsRow base e size v n xs := by
  refine ⟨hr.1, ?_⟩
  rcases hr.2 with h1 | ⟨g, cap, cur, e1, e2, hg, r⟩
  · exact .inl h1
  · refine .inr ⟨g, cap, cur, e1, e2, (h.2 g ?_ (hv g (by rw [e1]; rfl))).trans hg, r⟩
    rcases Nat.lt_or_ge g a.heap.size with h1 | h1
    · exact h1
    · rw [Array.getElem?_eq_none h1] at hg; cases hg
theorem row_heap {base n size : Nat} {e : TypeId} {v : Value} {xs : List Value} {x : Nat} (h : w.ownsRow base e size v n xs) (hx : v.ownBlock = some x) : ∃ cs f, w.heap[x]? = some (.cells cs e f) := by
  rcases h.2 with ⟨rfl, _⟩ | ⟨g, cap, cur, rfl, _, hh, _⟩
  · cases hx
  · have hx' : g = x := by simpa [Value.ownBlock] using hx
    subst hx'
    exact ⟨_, _, hh⟩
/-- A row's block is none of another kind. -/
theorem row_other {base n size : Nat} {e t : TypeId} {v : Value} {xs : List Value} {mb : Nat} {cs : Array Value} {f : Nat × Nat} (h : w.ownsRow base e size v n xs) (hg : w.heap[mb]? = some (.cells cs t f)) (hne : e ≠ t) : ∀ k, v.ownBlock = some k → k ≠ mb := by
  rintro k hk rfl
  rcases h.2 with ⟨rfl, _⟩ | ⟨g, cap, cur, rfl, _, hh, _⟩
  · cases hk
  · injection hk with hk
    rw [← hk, hh] at hg
    injection hg with hg
    injection hg with _ h2
    exact hne h2
end

/-! ### Truths that are stored one by one -/
/-- A row of n truths of the call's own, in the block mb. -/
def Met (w : World) (base mb n : Nat) (M : List Bool) : Prop := M.length = n ∧ w.ownsRow base 4 1 (.slice (some ⟨mb, 0, none⟩) n n) n (cellsF boolC M)
section
variable {w w' : World} {base mb n : Nat} {M : List Bool}
theorem Met.lt (h : Met w base mb n M) : base ≤ mb ∧ mb < w.heap.size := h.2.lt mb rfl
theorem Met.cell (h : Met w base mb n M) {i : Nat} {b : Bool} (hi : M[i]? = some b) : w.cell? ⟨mb, i, none⟩ = some (.bool b) := by
  have hin : i < n := by rw [← h.1]; exact (List.getElem?_eq_some_iff.1 hi).1
  have h1 := World.ownsRow.cellAt (g := mb) (cap := n) h.2 i (by omega)
  rw [h1, bool_map, List.getElem?_map, hi]; rfl
theorem Met.free (h : Met w base mb n M) (i : Nat) : w.frozen? ⟨mb, i, none⟩ = false := World.ownsRow.frozenAt (g := mb) (cap := n) h.2 i
theorem Met.store (h : Met w base mb n M) (i : Nat) (b : Bool) : Met (w.setCell ⟨mb, i, none⟩ (.bool b)) base mb n (M.set i b) := by
  refine ⟨by simp [h.1], ?_⟩
  have h1 := (World.ownsRow.stored h.2 i (.bool b)).1
  rw [bool_map] at h1 ⊢
  rwa [List.map_set]
theorem Met.box (h : Met w base mb n M) : ∃ cs f, w.heap[mb]? = some (.cells cs 4 f) := by
  rcases h.2.2 with ⟨e, _⟩ | ⟨g, cap, cur, e, _, hh, _⟩
  · cases e
  · injection e with e1 e2 e3
    injection e1 with e1
    injection e1 with e1
    subst e1
    exact ⟨_, _, hh⟩
theorem Met.but {P : Nat → Prop} (h : Met w base mb n M) (hb : But P w w') (hp : ¬ P mb) : Met w' base mb n M := ⟨h.1, hb.row h.2 (fun k hk => by injection hk with hk; exact hk ▸ hp)⟩
theorem Met.below (h : Met w base mb n M) (hb : Below w.heap.size w w') : Met w' base mb n M := h.but (P := fun _ => False) (But.of_below hb) (fun h => h)
theorem Met.grown (h : Met w base mb n M) {row : Option Nat} (hb : w.grownBy w' row) (hne : some mb ≠ row) : Met w' base mb n M := h.but (P := fun k => some k = row) ((But.refl _ w).grown hb (fun _ hx => .inl hx.symm)) hne
/-- Its row, as truths of the call's own. -/
theorem Met.own (h : Met w base mb n M) : OwnB w base (.slice (some ⟨mb, 0, none⟩) n n) M := by
  show w.ownsRow _ _ _ _ M.length _
  rw [h.1]; exact h.2
end

theorem int_info : (Tryz.prog.info? 3).map (fun i => (i.zero, i.size, i.bytes)) = some (some (.int .i64 0), 1, 8) := by kernel_rfl

end Go.Proofs.YtejicboemkpeoaaGreatDoor

namespace Go.Proofs.YtejicboemkpeoaaGreatDoor
open Go Go.RowKit

section
variable {w w' : World} {B B' g : Nat} {P : List Place} {S : List Nat} {Y : List Named}
end
/-- What Out, In, Whole, Sym tell. -/
def outA (P : List Place) (o s : Int) : Nat := match outK P o s with | none => 0 | some k => match P[k]? with | none => 0 | some p => p.addr
def nameA (Y : List Named) (n : List UInt8) : Nat := match nameK Y n with | none => 18446744073709551615 | some k => match Y[k]? with | none => 0 | some s => s.addr

end Go.Proofs.YtejicboemkpeoaaGreatDoor

namespace Go.Proofs.YtejicboemkpeoaaGreatDoor
open Go Go.RowKit

/-- No section of the first k is one of symbols. -/
def NoTab (S : List Sect) (k : Nat) : Prop := ∀ (j : Nat) (t : Sect), j < k → S[j]? = some t → t.kind ≠ 2
theorem NoTab.next {S : List Sect} {k : Nat} {s : Sect} (h : NoTab S k) (hs : S[k]? = some s) (hk : s.kind ≠ 2) : NoTab S (k + 1) := fun j t hj ht => by
  rcases Nat.lt_or_ge j k with h1 | h1
  · exact h j t h1 ht
  · rw [show j = k by omega, hs] at ht
    injection ht with ht
    exact ht ▸ hk
theorem NoTab.all {S : List Sect} (h : NoTab S S.length) : tabG S = -1 := tabG_none fun j t ht => h j t (List.getElem?_eq_some_iff.1 ht).1 ht

end Go.Proofs.YtejicboemkpeoaaGreatDoor

namespace Go.Proofs.YtejicboemkpeoaaGreatDoor
open Go Go.RowKit

/-- Groups of the call's own that lie side by side, their members too. -/
structure GSt (T : TypeId) (w : World) (base : Nat) (v : Value) (L : List GLay) : Prop where
  row : w.ownsRow base T 4 v L.length (cellsF GLay.cells L)
  mem : ∀ x ∈ L, OwnM w base (.slice x.a x.g.mem.length x.c) x.g.mem
theorem GLay.one (x : GLay) : ∀ u ∈ x.cells, u.oneCell' = true := fun u hu => by
  simp only [GLay.cells, List.mem_cons, List.not_mem_nil, or_false] at hu
  rcases hu with rfl | rfl | rfl | rfl <;> rfl
section
variable {T : TypeId} {w w' : World} {base base' : Nat} {v v' : Value} {L : List GLay} {x : GLay}
theorem GSt.nil (T : TypeId) (w : World) (base : Nat) : GSt T w base (.slice none 0 0) [] := ⟨World.ownsRow_nil _ _ _ _, fun _ h => by cases h⟩
theorem GSt.but {P : Nat → Prop} (h : GSt T w base v L) (hb : But P w w') (h1 : ∀ k, v.ownBlock = some k → ¬ P k) (h2 : ∀ x ∈ L, ∀ k, (Value.slice x.a x.g.mem.length x.c).ownBlock = some k → ¬ P k) : GSt T w' base v L :=
  ⟨hb.row h.row h1, fun x hx => hb.row (h.mem x hx) (h2 x hx)⟩
theorem GSt.below (h : GSt T w base v L) (hb : Below w.heap.size w w') : GSt T w' base v L := ⟨row_below h.row hb, fun x hx => row_below (h.mem x hx) hb⟩
theorem GSt.own (h : GSt T w base v L) : OwnG T w base v (L.map (·.g)) := ⟨L, rfl, h.row, h.mem⟩
/-- One more, its members at hand. -/
theorem GSt.more (h : GSt T w base v L) (hx : OwnM w base (.slice x.a x.g.mem.length x.c) x.g.mem) (hT : 3 ≠ T) (hown : w'.ownsRow base T 4 v' (L.length + 1) (cellsF GLay.cells L ++ x.cells)) (hg : w.grownBy w' v.ownBlock) : GSt T w' base v' (L ++ [x]) := by
  refine ⟨by rw [List.length_append, cellsF_append, cellsF_one]; exact hown, fun y hy => ?_⟩
  have hk : ∀ z : GLay, OwnM w base (.slice z.a z.g.mem.length z.c) z.g.mem → OwnM w' base (.slice z.a z.g.mem.length z.c) z.g.mem := fun z hz =>
    ((But.refl (fun k => some k = v.ownBlock) w).grown hg (fun x hx => .inl hx.symm)).row hz (fun k hk hp => by
      obtain ⟨cs, f, hb⟩ := row_heap h.row hp.symm
      exact row_other hz hb hT k hk rfl)
  rcases List.mem_append.1 hy with hy | hy
  · exact hk y (h.mem y hy)
  · obtain rfl := List.mem_singleton.1 hy
    exact hk _ hx
end
end Go.Proofs.YtejicboemkpeoaaGreatDoor

namespace Go.Proofs.YtejicboemkpeoaaGreatDoor
open Go Go.RowKit Go.Maps

/-- A set of names in memory, the call's own. -/
def SetAt (w : World) (base mb : Nat) (names : List (List UInt8)) : Prop :=
  base ≤ mb ∧ ∃ (n : Nat) (ls : List (List UInt8)), n ≤ names.length ∧ w.ownsMap Tryz.prog 9 (unitElem (H := Unit)) mb n (setT ls) ∧ ∀ t, t ∈ ls ↔ t ∈ names
section
variable {w w' : World} {base mb : Nat} {names : List (List UInt8)}
theorem own_map_block {k : TypeId} {R : Value → Option (DataW Unit × List MemPlace)} {n : Nat} {D : DataW Unit} (h : w.ownsMap Tryz.prog k R mb n D) : ∃ es c, w.heap[mb]? = some (.map es c) := by
  obtain ⟨es, c, hm, _⟩ := h
  exact ⟨es, c, hm⟩
theorem SetAt.block (h : SetAt w base mb names) : ∃ es c, w.heap[mb]? = some (.map es c) := by
  obtain ⟨-, n, ls, -, h, -⟩ := h
  exact own_map_block h
theorem SetAt.lt (h : SetAt w base mb names) : mb < w.heap.size := by
  obtain ⟨es, c, hm⟩ := h.block
  rcases Nat.lt_or_ge mb w.heap.size with h1 | h1
  · exact h1
  · rw [Array.getElem?_eq_none h1] at hm; cases hm
theorem own_map_but {k : TypeId} {R : Value → Option (DataW Unit × List MemPlace)} {n : Nat} {D : DataW Unit} {P : Nat → Prop} (h : w.ownsMap Tryz.prog k R mb n D) (hb : But P w w') (hp : ¬ P mb) : w'.ownsMap Tryz.prog k R mb n D := by
  obtain ⟨es, c, hm, r⟩ := h
  have hlt : mb < w.heap.size := by
    rcases Nat.lt_or_ge mb w.heap.size with h1 | h1
    · exact h1
    · rw [Array.getElem?_eq_none h1] at hm; cases hm
  exact ⟨es, c, (hb.2 mb hlt hp).trans hm, r⟩
theorem SetAt.but {P : Nat → Prop} (h : SetAt w base mb names) (hb : But P w w') (hp : ¬ P mb) : SetAt w' base mb names := by
  obtain ⟨h0, n, ls, h1, h2, h3⟩ := h
  exact ⟨h0, n, ls, h1, own_map_but h2 hb hp, h3⟩
theorem SetAt.below (h : SetAt w base mb names) (hb : Below w.heap.size w w') : SetAt w' base mb names := h.but (P := fun _ => False) (But.of_below hb) (fun h => h)
end
end Go.Proofs.YtejicboemkpeoaaGreatDoor

namespace Go.Proofs.YtejicboemkpeoaaGreatDoor
open Go Go.RowKit Go.Maps

theorem sec_cells : Tryz.prog.cellsOf 160 = 2 := by kernel_rfl
theorem sec_int : Tryz.prog.cellsOf 3 = 1 := by kernel_rfl
set_option maxRecDepth 100000 in
theorem sec_row : (160 : TypeId) < Tryz.prog.types.size := of_decide_eq_true (by kernel_rfl)
theorem sec_wide : (match Tryz.prog.underlying 160 with | some (.array _ _) | some (.struct _) => true | _ => false) = true := by kernel_rfl
theorem sec_laid : laidOutB Tryz.prog = true := by kernel_rfl
set_option maxRecDepth 100000 in
theorem sec_law : Keyed Tryz.prog 160 := Keyed.of_law (deep_law_laid sec_laid (m := 2) (Nat.le_of_ble_eq_true rfl) sec_row (by kernel_rfl) sec_wide)
theorem sec_key : Tryz.prog.keyType 160 = true := by kernel_rfl
/-- What a section reads as, as a key. -/
def keyS (o s : Int) : Lit := .string (keyBytes [.int .i64 o, .int .i64 s])
theorem wf_i64 {o : Int} (h : InI o) : (Lit.int .i64 o).wf = true := by
  obtain ⟨h1, h2⟩ := h
  show (decide (IntKind.i64.min ≤ o) && decide (o ≤ IntKind.i64.max)) = true
  rw [Bool.and_eq_true, decide_eq_true_eq, decide_eq_true_eq]
  exact ⟨h1, h2⟩
theorem wf_u64 {n : Nat} (h : n < two64) : (Lit.int .u64 (n : Int)).wf = true := by
  unfold two64 at h
  show (decide (IntKind.u64.min ≤ (n : Int)) && decide ((n : Int) ≤ IntKind.u64.max)) = true
  rw [Bool.and_eq_true, decide_eq_true_eq, decide_eq_true_eq, show IntKind.u64.min = 0 from rfl, show IntKind.u64.max = 18446744073709551615 from rfl]
  omega
theorem keyLits_sec (d : Nat) {o s : Int} (ho : InI o) (hs : InI s) : Tryz.prog.keyLits (d + 2) 160 [.int .i64 o, .int .i64 s] = some [.int .i64 o, .int .i64 s] := by
  have hu := Tryz.underlying160
  have hi := Tryz.underlying3
  have h1 := wf_i64 ho
  have h2 := wf_i64 hs
  simp [Program.keyLits, hu, hi, sec_cells, sec_int, h1, h2]
theorem key_sec {o s : Int} (ho : InI o) (hs : InI s) : keyOf Tryz.prog 160 (.agg #[.int .i64 o, .int .i64 s]) = some (keyS o s) := by
  have hu := Tryz.underlying160
  unfold keyOf
  simp only [hu, sec_key, Value.formed, sec_cells, Value.cells, keyS]
  obtain ⟨d, hd⟩ : ∃ d, Tryz.prog.types.size + 1 = d + 2 := ⟨Tryz.prog.types.size - 1, by have := Nat.lt_of_le_of_lt (Nat.zero_le _) sec_row; omega⟩
  rw [hd, keyLits_sec d ho hs]
  rfl
theorem keyS_inj {o s o' s' : Int} (ho : InI o) (hs : InI s) (ho' : InI o') (hs' : InI s') (h : keyS o s = keyS o' s') : o = o' ∧ s = s' := by
  have := sec_law.inj (key_sec ho hs) (h ▸ key_sec ho' hs')
  injection this with this
  injection this with this
  simpa using this

/-- A map of sections tells the places. -/
structure PMap (w : World) (base mb : Nat) (P : List Place) : Prop where
  ge : base ≤ mb
  own : ∃ (n : Nat) (D : DataW Unit), n ≤ P.length ∧ w.ownsMap Tryz.prog 160 (plainElem Tryz.prog 38) mb n D ∧ IsMap D ∧ ∀ o s, InI o → InI s → Maps.has D (keyS o s) = (outK P o s).isSome ∧ D.atKey (keyS o s) (.lit (.int .u64 0)) = .lit (.int .u64 (outA P o s : Nat))
/-- A map of names tells the symbols. -/
structure YMap (w : World) (base mb : Nat) (Y : List Named) : Prop where
  ge : base ≤ mb
  own : ∃ (n : Nat) (D : DataW Unit), n ≤ Y.length ∧ w.ownsMap Tryz.prog 9 (plainElem Tryz.prog 38) mb n D ∧ IsMap D ∧ ∀ t : List UInt8, t.length ≤ maxLen → Maps.has D (keyT t) = (nameK Y t).isSome ∧ ((nameK Y t).isSome = true → D.atKey (keyT t) (.lit (.int .u64 0)) = .lit (.int .u64 (nameA Y t : Nat)))

theorem firstK_snoc {α : Type} (p : α → Bool) (x : α) : ∀ (l : List α) (i : Nat), firstK p i (l ++ [x]) = match firstK p i l with | some k => some k | none => if p x then some (i + l.length) else none
  | [], i => by simp [firstK]
  | y :: l, i => by
    simp only [List.cons_append, firstK]
    by_cases hy : p y = true
    · simp [hy]
    · simp only [hy]
      have := firstK_snoc p x l (i + 1)
      simp only [Bool.false_eq_true, if_false]
      rw [this]
      cases firstK p (i + 1) l with
      | some k => rfl
      | none => simp only [List.length_cons]; rw [show i + 1 + l.length = i + (l.length + 1) by omega]
theorem firstK_lt {α : Type} {p : α → Bool} {l : List α} {k : Nat} (h : firstK p 0 l = some k) : k < l.length := by
  obtain ⟨x, hx, -⟩ := firstK_some (i := 0) (by rw [Nat.zero_add]; exact h)
  exact (List.getElem?_eq_some_iff.1 hx).1
/-- What a place more tells. -/
theorem outA_snoc {P : List Place} {p : Place} (hn : outK P p.obj p.sect = none) (o s : Int) :
    (outK (P ++ [p]) o s).isSome = (if o = p.obj ∧ s = p.sect then true else (outK P o s).isSome) ∧ outA (P ++ [p]) o s = if o = p.obj ∧ s = p.sect then p.addr else outA P o s := by
  unfold outA outK at *
  rw [firstK_snoc]
  by_cases h : o = p.obj ∧ s = p.sect
  · obtain ⟨rfl, rfl⟩ := h
    rw [hn]
    simp [hasP]
  · have hp : hasP o s p = false := by
      unfold hasP
      rw [Bool.and_eq_false_iff]
      by_cases e : p.obj = o
      · exact .inr (decide_eq_false (fun e2 => h ⟨e.symm, e2.symm⟩))
      · exact .inl (decide_eq_false e)
    rw [if_neg h, if_neg h]
    cases hk : firstK (hasP o s) 0 P with
    | none => simp [hp]
    | some k =>
      have := firstK_lt hk
      simp [List.getElem?_append_left this]
theorem nameA_snoc {Y : List Named} {y : Named} (hn : nameK Y y.name = none) (t : List UInt8) :
    (nameK (Y ++ [y]) t).isSome = (if t = y.name then true else (nameK Y t).isSome) ∧ nameA (Y ++ [y]) t = if t = y.name then y.addr else nameA Y t := by
  unfold nameA nameK at *
  rw [firstK_snoc]
  by_cases h : t = y.name
  · subst h
    rw [hn]
    simp
  · rw [if_neg h, if_neg h]
    cases hk : firstK (fun s : Named => decide (s.name = t)) 0 Y with
    | none =>
      have h' : ¬ y.name = t := fun e => h e.symm
      simp [h']
    | some k =>
      have := firstK_lt hk
      simp [List.getElem?_append_left this]

section
variable {w w' : World} {base mb : Nat} {P : List Place} {Y : List Named}
theorem PMap.block (h : PMap w base mb P) : ∃ es c, w.heap[mb]? = some (.map es c) := by
  obtain ⟨-, n, D, -, h, -⟩ := h
  exact own_map_block h
theorem YMap.block (h : YMap w base mb Y) : ∃ es c, w.heap[mb]? = some (.map es c) := by
  obtain ⟨-, n, D, -, h, -⟩ := h
  exact own_map_block h
theorem PMap.same (h : PMap w base mb P) (hb : w'.heap[mb]? = w.heap[mb]?) : PMap w' base mb P := by
  obtain ⟨h0, n, D, h1, ⟨es, c, hm, r⟩, h3⟩ := h
  exact ⟨h0, n, D, h1, ⟨es, c, hb.trans hm, r⟩, h3⟩
theorem YMap.same (h : YMap w base mb Y) (hb : w'.heap[mb]? = w.heap[mb]?) : YMap w' base mb Y := by
  obtain ⟨h0, n, D, h1, ⟨es, c, hm, r⟩, h3⟩ := h
  exact ⟨h0, n, D, h1, ⟨es, c, hb.trans hm, r⟩, h3⟩
theorem PMap.lt (h : PMap w base mb P) : mb < w.heap.size := by
  obtain ⟨es, c, hm⟩ := h.block
  exact (Array.getElem?_eq_some_iff.1 hm).1
theorem YMap.lt (h : YMap w base mb Y) : mb < w.heap.size := by
  obtain ⟨es, c, hm⟩ := h.block
  exact (Array.getElem?_eq_some_iff.1 hm).1
set_option maxRecDepth 100000 in
theorem PMap.look (h : PMap w base mb P) {o s : Int} (ho : InI o) (hs : InI s) : (Instr.lookup 92 (.map (some mb)) (.agg #[.int .i64 o, .int .i64 s]) true).run Tryz.prog w = .ok (.tuple #[.int .u64 (outA P o s : Nat), .bool (outK P o s).isSome]) w := by
  obtain ⟨-, n, D, -, h, -, ht⟩ := h
  obtain ⟨h1, h2⟩ := ht o s ho hs
  obtain ⟨v, ps, hrun, hv⟩ := h.look_ok sec_law Tryz.underlying92 (zero_u64 w) (plainElem_int Tryz.underlying38 (by decide)) (key_sec ho hs)
  obtain ⟨c, rfl, hc, hwc⟩ := plainElem_int_inv Tryz.underlying38 hv
  have := congrArg Prod.fst hc
  rw [h2] at this
  injection this with this
  injection this with _ this
  rw [hrun, h1, ← this]
set_option maxRecDepth 100000 in
theorem YMap.look (h : YMap w base mb Y) {t : List UInt8} (ht : t.length ≤ maxLen) : ∃ c : Int, (Instr.lookup 94 (.map (some mb)) (.string ⟨t.toArray⟩) true).run Tryz.prog w = .ok (.tuple #[.int .u64 c, .bool (nameK Y t).isSome]) w ∧ ((nameK Y t).isSome = true → c = (nameA Y t : Nat)) := by
  obtain ⟨-, n, D, -, h, -, hh⟩ := h
  obtain ⟨h1, h2⟩ := hh t ht
  obtain ⟨v, ps, hrun, hv⟩ := h.look_ok string_law Tryz.underlying94 (zero_u64 w) (plainElem_int Tryz.underlying38 (by decide)) (key_text t ht)
  obtain ⟨c, rfl, hc, hwc⟩ := plainElem_int_inv Tryz.underlying38 hv
  refine ⟨c, by rw [hrun, h1], fun hs => ?_⟩
  have := congrArg Prod.fst hc
  rw [h2 hs] at this
  injection this with this
  injection this with _ this
  exact this.symm
theorem keyS_lit (o s : Int) : WideAt.IsKeyLit (keyS o s) := trivial
set_option maxRecDepth 100000 in
theorem PMap.put (h : PMap w base mb P) {p : Place} (hp : p.Nums) (hn : outK P p.obj p.sect = none) (hl : P.length ≤ 100000) : ∃ w', (Instr.mapUpdate 92 (.map (some mb)) (.agg #[.int .i64 p.obj, .int .i64 p.sect]) (.int .u64 (p.addr : Int))).run Tryz.prog w = .ok () w' ∧ PMap w' base mb (P ++ [p]) ∧ w.grownBy w' (some mb) := by
  obtain ⟨h0, n, D, hN, h, hD, ht⟩ := h
  obtain ⟨w', hrun, how, hg⟩ := h.update sec_law Tryz.underlying92 (by unfold maxLen; omega) (key_sec hp.1 hp.2.1) (plainElem_int Tryz.underlying38 (wf_u64 hp.2.2))
  refine ⟨w', hrun, ⟨h0, n + 1, _, by simp; omega, how, hD.put _ _, fun o s ho hs => ?_⟩, hg⟩
  obtain ⟨e1, e2⟩ := outA_snoc hn o s
  by_cases e : o = p.obj ∧ s = p.sect
  · obtain ⟨rfl, rfl⟩ := e
    rw [has_put_same hD (keyS_lit _ _), atKey_put_same hD (keyS_lit _ _), e1, e2]
    simp
  · have hne : keyS o s ≠ keyS p.obj p.sect := fun hk => e (keyS_inj ho hs hp.1 hp.2.1 hk)
    rw [has_put_other hne, atKey_put_other hne, e1, e2, if_neg e, if_neg e]
    exact ht o s ho hs
theorem keyT_inj' {a b : List UInt8} (h : keyT a = keyT b) : a = b := by
  unfold keyT at h
  injection h
set_option maxRecDepth 100000 in
theorem YMap.put (h : YMap w base mb Y) {y : Named} (hy : y.Nums) (hyl : y.name.length ≤ maxLen) (hn : nameK Y y.name = none) (hl : Y.length ≤ 100000) : ∃ w', (Instr.mapUpdate 94 (.map (some mb)) (.string ⟨y.name.toArray⟩) (.int .u64 (y.addr : Int))).run Tryz.prog w = .ok () w' ∧ YMap w' base mb (Y ++ [y]) ∧ w.grownBy w' (some mb) := by
  obtain ⟨h0, n, D, hN, h, hD, ht⟩ := h
  obtain ⟨w', hrun, how, hg⟩ := h.update string_law Tryz.underlying94 (by unfold maxLen; omega) (key_text y.name hyl) (plainElem_int Tryz.underlying38 (wf_u64 hy))
  refine ⟨w', hrun, ⟨h0, n + 1, _, by simp; omega, how, hD.put _ _, fun t htl => ?_⟩, hg⟩
  obtain ⟨e1, e2⟩ := nameA_snoc hn t
  by_cases e : t = y.name
  · subst e
    rw [has_put_same hD (by unfold keyT; trivial), atKey_put_same hD (by unfold keyT; trivial), e1, e2]
    simp
  · have hne : keyT t ≠ keyT y.name := fun hk => e (keyT_inj' hk)
    rw [has_put_other hne, atKey_put_other hne, e1, e2, if_neg e, if_neg e]
    exact ht t htl
end

end Go.Proofs.YtejicboemkpeoaaGreatDoor
