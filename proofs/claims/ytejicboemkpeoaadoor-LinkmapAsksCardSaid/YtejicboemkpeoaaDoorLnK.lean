/-
  Package linkmap: whether a section is left out (out).
-/
import Derived.Test.YtejicboemkpeoaaDoorSeA
import Derived.Test.YtejicboemkpeoaaDoorSyI
import Derived.Test.YtejicboemkpeoaaDoorEhC
import Derived.Test.YtejicboemkpeoaaDoorObT
import Derived.Test.YtejicboemkpeoaaDoorPut
import Derived.Test.YtejicboemkpeoaaDoorEhA
import Derived.Laws.ResultCell
import Derived.Test.YtejicboemkpeoaaDoorCsL
import Derived.Test.YtejicboemkpeoaaDoorPoO
import Derived.Deep.DeepCutAuto
import Derived.Deep.LoopGhost
import Derived.Test.YtejicboemkpeoaaDoorSeR
import Derived.DeepKeys4
namespace Go.Proofs.YtejicboemkpeoaaDoor
open Go Go.RowKit

/-- A group. -/
structure Grp where
  place : Nat
  one : Bool
  name : List UInt8
  mem : List Nat

/-- Where the first section of symbols stands; -1. -/
def tabG (S : List Sect) : Int := match S.findIdx? (fun s => s.kind == 2) with
  | some i => (i : Int)
  | none => -1
theorem tabG_none {S : List Sect} (hk : ∀ (j : Nat) (t : Sect), S[j]? = some t → t.kind ≠ 2) : tabG S = -1 := by
  have : S.findIdx? (fun s => s.kind == 2) = none := by
    rw [List.findIdx?_eq_none_iff]
    intro x hx
    obtain ⟨j, hj⟩ := List.getElem?_of_mem hx
    simpa using hk j x hj
  unfold tabG
  rw [this]
section
variable {S : List Sect} {Y : List Sym} {k : Nat} {l : List Grp} {met b : List Bool} {s : Sect}
end
end Go.Proofs.YtejicboemkpeoaaDoor

namespace Go.Proofs.YtejicboemkpeoaaDoor
open Go Go.RowKit

/-! ### Groups that lie side by side -/
/-- A group, with where its members are. -/
structure GLay where
  g : Grp
  a : Option Addr
  c : Nat
def GLay.cells (x : GLay) : List Value := [.int .i64 (x.g.place : Int), .bool x.g.one, .string ⟨x.g.name.toArray⟩, .slice x.a x.g.mem.length x.c]
theorem glay_four (x : GLay) : x.cells.length = 4 := rfl
def memC (m : Nat) : List Value := [.int .i64 (m : Int)]
theorem mem_one (m : Nat) : (memC m).length = 1 := rfl
theorem mem_map (M : List Nat) : cellsF memC M = M.map fun m : Nat => (.int .i64 (m : Int) : Value) := by
  induction M with
  | nil => rfl
  | cons m M ih => simp only [cellsF, List.flatMap_cons, List.map_cons] at ih ⊢; rw [ih]; rfl
/-- Members that lie side by side. -/
abbrev Mems (w : World) (B : Nat) (a : Option Addr) (M : List Nat) : Prop := Row 1 memC w B a M
/-- A row of members of the call's own. -/
abbrev OwnM (w : World) (base : Nat) (v : Value) (M : List Nat) : Prop := w.ownsRow base 3 1 v M.length (cellsF memC M)
structure GLay.Ok (w : World) (B : Nat) (x : GLay) : Prop where
  mem : Mems w B x.a x.g.mem
  cap : x.g.mem.length ≤ x.c
  max : x.c ≤ maxLen
structure Grps (w : World) (B : Nat) (a : Option Addr) (L : List GLay) : Prop where
  row : Row 4 GLay.cells w B a L
  ok : ∀ x ∈ L, x.Ok w B
section
variable {w w' : World} {B B' : Nat} {a : Option Addr} {L : List GLay} {x : GLay}
theorem GLay.Ok.below (h : x.Ok w B) (hb : Below B w w') : x.Ok w' B := ⟨Row.below h.mem hb, h.cap, h.max⟩
theorem GLay.Ok.more (h : x.Ok w B) (hB : B ≤ B') : x.Ok w B' := ⟨Row.more h.mem hB, h.cap, h.max⟩
theorem Grps.below (h : Grps w B a L) (hb : Below B w w') : Grps w' B a L := ⟨h.row.below hb, fun x hx => (h.ok x hx).below hb⟩
theorem Grps.more (h : Grps w B a L) (hB : B ≤ B') : Grps w B' a L := ⟨h.row.more hB, fun x hx => (h.ok x hx).more hB⟩
theorem Grps.up (h : Grps w w.heap.size a L) (hb : Below w.heap.size w w') : Grps w' w'.heap.size a L := (h.below hb).more hb.size
/-- One of the groups: its cells where it lies. -/
theorem Grps.at_ (h : Grps w B a L) {i : Nat} (hx : L[i]? = some x) : ∃ b o, a = some ⟨b, o, none⟩ ∧ b < B ∧ w.cell? ⟨b, o + i * 4, none⟩ = some (.int .i64 (x.g.place : Int)) ∧ w.cell? ⟨b, o + i * 4 + 1, none⟩ = some (.bool x.g.one) ∧
    w.cell? ⟨b, o + i * 4 + 2, none⟩ = some (.string ⟨x.g.name.toArray⟩) ∧ w.cell? ⟨b, o + i * 4 + 3, none⟩ = some (.slice x.a x.g.mem.length x.c) := by
  have hl : 0 < L.length := by have := (List.getElem?_eq_some_iff.1 hx).1; omega
  obtain ⟨b, o, e, hlt, hc⟩ := h.row hl
  exact ⟨b, o, e, hlt, hc i x hx 0 _ rfl, hc i x hx 1 _ rfl, hc i x hx 2 _ rfl, hc i x hx 3 _ rfl⟩
/-- One of the members: where it lies. -/
theorem Mems.at_ {M : List Nat} (h : Mems w B a M) {i m : Nat} (hm : M[i]? = some m) : ∃ b o, a = some ⟨b, o, none⟩ ∧ b < B ∧ w.cell? ⟨b, o + i, none⟩ = some (.int .i64 (m : Int)) := by
  have hl : 0 < M.length := by have := (List.getElem?_eq_some_iff.1 hm).1; omega
  obtain ⟨b, o, e, hlt, hc⟩ := h hl
  have := hc i m hm 0 _ rfl
  rw [Nat.mul_one, Nat.add_zero] at this
  exact ⟨b, o, e, hlt, this⟩
end
/-- A row of groups of the call's own, their members too. -/
def OwnG (T : TypeId) (w : World) (base : Nat) (v : Value) (R : List Grp) : Prop := ∃ L : List GLay, L.map (·.g) = R ∧ w.ownsRow base T 4 v L.length (cellsF GLay.cells L) ∧ ∀ x ∈ L, OwnM w base (.slice x.a x.g.mem.length x.c) x.g.mem
section
variable {T : TypeId} {w w' : World} {base base' : Nat} {v : Value} {R : List Grp}
theorem OwnG.later (H : OwnG T w base v R) (hb : Below w.heap.size w w') : OwnG T w' base v R := by
  obtain ⟨L, h1, h2, h3⟩ := H
  exact ⟨L, h1, row_below h2 hb, fun q hq => row_below (h3 q hq) hb⟩
theorem ownm_ok {x : GLay} (h : OwnM w base (.slice x.a x.g.mem.length x.c) x.g.mem) : x.Ok w w.heap.size := by
  obtain ⟨A', c', e', hc, hm, hr⟩ := own_row mem_one h
  injection e' with e1 e2 e3
  exact ⟨by rw [e1]; exact hr, by rw [e3]; exact hc, by rw [e3]; exact hm⟩
end

/-! ### Rows of rows of truths -/
/-- A row of truths, with where it is. -/
structure BLay where
  a : Option Addr
  c : Nat
  l : List Bool
def BLay.val (q : BLay) : Value := .slice q.a q.l.length q.c
def BLay.cells1 (q : BLay) : List Value := [q.val]
theorem blay_one (q : BLay) : q.cells1.length = 1 := rfl
def boolC (b : Bool) : List Value := [.bool b]
theorem bool_one (b : Bool) : (boolC b).length = 1 := rfl
theorem bool_map (M : List Bool) : cellsF boolC M = M.map Value.bool := by
  induction M with
  | nil => rfl
  | cons m M ih => simp only [cellsF, List.flatMap_cons, List.map_cons] at ih ⊢; rw [ih]; rfl
abbrev Truths (w : World) (B : Nat) (a : Option Addr) (M : List Bool) : Prop := Row 1 boolC w B a M
abbrev OwnB (w : World) (base : Nat) (v : Value) (M : List Bool) : Prop := w.ownsRow base 4 1 v M.length (cellsF boolC M)
structure BRows (w : World) (B : Nat) (a : Option Addr) (Q : List BLay) : Prop where
  row : Row 1 BLay.cells1 w B a Q
  ok : ∀ q ∈ Q, Truths w B q.a q.l
section
variable {w w' : World} {B B' : Nat} {a : Option Addr} {Q : List BLay}
theorem BRows.below (h : BRows w B a Q) (hb : Below B w w') : BRows w' B a Q := ⟨h.row.below hb, fun q hq => Row.below (h.ok q hq) hb⟩
theorem BRows.more (h : BRows w B a Q) (hB : B ≤ B') : BRows w B' a Q := ⟨h.row.more hB, fun q hq => Row.more (h.ok q hq) hB⟩
theorem BRows.up (h : BRows w w.heap.size a Q) (hb : Below w.heap.size w w') : BRows w' w'.heap.size a Q := (h.below hb).more hb.size
theorem BRows.at_ (h : BRows w B a Q) {i : Nat} {q : BLay} (hq : Q[i]? = some q) : ∃ b o, a = some ⟨b, o, none⟩ ∧ b < B ∧ w.cell? ⟨b, o + i, none⟩ = some (.slice q.a q.l.length q.c) := by
  have hl : 0 < Q.length := by have := (List.getElem?_eq_some_iff.1 hq).1; omega
  obtain ⟨b, o, e, hlt, hc⟩ := h.row hl
  have := hc i q hq 0 _ rfl
  rw [Nat.mul_one, Nat.add_zero] at this
  exact ⟨b, o, e, hlt, this⟩
theorem Truths.at_ {M : List Bool} (h : Truths w B a M) {i : Nat} {m : Bool} (hm : M[i]? = some m) : ∃ b o, a = some ⟨b, o, none⟩ ∧ b < B ∧ w.cell? ⟨b, o + i, none⟩ = some (.bool m) := by
  have hl : 0 < M.length := by have := (List.getElem?_eq_some_iff.1 hm).1; omega
  obtain ⟨b, o, e, hlt, hc⟩ := h hl
  have := hc i m hm 0 _ rfl
  rw [Nat.mul_one, Nat.add_zero] at this
  exact ⟨b, o, e, hlt, this⟩
end

end Go.Proofs.YtejicboemkpeoaaDoor

namespace Go.Proofs.YtejicboemkpeoaaDoor
open Go Go.RowKit

/-- Nothing turned but some blocks, and new ones. -/
def But (P : Nat → Prop) (w w' : World) : Prop := Below 0 w w' ∧ ∀ k, k < w.heap.size → ¬ P k → w'.heap[k]? = w.heap[k]?
section
variable {P : Nat → Prop} {a b c w w' : World}
theorem But.refl (P : Nat → Prop) (w : World) : But P w w := ⟨Below.refl _ _, fun _ _ _ => rfl⟩
theorem But.trans (h : But P a b) (k : But P b c) : But P a c := ⟨h.1.trans k.1, fun i hi hp => (k.2 i (Nat.lt_of_lt_of_le hi h.1.size) hp).trans (h.2 i hi hp)⟩
theorem But.grown {row : Option Nat} (h : But P a b) (k : b.grownBy c row) (hr : ∀ x, row = some x → P x ∨ a.heap.size ≤ x) : But P a c :=
  ⟨h.1.trans (below_of_only k (Nat.zero_le _) (fun _ _ => Nat.zero_le _)), fun i hi hp => (k.block i (Nat.lt_of_lt_of_le hi h.1.size) (fun e => by
    rcases hr i e.symm with h1 | h1
    · exact hp h1
    · omega)).trans (h.2 i hi hp)⟩
theorem But.then_ (h : But P a b) (k : Below b.heap.size b c) : But P a c := h.grown (only_below k none) (by simp)
theorem But.of_below (k : Below a.heap.size a c) : But P a c := (But.refl P a).then_ k
theorem But.below (h : But P a b) {B : Nat} (hB : B ≤ a.heap.size) (hP : ∀ k, P k → B ≤ k) : Below B a b :=
  ⟨h.1.os, h.1.tape, h.1.output, h.1.size, fun k hk => h.2 k (by omega) (fun hp => by have := hP k hp; omega)⟩
theorem But.mono {Q : Nat → Prop} (h : But P a b) (hq : ∀ k, k < a.heap.size → P k → Q k) : But Q a b := ⟨h.1, fun k hk hn => h.2 k hk (fun hp => hn (hq k hk hp))⟩
theorem But.box (h : But P a b) {g : Nat} {t : TypeId} {cs : Array Value} (hX : Box a g t cs) (hg : ¬ P g) : Box b g t cs := (h.2 g hX.lt hg).trans hX
theorem But.row (h : But P a b) {base n size : Nat} {e : TypeId} {v : Value} {xs : List Value} (hr : a.ownsRow base e size v n xs) (hv : ∀ k, v.ownBlock = some k → ¬ P k) : b.ownsRow base e size v n xs := by
  refine ⟨hr.1, ?_⟩
  rcases hr.2 with h1 | ⟨g, cap, cur, e1, e2, hg, r⟩
  · exact .inl h1
  · refine .inr ⟨g, cap, cur, e1, e2, (h.2 g ?_ (hv g (by rw [e1]; rfl))).trans hg, r⟩
    rcases Nat.lt_or_ge g a.heap.size with h1 | h1
    · exact h1
    · rw [Array.getElem?_eq_none h1] at hg; cases hg
theorem row_heap {base n size : Nat} {e : TypeId} {v : Value} {xs : List Value} {x : Nat} (h : w.ownsRow base e size v n xs) (hx : v.ownBlock = some x) : ∃ cs f, w.heap[x]? = some (.cells cs e f) := by
  rcases h.2 with ⟨rfl, _⟩ | ⟨g, cap, cur, rfl, _, hh, _⟩
  · cases hx
  · have hx' : g = x := by simpa [Value.ownBlock] using hx
    subst hx'
    exact ⟨_, _, hh⟩
/-- A row's block is none of another kind. -/
theorem row_other {base n size : Nat} {e t : TypeId} {v : Value} {xs : List Value} {mb : Nat} {cs : Array Value} {f : Nat × Nat} (h : w.ownsRow base e size v n xs) (hg : w.heap[mb]? = some (.cells cs t f)) (hne : e ≠ t) : ∀ k, v.ownBlock = some k → k ≠ mb := by
  rintro k hk rfl
  rcases h.2 with ⟨rfl, _⟩ | ⟨g, cap, cur, rfl, _, hh, _⟩
  · cases hk
  · injection hk with hk
    rw [← hk, hh] at hg
    injection hg with hg
    injection hg with _ h2
    exact hne h2
end

/-! ### Truths that are stored one by one -/
/-- A row of n truths of the call's own, in the block mb. -/
def Met (w : World) (base mb n : Nat) (M : List Bool) : Prop := M.length = n ∧ w.ownsRow base 4 1 (.slice (some ⟨mb, 0, none⟩) n n) n (cellsF boolC M)
section
variable {w w' : World} {base mb n : Nat} {M : List Bool}
theorem Met.lt (h : Met w base mb n M) : base ≤ mb ∧ mb < w.heap.size := h.2.lt mb rfl
theorem Met.cell (h : Met w base mb n M) {i : Nat} {b : Bool} (hi : M[i]? = some b) : w.cell? ⟨mb, i, none⟩ = some (.bool b) := by
  have hin : i < n := by rw [← h.1]; exact (List.getElem?_eq_some_iff.1 hi).1
  have h1 := World.ownsRow.cellAt (g := mb) (cap := n) h.2 i (by omega)
  rw [h1, bool_map, List.getElem?_map, hi]; rfl
theorem Met.free (h : Met w base mb n M) (i : Nat) : w.frozen? ⟨mb, i, none⟩ = false := World.ownsRow.frozenAt (g := mb) (cap := n) h.2 i
theorem Met.box (h : Met w base mb n M) : ∃ cs f, w.heap[mb]? = some (.cells cs 4 f) := by
  rcases h.2.2 with ⟨e, _⟩ | ⟨g, cap, cur, e, _, hh, _⟩
  · cases e
  · injection e with e1 e2 e3
    injection e1 with e1
    injection e1 with e1
    subst e1
    exact ⟨_, _, hh⟩
theorem Met.but {P : Nat → Prop} (h : Met w base mb n M) (hb : But P w w') (hp : ¬ P mb) : Met w' base mb n M := ⟨h.1, hb.row h.2 (fun k hk => by injection hk with hk; exact hk ▸ hp)⟩
theorem Met.below (h : Met w base mb n M) (hb : Below w.heap.size w w') : Met w' base mb n M := h.but (P := fun _ => False) (But.of_below hb) (fun h => h)
theorem Met.grown (h : Met w base mb n M) {row : Option Nat} (hb : w.grownBy w' row) (hne : some mb ≠ row) : Met w' base mb n M := h.but (P := fun k => some k = row) ((But.refl _ w).grown hb (fun _ hx => .inl hx.symm)) hne
/-- Its row, as truths of the call's own. -/
theorem Met.own (h : Met w base mb n M) : OwnB w base (.slice (some ⟨mb, 0, none⟩) n n) M := by
  show w.ownsRow _ _ _ _ M.length _
  rw [h.1]; exact h.2
end

end Go.Proofs.YtejicboemkpeoaaDoor

namespace Go.Proofs.YtejicboemkpeoaaDoor
open Go Go.RowKit

/-- The document's map: its block, its places, the sizes of their sections, its symbols. -/
structure LinkAt (w : World) (B g : Nat) (P : List Place) (S : List Nat) (Y : List Named) : Prop where
  lt : g < B
  at_ : ∃ aP cP aS cS aY cY, Box w g 56 #[.slice aP P.length cP, .slice aS S.length cS, .slice aY Y.length cY] ∧ Row 3 Place.cells w B aP P ∧ Row 1 sizC w B aS S ∧ Row 2 Named.cells w B aY Y
section
variable {w w' : World} {B B' g : Nat} {P : List Place} {S : List Nat} {Y : List Named}
theorem LinkAt.below (h : LinkAt w B g P S Y) (hb : Below B w w') : LinkAt w' B g P S Y := by
  obtain ⟨h1, aP, cP, aS, cS, aY, cY, hB, hp, hs, hy⟩ := h
  exact ⟨h1, aP, cP, aS, cS, aY, cY, hB.below hb h1, hp.below hb, hs.below hb, hy.below hb⟩
theorem LinkAt.more (h : LinkAt w B g P S Y) (hB : B ≤ B') : LinkAt w B' g P S Y := by
  obtain ⟨h1, aP, cP, aS, cS, aY, cY, hb, hp, hs, hy⟩ := h
  exact ⟨by omega, aP, cP, aS, cS, aY, cY, hb, hp.more hB, hs.more hB, hy.more hB⟩
theorem LinkAt.up (h : LinkAt w w.heap.size g P S Y) (hb : Below w.heap.size w w') : LinkAt w' w'.heap.size g P S Y := (h.below hb).more hb.size
end
/-- What Out, In, Whole, Sym tell. -/
def outA (P : List Place) (o s : Int) : Nat := match outK P o s with | none => 0 | some k => match P[k]? with | none => 0 | some p => p.addr
def inI (P : List Place) (S : List Nat) (a : Nat) : Int := match inK P S a with | none => -1 | some k => (k : Int)
def nameA (Y : List Named) (n : List UInt8) : Nat := match nameK Y n with | none => 18446744073709551615 | some k => match Y[k]? with | none => 0 | some s => s.addr

set_option maxRecDepth 10000 in
set_option maxHeartbeats 1600000 in
theorem rlout_any {w : World} {B g : Nat} {P : List Place} {S : List Nat} {Y : List Named} (h : LinkAt w B g P S Y) (o s : Int) (hl : P.length ≤ 1000) :
    Calls Tryd.prog 11 #[.pointer (some ⟨g, 0, none⟩), .int .i64 o, .int .i64 s] w fun r w' => r = .returned (.tuple #[.int .u64 ((outA P o s : Nat) : Int), .bool (outK P o s).isSome]) ∧ w = w' := by
  obtain ⟨_, aP, cP, aS, cS, aY, cY, hX, hp, _, _⟩ := h
  have c0 := hX.cell 0
  simp at c0
  obtain ⟨N, hN⟩ : ∃ N, P.length = N := ⟨_, rfl⟩
  have HN := Lib.hid hN
  have HP := Lib.hid hp
  rw [hN] at c0 hl
  clear hX hp hN
  go_enter Tryd.func11, Tryd.ntmps11
  go_wp2_with fail
  go_loop [8] (fun i => ∃ k : Nat, i = .int .i64 k ∧ k ≤ N ∧ Hid ((P.take k).all (fun p => !(hasP o s p)) = true)) (fun i => N - (intOf i).toNat)
  case atStart => exact ⟨0, rfl, Nat.zero_le _, Lib.hid rfl⟩
  case round =>
    obtain ⟨k, rfl, hk, HT⟩ := hrel
    by_cases hlt : k < N
    · obtain ⟨p, hpk⟩ : ∃ p, P[k]? = some p := ⟨P[k]'(by rw [HN.out]; exact hlt), List.getElem?_eq_getElem _⟩
      obtain ⟨b, q, rfl, hb, c1, c2, c3⟩ := place_at HP.out hpk
      by_cases ho : hasP o s p = true
      · have HF := Lib.hid (firstK_take P 0 k p hpk HT.out ho)
        have HA := Lib.hid (show outA P o s = p.addr by unfold outA outK; rw [HF.out]; simp [hpk])
        have HB := Lib.hid (show (outK P o s).isSome = true by unfold outK; rw [HF.out]; rfl)
        simp only [hasP, Bool.and_eq_true, decide_eq_true_eq] at ho
        obtain ⟨rfl, rfl⟩ := ho
        clear hpk HF HT
        generalize p.addr = pa at *
        generalize hpo : p.obj = po at *
        generalize hps : p.sect = ps at *
        go_wp2_with fail
        go_ret2
        exact ⟨by rw [HA.out, HB.out]; rfl, rfl⟩
      · have ho' : hasP o s p = false := by simpa using ho
        have HT1 := Lib.hid (all_next (q := fun p => !(hasP o s p)) HT.out hpk (by simp [ho']))
        by_cases h1 : p.obj = o
        · have h2 : ¬ p.sect = s := fun e => by simp [hasP, h1, e] at ho'
          subst h1
          have q2 : (p.sect == s) = false := by simp [h2]
          clear hpk ho ho' HT
          generalize p.addr = pa at *
          generalize p.obj = po at *
          generalize p.sect = ps at *
          go_wp2_with fail
          exact ⟨⟨k + 1, by go_num, by omega, HT1⟩, by simp [intOf]; omega⟩
        · have q1 : (p.obj == o) = false := by simp [h1]
          clear hpk ho ho' HT
          generalize p.addr = pa at *
          generalize p.obj = po at *
          generalize p.sect = ps at *
          go_wp2_with fail
          exact ⟨⟨k + 1, by go_num, by omega, HT1⟩, by simp [intOf]; omega⟩
    · have hkN : k = N := by omega
      have HF := Lib.hid (show outK P o s = none from firstK_none P 0 (by
        have := HT.out
        rwa [List.take_of_length_le (by rw [HN.out]; omega)] at this))
      clear HT
      go_wp2_with fail
      go_ret2
      exact ⟨by simp only [outA, HF.out]; rfl, rfl⟩

set_option maxRecDepth 10000 in
set_option maxHeartbeats 1600000 in
theorem rlsym_any {w : World} {B g : Nat} {P : List Place} {S : List Nat} {Y : List Named} (h : LinkAt w B g P S Y) (n : List UInt8) (hl : Y.length ≤ 1000) :
    Calls Tryd.prog 18 #[.pointer (some ⟨g, 0, none⟩), .string ⟨n.toArray⟩] w fun r w' => r = .returned (.int .u64 ((nameA Y n : Nat) : Int)) ∧ w = w' := by
  obtain ⟨_, aP, cP, aS, cS, aY, cY, hX, _, _, hp⟩ := h
  have c0 := hX.cell 2
  simp at c0
  obtain ⟨N, hN⟩ : ∃ N, Y.length = N := ⟨_, rfl⟩
  have HN := Lib.hid hN
  have HP := Lib.hid hp
  rw [hN] at c0 hl
  clear hX hp hN
  go_enter Tryd.func18, Tryd.ntmps18
  go_wp2_with fail
  go_loop [5] (fun i => ∃ k : Nat, i = .int .i64 k ∧ k ≤ N ∧ Hid ((Y.take k).all (fun p => !(decide (p.name = n))) = true)) (fun i => N - (intOf i).toNat)
  case atStart => exact ⟨0, rfl, Nat.zero_le _, Lib.hid rfl⟩
  case round =>
    obtain ⟨k, rfl, hk, HT⟩ := hrel
    by_cases hlt : k < N
    · obtain ⟨p, hpk⟩ : ∃ p, Y[k]? = some p := ⟨Y[k]'(by rw [HN.out]; exact hlt), List.getElem?_eq_getElem _⟩
      obtain ⟨b, q, rfl, hb, c1, c2⟩ := named_at HP.out hpk
      have hq := str_eq p.name n
      by_cases ho : p.name = n
      · have HF := Lib.hid (firstK_take (p := fun s : Named => decide (s.name = n)) Y 0 k p hpk HT.out (by simp [ho]))
        have HA := Lib.hid (show nameA Y n = p.addr by unfold nameA nameK; rw [HF.out]; simp [hpk])
        rw [decide_eq_true ho] at hq
        clear hpk HF HT ho
        generalize p.addr = pa at *
        generalize ByteArray.mk p.name.toArray = sb at *
        generalize ByteArray.mk n.toArray = tb at *
        go_wp2_with fail
        go_ret
        exact ⟨by rw [HA.out]; rfl, rfl⟩
      · have HT1 := Lib.hid (all_next (q := fun p : Named => !(decide (p.name = n))) HT.out hpk (by simp [ho]))
        rw [decide_eq_false ho] at hq
        clear hpk ho HT
        generalize p.addr = pa at *
        generalize ByteArray.mk p.name.toArray = sb at *
        generalize ByteArray.mk n.toArray = tb at *
        go_wp2_with fail
        exact ⟨⟨k + 1, by go_num, by omega, HT1⟩, by simp [intOf]; omega⟩
    · have HF := Lib.hid (show nameK Y n = none from firstK_none Y 0 (by
        have := HT.out
        rwa [List.take_of_length_le (by rw [HN.out]; omega)] at this))
      clear HT
      go_wp2_with fail
      go_ret
      exact ⟨by simp only [nameA, HF.out]; rfl, rfl⟩

end Go.Proofs.YtejicboemkpeoaaDoor

namespace Go.Proofs.YtejicboemkpeoaaDoor
open Go Go.RowKit

/-- The blocks that read turns. -/
abbrev ReadP (g mb : Nat) : Nat → Prop := fun k => k = g ∨ k = mb
section
variable {w0 w w' : World} {g gc base mb n i : Nat} {sb : ByteArray} {one : Bool} {vc v : Value} {d : List UInt8} {M b : List Bool} {k : Nat}
end

end Go.Proofs.YtejicboemkpeoaaDoor

namespace Go.Proofs.YtejicboemkpeoaaDoor
open Go Go.RowKit

/-- No section of the first k is one of symbols. -/
def NoTab (S : List Sect) (k : Nat) : Prop := ∀ (j : Nat) (t : Sect), j < k → S[j]? = some t → t.kind ≠ 2
theorem NoTab.next {S : List Sect} {k : Nat} {s : Sect} (h : NoTab S k) (hs : S[k]? = some s) (hk : s.kind ≠ 2) : NoTab S (k + 1) := fun j t hj ht => by
  rcases Nat.lt_or_ge j k with h1 | h1
  · exact h j t h1 ht
  · rw [show j = k by omega, hs] at ht
    injection ht with ht
    exact ht ▸ hk
theorem NoTab.all {S : List Sect} (h : NoTab S S.length) : tabG S = -1 := tabG_none fun j t ht => h j t (List.getElem?_eq_some_iff.1 ht).1 ht

end Go.Proofs.YtejicboemkpeoaaDoor

namespace Go.Proofs.YtejicboemkpeoaaDoor
open Go Go.RowKit

/-- Groups of the call's own that lie side by side, their members too. -/
structure GSt (T : TypeId) (w : World) (base : Nat) (v : Value) (L : List GLay) : Prop where
  row : w.ownsRow base T 4 v L.length (cellsF GLay.cells L)
  mem : ∀ x ∈ L, OwnM w base (.slice x.a x.g.mem.length x.c) x.g.mem
theorem GLay.one (x : GLay) : ∀ u ∈ x.cells, u.oneCell' = true := fun u hu => by
  simp only [GLay.cells, List.mem_cons, List.not_mem_nil, or_false] at hu
  rcases hu with rfl | rfl | rfl | rfl <;> rfl
section
variable {T : TypeId} {w w' : World} {base base' : Nat} {v v' : Value} {L : List GLay} {x : GLay}
theorem GSt.nil (T : TypeId) (w : World) (base : Nat) : GSt T w base (.slice none 0 0) [] := ⟨World.ownsRow_nil _ _ _ _, fun _ h => by cases h⟩
theorem GSt.but {P : Nat → Prop} (h : GSt T w base v L) (hb : But P w w') (h1 : ∀ k, v.ownBlock = some k → ¬ P k) (h2 : ∀ x ∈ L, ∀ k, (Value.slice x.a x.g.mem.length x.c).ownBlock = some k → ¬ P k) : GSt T w' base v L :=
  ⟨hb.row h.row h1, fun x hx => hb.row (h.mem x hx) (h2 x hx)⟩
theorem GSt.below (h : GSt T w base v L) (hb : Below w.heap.size w w') : GSt T w' base v L := ⟨row_below h.row hb, fun x hx => row_below (h.mem x hx) hb⟩
theorem GSt.own (h : GSt T w base v L) : OwnG T w base v (L.map (·.g)) := ⟨L, rfl, h.row, h.mem⟩
/-- One more, its members at hand. -/
theorem GSt.more (h : GSt T w base v L) (hx : OwnM w base (.slice x.a x.g.mem.length x.c) x.g.mem) (hT : 3 ≠ T) (hown : w'.ownsRow base T 4 v' (L.length + 1) (cellsF GLay.cells L ++ x.cells)) (hg : w.grownBy w' v.ownBlock) : GSt T w' base v' (L ++ [x]) := by
  refine ⟨by rw [List.length_append, cellsF_append, cellsF_one]; exact hown, fun y hy => ?_⟩
  have hk : ∀ z : GLay, OwnM w base (.slice z.a z.g.mem.length z.c) z.g.mem → OwnM w' base (.slice z.a z.g.mem.length z.c) z.g.mem := fun z hz =>
    ((But.refl (fun k => some k = v.ownBlock) w).grown hg (fun x hx => .inl hx.symm)).row hz (fun k hk hp => by
      obtain ⟨cs, f, hb⟩ := row_heap h.row hp.symm
      exact row_other hz hb hT k hk rfl)
  rcases List.mem_append.1 hy with hy | hy
  · exact hk y (h.mem y hy)
  · obtain rfl := List.mem_singleton.1 hy
    exact hk _ hx
end
end Go.Proofs.YtejicboemkpeoaaDoor

namespace Go.Proofs.YtejicboemkpeoaaDoor
open Go Go.RowKit Go.Maps

/-- A set of names in memory, the call's own. -/
def SetAt (w : World) (base mb : Nat) (names : List (List UInt8)) : Prop :=
  base ≤ mb ∧ ∃ (n : Nat) (ls : List (List UInt8)), n ≤ names.length ∧ w.ownsMap Tryd.prog 9 (unitElem (H := Unit)) mb n (setT ls) ∧ ∀ t, t ∈ ls ↔ t ∈ names
section
variable {w w' : World} {base mb : Nat} {names : List (List UInt8)}
theorem own_map_block {k : TypeId} {R : Value → Option (DataW Unit × List MemPlace)} {n : Nat} {D : DataW Unit} (h : w.ownsMap Tryd.prog k R mb n D) : ∃ es c, w.heap[mb]? = some (.map es c) := by
  obtain ⟨es, c, hm, _⟩ := h
  exact ⟨es, c, hm⟩
theorem SetAt.block (h : SetAt w base mb names) : ∃ es c, w.heap[mb]? = some (.map es c) := by
  obtain ⟨-, n, ls, -, h, -⟩ := h
  exact own_map_block h
theorem SetAt.lt (h : SetAt w base mb names) : mb < w.heap.size := by
  obtain ⟨es, c, hm⟩ := h.block
  rcases Nat.lt_or_ge mb w.heap.size with h1 | h1
  · exact h1
  · rw [Array.getElem?_eq_none h1] at hm; cases hm
theorem own_map_but {k : TypeId} {R : Value → Option (DataW Unit × List MemPlace)} {n : Nat} {D : DataW Unit} {P : Nat → Prop} (h : w.ownsMap Tryd.prog k R mb n D) (hb : But P w w') (hp : ¬ P mb) : w'.ownsMap Tryd.prog k R mb n D := by
  obtain ⟨es, c, hm, r⟩ := h
  have hlt : mb < w.heap.size := by
    rcases Nat.lt_or_ge mb w.heap.size with h1 | h1
    · exact h1
    · rw [Array.getElem?_eq_none h1] at hm; cases hm
  exact ⟨es, c, (hb.2 mb hlt hp).trans hm, r⟩
theorem SetAt.but {P : Nat → Prop} (h : SetAt w base mb names) (hb : But P w w') (hp : ¬ P mb) : SetAt w' base mb names := by
  obtain ⟨h0, n, ls, h1, h2, h3⟩ := h
  exact ⟨h0, n, ls, h1, own_map_but h2 hb hp, h3⟩
theorem SetAt.below (h : SetAt w base mb names) (hb : Below w.heap.size w w') : SetAt w' base mb names := h.but (P := fun _ => False) (But.of_below hb) (fun h => h)
end
end Go.Proofs.YtejicboemkpeoaaDoor

namespace Go.Proofs.YtejicboemkpeoaaDoor
open Go Go.RowKit Go.Maps

theorem sec_cells : Tryd.prog.cellsOf 81 = 2 := by kernel_rfl
theorem sec_int : Tryd.prog.cellsOf 3 = 1 := by kernel_rfl
set_option maxRecDepth 100000 in
theorem sec_row : (81 : TypeId) < Tryd.prog.types.size := of_decide_eq_true (by kernel_rfl)
theorem sec_wide : (match Tryd.prog.underlying 81 with | some (.array _ _) | some (.struct _) => true | _ => false) = true := by kernel_rfl
theorem sec_laid : laidOutB Tryd.prog = true := by kernel_rfl
set_option maxRecDepth 100000 in
theorem sec_law : Keyed Tryd.prog 81 := Keyed.of_law (deep_law_laid sec_laid (m := 2) (Nat.le_of_ble_eq_true rfl) sec_row (by kernel_rfl) sec_wide)
theorem sec_key : Tryd.prog.keyType 81 = true := by kernel_rfl
/-- What a section reads as, as a key. -/
def keyS (o s : Int) : Lit := .string (keyBytes [.int .i64 o, .int .i64 s])
theorem wf_i64 {o : Int} (h : InI o) : (Lit.int .i64 o).wf = true := by
  obtain ⟨h1, h2⟩ := h
  show (decide (IntKind.i64.min ≤ o) && decide (o ≤ IntKind.i64.max)) = true
  rw [Bool.and_eq_true, decide_eq_true_eq, decide_eq_true_eq]
  exact ⟨h1, h2⟩
theorem wf_u64 {n : Nat} (h : n < two64) : (Lit.int .u64 (n : Int)).wf = true := by
  unfold two64 at h
  show (decide (IntKind.u64.min ≤ (n : Int)) && decide ((n : Int) ≤ IntKind.u64.max)) = true
  rw [Bool.and_eq_true, decide_eq_true_eq, decide_eq_true_eq, show IntKind.u64.min = 0 from rfl, show IntKind.u64.max = 18446744073709551615 from rfl]
  omega
theorem keyLits_sec (d : Nat) {o s : Int} (ho : InI o) (hs : InI s) : Tryd.prog.keyLits (d + 2) 81 [.int .i64 o, .int .i64 s] = some [.int .i64 o, .int .i64 s] := by
  have hu := Tryd.underlying81
  have hi := Tryd.underlying3
  have h1 := wf_i64 ho
  have h2 := wf_i64 hs
  simp [Program.keyLits, hu, hi, sec_cells, sec_int, h1, h2]
theorem key_sec {o s : Int} (ho : InI o) (hs : InI s) : keyOf Tryd.prog 81 (.agg #[.int .i64 o, .int .i64 s]) = some (keyS o s) := by
  have hu := Tryd.underlying81
  unfold keyOf
  simp only [hu, sec_key, Value.formed, sec_cells, Value.cells, keyS]
  obtain ⟨d, hd⟩ : ∃ d, Tryd.prog.types.size + 1 = d + 2 := ⟨Tryd.prog.types.size - 1, by have := Nat.lt_of_le_of_lt (Nat.zero_le _) sec_row; omega⟩
  rw [hd, keyLits_sec d ho hs]
  rfl
theorem keyS_inj {o s o' s' : Int} (ho : InI o) (hs : InI s) (ho' : InI o') (hs' : InI s') (h : keyS o s = keyS o' s') : o = o' ∧ s = s' := by
  have := sec_law.inj (key_sec ho hs) (h ▸ key_sec ho' hs')
  injection this with this
  injection this with this
  simpa using this

/-- A map of sections tells the places. -/
structure PMap (w : World) (base mb : Nat) (P : List Place) : Prop where
  ge : base ≤ mb
  own : ∃ (n : Nat) (D : DataW Unit), n ≤ P.length ∧ w.ownsMap Tryd.prog 81 (plainElem Tryd.prog 41) mb n D ∧ IsMap D ∧ ∀ o s, InI o → InI s → Maps.has D (keyS o s) = (outK P o s).isSome ∧ D.atKey (keyS o s) (.lit (.int .u64 0)) = .lit (.int .u64 (outA P o s : Nat))
/-- A map of names tells the symbols. -/
structure YMap (w : World) (base mb : Nat) (Y : List Named) : Prop where
  ge : base ≤ mb
  own : ∃ (n : Nat) (D : DataW Unit), n ≤ Y.length ∧ w.ownsMap Tryd.prog 9 (plainElem Tryd.prog 41) mb n D ∧ IsMap D ∧ ∀ t : List UInt8, t.length ≤ maxLen → Maps.has D (keyT t) = (nameK Y t).isSome ∧ ((nameK Y t).isSome = true → D.atKey (keyT t) (.lit (.int .u64 0)) = .lit (.int .u64 (nameA Y t : Nat)))

theorem firstK_snoc {α : Type} (p : α → Bool) (x : α) : ∀ (l : List α) (i : Nat), firstK p i (l ++ [x]) = match firstK p i l with | some k => some k | none => if p x then some (i + l.length) else none
  | [], i => by simp [firstK]
  | y :: l, i => by
    simp only [List.cons_append, firstK]
    by_cases hy : p y = true
    · simp [hy]
    · simp only [hy]
      have := firstK_snoc p x l (i + 1)
      simp only [Bool.false_eq_true, if_false]
      rw [this]
      cases firstK p (i + 1) l with
      | some k => rfl
      | none => simp only [List.length_cons]; rw [show i + 1 + l.length = i + (l.length + 1) by omega]
theorem firstK_lt {α : Type} {p : α → Bool} {l : List α} {k : Nat} (h : firstK p 0 l = some k) : k < l.length := by
  obtain ⟨x, hx, -⟩ := firstK_some (i := 0) (by rw [Nat.zero_add]; exact h)
  exact (List.getElem?_eq_some_iff.1 hx).1
/-- What a place more tells. -/
theorem outA_snoc {P : List Place} {p : Place} (hn : outK P p.obj p.sect = none) (o s : Int) :
    (outK (P ++ [p]) o s).isSome = (if o = p.obj ∧ s = p.sect then true else (outK P o s).isSome) ∧ outA (P ++ [p]) o s = if o = p.obj ∧ s = p.sect then p.addr else outA P o s := by
  unfold outA outK at *
  rw [firstK_snoc]
  by_cases h : o = p.obj ∧ s = p.sect
  · obtain ⟨rfl, rfl⟩ := h
    rw [hn]
    simp [hasP]
  · have hp : hasP o s p = false := by
      unfold hasP
      rw [Bool.and_eq_false_iff]
      by_cases e : p.obj = o
      · exact .inr (decide_eq_false (fun e2 => h ⟨e.symm, e2.symm⟩))
      · exact .inl (decide_eq_false e)
    rw [if_neg h, if_neg h]
    cases hk : firstK (hasP o s) 0 P with
    | none => simp [hp]
    | some k =>
      have := firstK_lt hk
      simp [List.getElem?_append_left this]
theorem nameA_snoc {Y : List Named} {y : Named} (hn : nameK Y y.name = none) (t : List UInt8) :
    (nameK (Y ++ [y]) t).isSome = (if t = y.name then true else (nameK Y t).isSome) ∧ nameA (Y ++ [y]) t = if t = y.name then y.addr else nameA Y t := by
  unfold nameA nameK at *
  rw [firstK_snoc]
  by_cases h : t = y.name
  · subst h
    rw [hn]
    simp
  · rw [if_neg h, if_neg h]
    cases hk : firstK (fun s : Named => decide (s.name = t)) 0 Y with
    | none =>
      have h' : ¬ y.name = t := fun e => h e.symm
      simp [h']
    | some k =>
      have := firstK_lt hk
      simp [List.getElem?_append_left this]

section
variable {w w' : World} {base mb : Nat} {P : List Place} {Y : List Named}
theorem pmap_made (w : World) : PMap (w.alloc (.map #[] 0)) w.heap.size w.heap.size [] :=
  ⟨Nat.le_refl _, 0, .map [], Nat.le_refl _, World.ownsMap_made w _ _ _, isMap_empty, fun _ _ _ _ => ⟨rfl, rfl⟩⟩
theorem ymap_made (w : World) : YMap (w.alloc (.map #[] 0)) w.heap.size w.heap.size [] :=
  ⟨Nat.le_refl _, 0, .map [], Nat.le_refl _, World.ownsMap_made w _ _ _, isMap_empty, fun _ _ => ⟨rfl, fun h => by cases h⟩⟩
theorem PMap.block (h : PMap w base mb P) : ∃ es c, w.heap[mb]? = some (.map es c) := by
  obtain ⟨-, n, D, -, h, -⟩ := h
  exact own_map_block h
theorem YMap.block (h : YMap w base mb Y) : ∃ es c, w.heap[mb]? = some (.map es c) := by
  obtain ⟨-, n, D, -, h, -⟩ := h
  exact own_map_block h
theorem PMap.same (h : PMap w base mb P) (hb : w'.heap[mb]? = w.heap[mb]?) : PMap w' base mb P := by
  obtain ⟨h0, n, D, h1, ⟨es, c, hm, r⟩, h3⟩ := h
  exact ⟨h0, n, D, h1, ⟨es, c, hb.trans hm, r⟩, h3⟩
theorem YMap.same (h : YMap w base mb Y) (hb : w'.heap[mb]? = w.heap[mb]?) : YMap w' base mb Y := by
  obtain ⟨h0, n, D, h1, ⟨es, c, hm, r⟩, h3⟩ := h
  exact ⟨h0, n, D, h1, ⟨es, c, hb.trans hm, r⟩, h3⟩
theorem PMap.lt (h : PMap w base mb P) : mb < w.heap.size := by
  obtain ⟨es, c, hm⟩ := h.block
  exact (Array.getElem?_eq_some_iff.1 hm).1
theorem YMap.lt (h : YMap w base mb Y) : mb < w.heap.size := by
  obtain ⟨es, c, hm⟩ := h.block
  exact (Array.getElem?_eq_some_iff.1 hm).1
set_option maxRecDepth 100000 in
theorem PMap.look (h : PMap w base mb P) {o s : Int} (ho : InI o) (hs : InI s) : (Instr.lookup 73 (.map (some mb)) (.agg #[.int .i64 o, .int .i64 s]) true).run Tryd.prog w = .ok (.tuple #[.int .u64 (outA P o s : Nat), .bool (outK P o s).isSome]) w := by
  obtain ⟨-, n, D, -, h, -, ht⟩ := h
  obtain ⟨h1, h2⟩ := ht o s ho hs
  obtain ⟨v, ps, hrun, hv⟩ := h.look_ok sec_law Tryd.underlying73 (zero_u64 w) (plainElem_int Tryd.underlying41 (by decide)) (key_sec ho hs)
  obtain ⟨c, rfl, hc, hwc⟩ := plainElem_int_inv Tryd.underlying41 hv
  have := congrArg Prod.fst hc
  rw [h2] at this
  injection this with this
  injection this with _ this
  rw [hrun, h1, ← this]
set_option maxRecDepth 100000 in
theorem YMap.look (h : YMap w base mb Y) {t : List UInt8} (ht : t.length ≤ maxLen) : ∃ c : Int, (Instr.lookup 75 (.map (some mb)) (.string ⟨t.toArray⟩) true).run Tryd.prog w = .ok (.tuple #[.int .u64 c, .bool (nameK Y t).isSome]) w ∧ ((nameK Y t).isSome = true → c = (nameA Y t : Nat)) := by
  obtain ⟨-, n, D, -, h, -, hh⟩ := h
  obtain ⟨h1, h2⟩ := hh t ht
  obtain ⟨v, ps, hrun, hv⟩ := h.look_ok string_law Tryd.underlying75 (zero_u64 w) (plainElem_int Tryd.underlying41 (by decide)) (key_text t ht)
  obtain ⟨c, rfl, hc, hwc⟩ := plainElem_int_inv Tryd.underlying41 hv
  refine ⟨c, by rw [hrun, h1], fun hs => ?_⟩
  have := congrArg Prod.fst hc
  rw [h2 hs] at this
  injection this with this
  injection this with _ this
  exact this.symm
set_option maxRecDepth 100000 in
/-- The same number, whatever else has turned. -/
theorem YMap.look_all (h : YMap w base mb Y) {t : List UInt8} (ht : t.length ≤ maxLen) : ∃ c : Int, (∀ w', w'.heap[mb]? = w.heap[mb]? → (Instr.lookup 75 (.map (some mb)) (.string ⟨t.toArray⟩) true).run Tryd.prog w' = .ok (.tuple #[.int .u64 c, .bool (nameK Y t).isSome]) w') ∧ ((nameK Y t).isSome = true → c = (nameA Y t : Nat)) := by
  obtain ⟨-, n, D, -, ⟨es, k, hm, hr⟩, -, hh⟩ := h
  obtain ⟨h1, h2⟩ := hh t ht
  have hrun : ∀ w', w'.heap[mb]? = w.heap[mb]? → ∃ c : Int, (Instr.lookup 75 (.map (some mb)) (.string ⟨t.toArray⟩) true).run Tryd.prog w' = .ok (.tuple #[.int .u64 c, .bool (nameK Y t).isSome]) w' ∧ D.atKey (keyT t) (.lit (.int .u64 0)) = .lit (.int .u64 c) := fun w' hw => by
    have h' : w'.ownsMap Tryd.prog 9 (plainElem Tryd.prog 41) mb n D := ⟨es, k, hw.trans hm, hr⟩
    obtain ⟨v, ps, hrun, hv⟩ := h'.look_ok string_law Tryd.underlying75 (zero_u64 w') (plainElem_int Tryd.underlying41 (by decide)) (key_text t ht)
    obtain ⟨c, rfl, hc, hwc⟩ := plainElem_int_inv Tryd.underlying41 hv
    exact ⟨c, by rw [hrun, h1], congrArg Prod.fst hc⟩
  obtain ⟨c, -, hc⟩ := hrun w rfl
  refine ⟨c, fun w' hw => ?_, fun hs => ?_⟩
  · obtain ⟨c', h3, h4⟩ := hrun w' hw
    rw [hc] at h4
    injection h4 with h4
    injection h4 with _ h4
    rw [h4]; exact h3
  · rw [h2 hs] at hc
    injection hc with hc
    injection hc with _ hc
    exact hc.symm
theorem keyS_lit (o s : Int) : WideAt.IsKeyLit (keyS o s) := trivial
set_option maxRecDepth 100000 in
theorem PMap.put (h : PMap w base mb P) {p : Place} (hp : p.Nums) (hn : outK P p.obj p.sect = none) (hl : P.length ≤ 100000) : ∃ w', (Instr.mapUpdate 73 (.map (some mb)) (.agg #[.int .i64 p.obj, .int .i64 p.sect]) (.int .u64 (p.addr : Int))).run Tryd.prog w = .ok () w' ∧ PMap w' base mb (P ++ [p]) ∧ w.grownBy w' (some mb) := by
  obtain ⟨h0, n, D, hN, h, hD, ht⟩ := h
  obtain ⟨w', hrun, how, hg⟩ := h.update sec_law Tryd.underlying73 (by unfold maxLen; omega) (key_sec hp.1 hp.2.1) (plainElem_int Tryd.underlying41 (wf_u64 hp.2.2))
  refine ⟨w', hrun, ⟨h0, n + 1, _, by simp; omega, how, hD.put _ _, fun o s ho hs => ?_⟩, hg⟩
  obtain ⟨e1, e2⟩ := outA_snoc hn o s
  by_cases e : o = p.obj ∧ s = p.sect
  · obtain ⟨rfl, rfl⟩ := e
    rw [has_put_same hD (keyS_lit _ _), atKey_put_same hD (keyS_lit _ _), e1, e2]
    simp
  · have hne : keyS o s ≠ keyS p.obj p.sect := fun hk => e (keyS_inj ho hs hp.1 hp.2.1 hk)
    rw [has_put_other hne, atKey_put_other hne, e1, e2, if_neg e, if_neg e]
    exact ht o s ho hs
theorem keyT_inj' {a b : List UInt8} (h : keyT a = keyT b) : a = b := by
  unfold keyT at h
  injection h
set_option maxRecDepth 100000 in
theorem YMap.put (h : YMap w base mb Y) {y : Named} (hy : y.Nums) (hyl : y.name.length ≤ maxLen) (hn : nameK Y y.name = none) (hl : Y.length ≤ 100000) : ∃ w', (Instr.mapUpdate 75 (.map (some mb)) (.string ⟨y.name.toArray⟩) (.int .u64 (y.addr : Int))).run Tryd.prog w = .ok () w' ∧ YMap w' base mb (Y ++ [y]) ∧ w.grownBy w' (some mb) := by
  obtain ⟨h0, n, D, hN, h, hD, ht⟩ := h
  obtain ⟨w', hrun, how, hg⟩ := h.update string_law Tryd.underlying75 (by unfold maxLen; omega) (key_text y.name hyl) (plainElem_int Tryd.underlying41 (wf_u64 hy))
  refine ⟨w', hrun, ⟨h0, n + 1, _, by simp; omega, how, hD.put _ _, fun t htl => ?_⟩, hg⟩
  obtain ⟨e1, e2⟩ := nameA_snoc hn t
  by_cases e : t = y.name
  · subst e
    rw [has_put_same hD (by unfold keyT; trivial), atKey_put_same hD (by unfold keyT; trivial), e1, e2]
    simp
  · have hne : keyT t ≠ keyT y.name := fun hk => e (keyT_inj' hk)
    rw [has_put_other hne, atKey_put_other hne, e1, e2, if_neg e, if_neg e]
    exact ht t htl
end

end Go.Proofs.YtejicboemkpeoaaDoor

namespace Go.Proofs.YtejicboemkpeoaaDoor
open Go Go.RowKit

/-! ### Rows behind steps that turn some blocks -/
section
variable {α : Type} {n : Nat} {f : α → List Value} {w w' : World} {B : Nat} {a : Option Addr} {L : List α} {P : Nat → Prop}
theorem Row.but (h : Row n f w B a L) (hb : But P w w') (hp : ∀ k, P k → B ≤ k ∨ ∃ es c, w.heap[k]? = some (.map es c)) : Row n f w' B a L := fun hl => by
  obtain ⟨b, o, e, hlt, hc⟩ := h hl
  refine ⟨b, o, e, hlt, fun i x hx j v hv => ?_⟩
  have h1 := hc i x hx j v hv
  refine (World.cell?_of_block (hb.2 b (by simpa using World.block_lt_of_cell? w _ h1) (fun hpb => ?_))).trans h1
  rcases hp b hpb with h2 | ⟨es, c, h2⟩
  · omega
  · simp [World.cell?, h2] at h1
theorem Grps.but {L : List GLay} (h : Grps w B a L) (hb : But P w w') (hp : ∀ k, P k → B ≤ k ∨ ∃ es c, w.heap[k]? = some (.map es c)) : Grps w' B a L :=
  ⟨Row.but h.row hb hp, fun x hx => ⟨Row.but (h.ok x hx).mem hb hp, (h.ok x hx).cap, (h.ok x hx).max⟩⟩
end

/-! ### Rows of rows of truths that grow -/
structure BSt (w : World) (base : Nat) (v : Value) (Q : List BLay) : Prop where
  row : w.ownsRow base 91 1 v Q.length (cellsF BLay.cells1 Q)
  mem : ∀ q ∈ Q, OwnB w base q.val q.l
theorem BLay.one (q : BLay) : ∀ u ∈ q.cells1, u.oneCell' = true := fun u hu => by
  simp only [BLay.cells1, BLay.val, List.mem_cons, List.not_mem_nil, or_false] at hu
  subst hu; rfl
section
variable {w w' : World} {base base' : Nat} {v v' : Value} {Q : List BLay} {q : BLay}
theorem BSt.nil (w : World) (base : Nat) : BSt w base (.slice none 0 0) [] := ⟨World.ownsRow_nil _ _ _ _, fun _ h => by cases h⟩
theorem BSt.but {P : Nat → Prop} (h : BSt w base v Q) (hb : But P w w') (h1 : ∀ k, v.ownBlock = some k → ¬ P k) (h2 : ∀ q ∈ Q, ∀ k, q.val.ownBlock = some k → ¬ P k) : BSt w' base v Q :=
  ⟨hb.row h.row h1, fun x hx => hb.row (h.mem x hx) (h2 x hx)⟩
theorem BSt.below (h : BSt w base v Q) (hb : Below w.heap.size w w') : BSt w' base v Q := ⟨row_below h.row hb, fun x hx => row_below (h.mem x hx) hb⟩
/-- One more. -/
theorem BSt.more (h : BSt w base v Q) (hx : OwnB w base q.val q.l) (hown : w'.ownsRow base 91 1 v' (Q.length + 1) (cellsF BLay.cells1 Q ++ q.cells1)) (hg : w.grownBy w' v.ownBlock) : BSt w' base v' (Q ++ [q]) := by
  refine ⟨by rw [List.length_append, cellsF_append, cellsF_one]; exact hown, fun y hy => ?_⟩
  have hk : ∀ z : BLay, OwnB w base z.val z.l → OwnB w' base z.val z.l := fun z hz =>
    ((But.refl (fun k => some k = v.ownBlock) w).grown hg (fun x hx => .inl hx.symm)).row hz (fun k hk hp => by
      obtain ⟨cs, f, hb⟩ := row_heap h.row hp.symm
      exact row_other hz hb (by decide) k hk rfl)
  rcases List.mem_append.1 hy with hy | hy
  · exact hk y (h.mem y hy)
  · obtain rfl := List.mem_singleton.1 hy
    exact hk _ hx
/-- As rows that lie. -/
theorem BSt.rows (h : BSt w base v Q) : ∃ (A : Option Addr) (c : Nat), v = .slice A Q.length c ∧ BRows w w.heap.size A Q := by
  obtain ⟨A, c, e, _, _, hr⟩ := own_row blay_one h.row
  refine ⟨A, c, e, hr, fun q hq => ?_⟩
  obtain ⟨A', c', e', _, _, hr'⟩ := own_row bool_one (h.mem q hq)
  unfold BLay.val at e'
  injection e' with e1 e2 e3
  rw [e1]
  exact hr'
end
/-! ### Objects that lie side by side -/
theorem obj_cells (o : ObjV) : o.cells.length = 5 := rfl
structure Objs (w : World) (B : Nat) (a : Option Addr) (O : List ObjV) : Prop where
  row : Row 5 ObjV.cells w B a O
  ok : ∀ o ∈ O, o.Ok w B
section
variable {w w' : World} {B B' : Nat} {a : Option Addr} {O : List ObjV} {o : ObjV}
theorem Objs.below (h : Objs w B a O) (hb : Below B w w') : Objs w' B a O := ⟨h.row.below hb, fun o ho => (h.ok o ho).below hb⟩
theorem Objs.more (h : Objs w B a O) (hB : B ≤ B') : Objs w B' a O := ⟨h.row.more hB, fun o ho => (h.ok o ho).more hB⟩
theorem Objs.up (h : Objs w w.heap.size a O) (hb : Below w.heap.size w w') : Objs w' w'.heap.size a O := (h.below hb).more hb.size
theorem Objs.at_ (h : Objs w B a O) {i : Nat} (ho : O[i]? = some o) : ∃ b oo, a = some ⟨b, oo, none⟩ ∧ b < B ∧ w.cell? ⟨b, oo + i * 5, none⟩ = some (.int .i64 o.kind) ∧ w.cell? ⟨b, oo + i * 5 + 1, none⟩ = some (.int .i64 o.machine) ∧
    w.cell? ⟨b, oo + i * 5 + 2, none⟩ = some (.slice o.aS o.L.length o.cS) ∧ w.cell? ⟨b, oo + i * 5 + 3, none⟩ = some (.slice o.aY o.Y.length o.cY) ∧ w.cell? ⟨b, oo + i * 5 + 4, none⟩ = some (.slice o.aR o.Q.length o.cR) := by
  have hl : 0 < O.length := by have := (List.getElem?_eq_some_iff.1 ho).1; omega
  obtain ⟨b, oo, e, hlt, hc⟩ := h.row hl
  exact ⟨b, oo, e, hlt, hc i o ho 0 _ rfl, hc i o ho 1 _ rfl, hc i o ho 2 _ rfl, hc i o ho 3 _ rfl, hc i o ho 4 _ rfl⟩
end
end Go.Proofs.YtejicboemkpeoaaDoor

namespace Go.Proofs.YtejicboemkpeoaaDoor
open Go Go.RowKit

def memB (n : Nat) : Bool := decide (n / 2 % 2 = 1)
theorem and_two (n : Nat) (hn : n < two64) : (bits .and .u64 (n : Int) 2 != 0) = memB n := by
  have h7 : (BitVec.ofInt 64 2).toNat = 2 := by decide
  have hm : ((n : Int) % ((2 ^ 64 : Nat) : Int)).toNat = n := by unfold two64 at hn; omega
  have key : (BitVec.ofInt 64 n &&& BitVec.ofInt 64 2).toNat = n &&& 2 := by
    rw [BitVec.toNat_and, BitVec.toNat_ofInt, h7, hm]
  have e1 : (n &&& 2) / 2 = n / 2 % 2 := by
    rw [Nat.and_div_two, show (2 : Nat) / 2 = 1 from rfl, Nat.and_one_is_mod]
  have e2 : (n &&& 2) ≤ 2 := Nat.and_le_right
  have hb : bits .and .u64 (n : Int) 2 = ((n &&& 2 : Nat) : Int) := by
    show IntKind.u64.wrap ((BitVec.ofInt 64 n &&& BitVec.ofInt 64 2).toNat : Nat) = _
    rw [key, IntKind.wrap_u64]
    omega
  have e3 : (n &&& 2) % 2 = 0 := by
    have := Nat.and_mod_two_pow (a := n) (b := 2) (n := 1)
    simpa using this
  rw [hb]
  unfold memB
  by_cases h : n / 2 % 2 = 1
  · rw [decide_eq_true h]
    exact bne_iff_ne.2 (by omega)
  · rw [decide_eq_false h]
    have : n &&& 2 = 0 := by omega
    rw [this]; rfl
theorem half_two (n : Nat) (hn : n < two64) : ((IntKind.u64.wrap ((n : Int) / 2)).tmod 2 == 1) = memB n := by
  have h1 : IntKind.u64.wrap ((n : Int) / 2) = ((n / 2 : Nat) : Int) := by
    rw [IntKind.wrap_u64]
    unfold two64 at hn
    omega
  rw [h1]
  have h2 : ((n / 2 : Nat) : Int).tmod 2 = ((n / 2 % 2 : Nat) : Int) := by
    rw [Int.tmod_eq_emod_of_nonneg (by omega)]; rfl
  rw [h2]
  unfold memB
  by_cases h : n / 2 % 2 = 1
  · rw [h]; rfl
  · rw [decide_eq_false h]
    exact beq_eq_false_iff_ne.2 (by omega)

section
variable (nm : Value) (sb : ByteArray) (kd : Int) (fl : Nat) (c3 c4 c5 c6 c7 c8 : Value) (hfl : fl < two64) (w : World)
include hfl
set_option maxHeartbeats 1600000 in
theorem alloc_any : Calls Tryd.prog 40 #[.agg #[nm, .int .i64 kd, .int .u64 (fl : Int), c3, c4, c5, c6, c7, c8]] w fun r w' => r = .returned (.bool (memB fl)) ∧ Below w.heap.size w w' := by
  have hb0 : Below w.heap.size w (w.alloc (.cells #[nm, .int .i64 kd, .int .u64 (fl : Int), c3, c4, c5, c6, c7, c8] 70)) := (Below.refl _ _).alloc (Nat.le_refl _) _
  have HB0 := Lib.hid hb0
  have HF := Lib.hid (and_two fl hfl)
  clear hb0
  go_enter Tryd.func40, Tryd.ntmps40
  go_wp2_with fail
  go_ret
  exact ⟨by rw [← HF.out]; rfl, HB0.out⟩

set_option maxHeartbeats 1600000 in
theorem ralloc_any : Calls Tryd.prog 30 #[.agg #[nm, .int .i64 kd, .int .u64 (fl : Int), c3, c4, c5, c6, c7, c8]] w fun r w' => r = .returned (.bool (memB fl)) ∧ Below w.heap.size w w' := by
  have hb0 : Below w.heap.size w (w.alloc (.cells #[nm, .int .i64 kd, .int .u64 (fl : Int), c3, c4, c5, c6, c7, c8] 70)) := (Below.refl _ _).alloc (Nat.le_refl _) _
  have HB0 := Lib.hid hb0
  have HF := Lib.hid (half_two fl hfl)
  clear hb0
  go_enter Tryd.func30, Tryd.ntmps30
  go_wp2_with fail
  go_ret
  exact ⟨by rw [← HF.out]; rfl, HB0.out⟩

end

end Go.Proofs.YtejicboemkpeoaaDoor

namespace Go.Proofs.YtejicboemkpeoaaDoor
open Go Go.RowKit

/-- The section that a place names. -/
def secK (O : List ObjV) (o s : Int) : Option Lay := if 0 ≤ o ∧ 0 ≤ s then (O[o.toNat]?).bind fun ob => ob.L[s.toNat]? else none
/-- Is it left out? -/
def outB (Q : List BLay) (o s : Int) : Bool := match Q[o.toNat]? with | some q => q.l.getD s.toNat false | none => false
/-- How many bytes it has. -/
def sizK (O : List ObjV) (p : Place) : Nat := match secK O p.obj p.sect with | some x => x.s.data.length | none => 0
/-- May a place be, behind others? -/
def goodP (O : List ObjV) (Q : List BLay) (P : List Place) (p : Place) : Bool :=
  match secK O p.obj p.sect with
  | none => false
  | some x => !(outB Q p.obj p.sect) && (memB x.s.flags && ((outK P p.obj p.sect).isNone && decide (p.addr < 18446744073709551615 - x.s.data.length)))
theorem secK_some {O : List ObjV} {o s : Int} {x : Lay} (h : secK O o s = some x) : ∃ (i k : Nat) (ob : ObjV), o = i ∧ s = k ∧ O[i]? = some ob ∧ ob.L[k]? = some x := by
  unfold secK at h
  split at h
  · rename_i hh
    obtain ⟨ob, h1, h2⟩ := Option.bind_eq_some_iff.1 h
    exact ⟨o.toNat, s.toNat, ob, by omega, by omega, h1, h2⟩
  · cases h

set_option maxRecDepth 10000 in
set_option maxHeartbeats 1600000 in
theorem among_any {w : World} {B : Nat} {a : Option Addr} {c : Nat} {O : List ObjV} (h : Objs w B a O) (hB : B ≤ w.heap.size) (hL : ∀ ob ∈ O, ob.L.length ≤ 100000) (o s : Int) :
    Calls Tryd.prog 38 #[.agg #[.int .i64 o, .int .i64 s], .slice a O.length c] w fun r w' => r = .returned (.bool (secK O o s).isSome) ∧ Below w.heap.size w w' := by
  obtain ⟨N, hN⟩ : ∃ N, O.length = N := ⟨_, rfl⟩
  generalize hw0 : w.alloc (.cells #[.int .i64 o, .int .i64 s] 81) = w0 at *
  have hb0 : Below w.heap.size w w0 := hw0 ▸ (Below.refl _ _).alloc (Nat.le_refl _) _
  have hX0 := Box.new w 81 #[.int .i64 o, .int .i64 s]
  rw [hw0] at hX0
  have x0 := hX0.cell 0
  have x1 := hX0.cell 1
  simp at x0 x1
  have HB := Lib.hid hb0
  have h0 := h.below (hb0.mono hB)
  rw [hN]
  clear hX0 hb0
  by_cases h1 : o < 0
  · rw [show secK O o s = none by unfold secK; rw [if_neg (by omega)]]
    have d1 : decide ((0 : Int) ≤ o) = false := decide_eq_false (by omega)
    clear h h0 hN hL
    go_enter Tryd.func38, Tryd.ntmps38
    go_upto_region 1 with fail
    try rw [hw0]
    clear hw0
    go_quiet (fail)
    go_wp2_with fail
    go_ret
    exact ⟨rfl, below_drewN HB.out _⟩
  · obtain ⟨i, rfl⟩ := Int.eq_ofNat_of_zero_le (by omega : 0 ≤ o)
    have d1 : decide ((0 : Int) ≤ (i : Int)) = true := decide_eq_true (by omega)
    by_cases h2 : N ≤ i
    · rw [show secK O (i : Int) s = none by unfold secK; split; rw [List.getElem?_eq_none (by simp; omega)]; rfl; rfl]
      have d2 : decide ((i : Int) < (N : Int)) = false := decide_eq_false (by omega)
      have d2n : decide (i < N) = false := decide_eq_false (by omega)
      clear h h0 hN hL
      go_enter Tryd.func38, Tryd.ntmps38
      go_upto_region 1 with fail
      try rw [hw0]
      clear hw0
      go_quiet (fail)
      go_wp2_with fail
      go_ret
      exact ⟨rfl, below_drewN HB.out _⟩
    · have d2 : decide ((i : Int) < (N : Int)) = true := decide_eq_true (by omega)
      have d2n : decide (i < N) = true := decide_eq_true (by omega)
      obtain ⟨ob, hob⟩ : ∃ ob, O[i]? = some ob := ⟨_, List.getElem?_eq_getElem (by rw [hN]; omega)⟩
      by_cases h3 : s < 0
      · rw [show secK O (i : Int) s = none by unfold secK; rw [if_neg (by omega)]]
        have d3 : decide ((0 : Int) ≤ s) = false := decide_eq_false (by omega)
        clear h h0 hN hL hob
        go_enter Tryd.func38, Tryd.ntmps38
        go_upto_region 1 with fail
        try rw [hw0]
        clear hw0
        go_quiet (fail)
        go_wp2_with fail
        go_ret
        exact ⟨rfl, below_drewN HB.out _⟩
      · obtain ⟨k, rfl⟩ := Int.eq_ofNat_of_zero_le (by omega : 0 ≤ s)
        have d3 : decide ((0 : Int) ≤ (k : Int)) = true := decide_eq_true (by omega)
        have HK := Lib.hid (show (secK O (i : Int) (k : Int)).isSome = decide (k < ob.L.length) from by
          unfold secK
          rw [if_pos (by omega)]
          simp only [Int.toNat_natCast, hob, Option.bind_some]
          rw [Bool.eq_iff_iff]
          simp)
        have hd : decide ((k : Int) < (ob.L.length : Int)) = decide (k < ob.L.length) := by rw [Bool.eq_iff_iff]; simp
        have hll := hL ob (List.mem_of_getElem? hob)
        obtain ⟨b, oo, rfl, hb, n0, n1, n2, n3, n4⟩ := h0.at_ hob
        have hin : i < N := by omega
        clear h h0 hN hL hob n0 n1 n3 n4
        generalize ob.L.length = ll at *
        go_enter Tryd.func38, Tryd.ntmps38
        go_upto_region 1 with fail
        try rw [hw0]
        clear hw0
        go_quiet (fail)
        go_wp2_with fail
        go_ret
        exact ⟨by rw [HK.out]; rfl, below_drewN HB.out _⟩

end Go.Proofs.YtejicboemkpeoaaDoor

namespace Go.Proofs.YtejicboemkpeoaaDoor
open Go Go.RowKit

set_option maxRecDepth 10000 in
set_option maxHeartbeats 1600000 in
theorem out_any {w : World} {B : Nat} {a : Option Addr} {c : Nat} {Q : List BLay} (h : BRows w B a Q) (hB : B ≤ w.heap.size) (i k : Nat) :
    Calls Tryd.prog 39 #[.agg #[.int .i64 (i : Int), .int .i64 (k : Int)], .slice a Q.length c] w fun r w' => r = .returned (.bool (outB Q (i : Int) (k : Int))) ∧ Below w.heap.size w w' := by
  obtain ⟨N, hN⟩ : ∃ N, Q.length = N := ⟨_, rfl⟩
  generalize hw0 : w.alloc (.cells #[.int .i64 (i : Int), .int .i64 (k : Int)] 81) = w0 at *
  have hb0 : Below w.heap.size w w0 := hw0 ▸ (Below.refl _ _).alloc (Nat.le_refl _) _
  have hX0 := Box.new w 81 #[.int .i64 (i : Int), .int .i64 (k : Int)]
  rw [hw0] at hX0
  have x0 := hX0.cell 0
  have x1 := hX0.cell 1
  simp at x0 x1
  have HB := Lib.hid hb0
  have h0 := h.below (hb0.mono hB)
  rw [hN]
  clear hX0 hb0
  by_cases h2 : N ≤ i
  · rw [show outB Q (i : Int) (k : Int) = false by unfold outB; rw [Int.toNat_natCast, List.getElem?_eq_none (by omega)]]
    have d2 : decide ((i : Int) < (N : Int)) = false := decide_eq_false (by omega)
    have d2n : decide (i < N) = false := decide_eq_false (by omega)
    clear h h0 hN
    go_enter Tryd.func39, Tryd.ntmps39
    go_upto_region 1 with fail
    try rw [hw0]
    clear hw0
    go_quiet (fail)
    go_wp2_with fail
    go_ret
    exact ⟨rfl, below_drewN HB.out _⟩
  · have d2 : decide ((i : Int) < (N : Int)) = true := decide_eq_true (by omega)
    have d2n : decide (i < N) = true := decide_eq_true (by omega)
    have hin : i < N := by omega
    obtain ⟨q, hq⟩ : ∃ q, Q[i]? = some q := ⟨_, List.getElem?_eq_getElem (by rw [hN]; omega)⟩
    obtain ⟨b, oo, rfl, hb, n0⟩ := h0.at_ hq
    have HE := Lib.hid (show outB Q (i : Int) (k : Int) = q.l.getD k false by unfold outB; rw [Int.toNat_natCast, hq]; simp)
    have hok := h0.ok q (List.mem_of_getElem? hq)
    obtain ⟨M, hM⟩ : ∃ M, q.l.length = M := ⟨_, rfl⟩
    by_cases h3 : M ≤ k
    · have HF := Lib.hid (show q.l.getD k false = false by rw [List.getD_eq_getElem?_getD, List.getElem?_eq_none (by omega)]; rfl)
      have d3 : decide ((k : Int) < (M : Int)) = false := decide_eq_false (by omega)
      have d3n : decide (k < M) = false := decide_eq_false (by omega)
      rw [hM] at n0
      clear h h0 hN hq hok hM
      go_enter Tryd.func39, Tryd.ntmps39
      go_upto_region 1 with fail
      try rw [hw0]
      clear hw0
      go_quiet (fail)
      go_wp2_with fail
      go_ret
      exact ⟨by rw [HE.out, HF.out]; rfl, below_drewN HB.out _⟩
    · have d3 : decide ((k : Int) < (M : Int)) = true := decide_eq_true (by omega)
      have d3n : decide (k < M) = true := decide_eq_true (by omega)
      have hkM : k < M := by omega
      obtain ⟨m, hm⟩ : ∃ m, q.l[k]? = some m := ⟨_, List.getElem?_eq_getElem (by rw [hM]; omega)⟩
      have HF := Lib.hid (show q.l.getD k false = m by rw [List.getD_eq_getElem?_getD, hm]; rfl)
      obtain ⟨b2, o2, hqa, hb2, n1⟩ := hok.at_ hm
      rw [hM, hqa] at n0
      clear h h0 hN hq hok hM hm hqa
      go_enter Tryd.func39, Tryd.ntmps39
      go_upto_region 1 with fail
      try rw [hw0]
      clear hw0
      go_quiet (fail)
      go_wp2_with fail
      go_ret
      exact ⟨by rw [HE.out, HF.out]; rfl, below_drewN HB.out _⟩

end Go.Proofs.YtejicboemkpeoaaDoor
