/-
  The contract of a cursor's next: it goes behind the next n bytes and tells them, or refuses.
-/
import Derived.WalkKit
import Derived.Below
import Derived.Laws.OwnMore
import Derived.Deep.AppendLies
import Derived.Deep.Draws
import Derived.Maps.AppendAt
import Derived.Laws.Rows
import Derived.Lib.Hide
import Derived.Test.YtejicboemkpeoaaGreatDoorProg
import Derived.WalkSpells
import Derived.Lib.MinMax
import Derived.Deep.QuietTactic
import Derived.BigQuiet
namespace Go.Proofs.YtejicboemkpeoaaGreatDoor
open Go Go.RowKit

/-- Bytes as the cells that hold them. -/
def u8s (l : List UInt8) : List Value := l.map fun b => Value.int .u8 (b.toNat : Int)

@[simp] theorem u8s_length (l : List UInt8) : (u8s l).length = l.length := by simp [u8s]
theorem u8s_append (l m : List UInt8) : u8s (l ++ m) = u8s l ++ u8s m := by simp [u8s]
theorem u8s_nil : u8s [] = [] := rfl
theorem u8s_get (l : List UInt8) (j : Nat) : (u8s l)[j]? = (l[j]?).map fun b => Value.int .u8 (b.toNat : Int) := by simp [u8s]
theorem u8s_one (l : List UInt8) : ∀ u ∈ u8s l, u.oneCell' = true := by
  intro u hu
  simp only [u8s, List.mem_map] at hu
  obtain ⟨b, _, rfl⟩ := hu
  rfl

theorem addr_add (b o j : Nat) : (⟨b, o, none⟩ : Addr).add j = ⟨b, o + j, none⟩ := by
  unfold Addr.add
  split <;> simp_all

/-- At the address A (asked for only where there is a byte) the bytes l lie, in a block below B. -/
def Rd (w : World) (B : Nat) (A : Option Addr) (l : List UInt8) : Prop :=
  0 < l.length → ∃ b o, A = some ⟨b, o, none⟩ ∧ b < B ∧ ∀ j u, l[j]? = some u → w.cell? ⟨b, o + j, none⟩ = some (.int .u8 (u.toNat : Int))

section
variable {w w' : World} {B B' : Nat} {A : Option Addr} {l : List UInt8}
theorem Rd.nil_ : Rd w B A [] := fun h => absurd h (by simp)
theorem Rd.keep (h : Rd w B A l) (hk : ∀ p : Addr, p.block < B → w'.cell? p = w.cell? p) : Rd w' B A l := fun hl => by
  obtain ⟨b, o, e, hb, hc⟩ := h hl
  exact ⟨b, o, e, hb, fun j u hu => (hk _ hb).trans (hc j u hu)⟩
theorem Rd.below (h : Rd w B A l) (hb : Below B w w') : Rd w' B A l := h.keep fun _ hp => hb.cell hp
theorem Rd.drewN (h : Rd w B A l) (n : Nat) : Rd (w.drewN n) B A l := h
theorem Rd.more (h : Rd w B A l) (hB : B ≤ B') : Rd w B' A l := fun hl => by
  obtain ⟨b, o, e, hb, hc⟩ := h hl
  exact ⟨b, o, e, by omega, hc⟩
theorem Rd.alloc (h : Rd w B A l) (hB : B ≤ w.heap.size) (o : Obj) : Rd (w.alloc o) B A l := h.below ((Below.refl _ _).alloc hB o)
/-- Of an address that is known the bytes, one by one. -/
theorem Rd.at_ {b o k : Nat} (h : Rd w B (some ⟨b, o, none⟩) l) (hk : k < l.length) : w.cell? ⟨b, o + k, none⟩ = some (.int .u8 (l[k].toNat : Int)) ∧ b < B := by
  obtain ⟨b', o', e, hb, hc⟩ := h (by omega)
  injection e with e
  injection e with e1 e2
  subst e1 e2
  exact ⟨hc k _ (List.getElem?_eq_getElem hk), hb⟩
end

/-- A row of its own holds the bytes l: nil where there is none, or a block of its own from 'base' on. -/
abbrev Own (w : World) (base : Nat) (v : Value) (l : List UInt8) : Prop := w.ownsRow base 5 1 v l.length (u8s l)

/-- What an owned row is as a slice. -/
theorem own_slice {w : World} {base : Nat} {v : Value} {l : List UInt8} (h : Own w base v l) :
    ∃ A c, v = .slice A l.length c ∧ l.length ≤ c ∧ c ≤ maxLen ∧ Rd w w.heap.size A l := by
  rcases h.2 with ⟨rfl, h0⟩ | ⟨g, cap, cur, rfl, hb, hg, hc, hm, hs, ht⟩
  · have hl : l = [] := List.eq_nil_of_length_eq_zero h0
    subst hl
    exact ⟨none, 0, rfl, Nat.le_refl _, by simp, Rd.nil_⟩
  · refine ⟨some ⟨g, 0, none⟩, cap, rfl, hc, hm, fun _ => ⟨g, 0, rfl, ?_, fun j u hu => ?_⟩⟩
    · rcases Nat.lt_or_ge g w.heap.size with hlt | hge
      · exact hlt
      · rw [Array.getElem?_eq_none hge] at hg; cases hg
    · have := h.cells (g := g) rfl j (.int .u8 (u.toNat : Int)) (by rw [u8s_get, hu]; rfl)
      rwa [addr_add] at this

/-- A block that is known whole, no cell of it frozen. -/
def Box (w : World) (g : Nat) (t : TypeId) (cs : Array Value) : Prop := w.heap[g]? = some (.cells cs t (0, 0))

section
variable {w w' : World} {g : Nat} {t : TypeId} {cs : Array Value}
theorem Box.lt (h : Box w g t cs) : g < w.heap.size := by
  rcases Nat.lt_or_ge g w.heap.size with hlt | hge
  · exact hlt
  · unfold Box at h; rw [Array.getElem?_eq_none hge] at h; cases h
theorem Box.cell (h : Box w g t cs) (i : Nat) : w.cell? ⟨g, i, none⟩ = cs[i]? := by
  unfold Box at h; simp [World.cell?, h]
theorem Box.free (h : Box w g t cs) (i : Nat) : w.frozen? ⟨g, i, none⟩ = false := by
  unfold Box at h; simp [World.frozen?, h]
theorem Box.drewN (h : Box w g t cs) (n : Nat) : Box (w.drewN n) g t cs := h
theorem Box.drew (h : Box w g t cs) : Box w.drew g t cs := h
theorem Box.new (w : World) (t : TypeId) (cs : Array Value) : Box (w.alloc (.cells cs t)) w.heap.size t cs := heap_alloc_new w _
theorem Box.set (h : Box w g t cs) (i : Nat) (u : Value) : Box (w.setCell ⟨g, i, none⟩ u) g t (cs.setIfInBounds i u) := by
  unfold Box at h ⊢; simp [World.setCell, Array.getElem?_modify, h]
theorem Box.grown {row : Option Nat} (h : Box w g t cs) (hb : w.grownBy w' row) (hg : some g ≠ row) : Box w' g t cs := (hb.block g h.lt hg).trans h
theorem Box.below {B : Nat} (h : Box w g t cs) (hb : Below B w w') (hg : g < B) : Box w' g t cs := (hb.block g hg).trans h
/-- Blocks of two element types are two. -/
theorem Box.other {g' : Nat} {t' : TypeId} {cs' : Array Value} (h : Box w g t cs) (h' : Box w g' t' cs') (hne : t ≠ t') : g ≠ g' := by
  rintro rfl
  unfold Box at h h'
  rw [h] at h'
  injection h' with h'
  injection h' with _ ht
  exact hne ht
theorem own_other {base : Nat} {v : Value} {l : List UInt8} (h : Own w base v l) (hg : Box w g t cs) (hne : 5 ≠ t) : v.ownBlock ≠ some g := by
  rcases h.2 with ⟨rfl, _⟩ | ⟨g', cap, cur, rfl, _, hh, _⟩
  · simp [Value.ownBlock]
  · intro he
    have he' : g' = g := by simpa [Value.ownBlock] using he
    subst he'
    exact Box.other (t := 5) hh hg hne rfl
end

/-! What steps leave as it was, but for one row. -/
theorem only_drewN {a w : World} {row : Option Nat} (h : a.grownBy w row) (n : Nat) : a.grownBy (w.drewN n) row := ⟨h.os, h.tape, h.output, h.size, h.block⟩
theorem only_set {a w : World} {g : Nat} (h : a.grownBy w (some g)) (i : Nat) (u : Value) : a.grownBy (w.setCell ⟨g, i, none⟩ u) (some g) :=
  ⟨h.os, h.tape, h.output, by simpa [World.setCell] using h.size, fun k hk hne => (Below.heap_setCell w ⟨g, i, none⟩ u k (by rintro rfl; exact hne rfl)).trans (h.block k hk hne)⟩
theorem only_below {a w : World} (h : Below a.heap.size a w) (row : Option Nat) : a.grownBy w row := ⟨h.os, h.tape, h.output, h.size, fun k hk _ => h.block k hk⟩
theorem below_of_only {a w : World} {row : Option Nat} {B : Nat} (h : a.grownBy w row) (hB : B ≤ a.heap.size) (hr : ∀ k, row = some k → B ≤ k) : Below B a w :=
  ⟨h.os, h.tape, h.output, h.size, fun k hk => h.block k (by omega) (by rintro rfl; have := hr k rfl; omega)⟩
theorem only_then_below {a b c : World} {row : Option Nat} (h : a.grownBy b row) (k : Below b.heap.size b c) : a.grownBy c row := h.trans (only_below k row)
theorem below_drewN {B : Nat} {a w : World} (h : Below B a w) (n : Nat) : Below B a (w.drewN n) := ⟨h.os, h.tape, h.output, h.size, h.block⟩

/-! 'append' of bytes to a row of the call's own, from whatever source. -/
section
variable {P : Program}
theorem run_append_bytes (w : World) (base : Nat) (t ty : TypeId) (i : TypeInfo) (ht : P.underlying t = some (.slice 5)) (hi : P.info? 5 = some i) (hz : i.zero = some (.int .u8 0))
    (hs : i.size = 1) (hy : i.bytes = 1) (v : Value) (l : List UInt8) (hown : Own w base v l) (B : Nat) (A : Option Addr) (c : Nat) (m : List UInt8) (hr : Rd w B A m)
    (hl : l.length + m.length ≤ 140737488355328) (hbase : base ≤ w.heap.size) :
    ∃ v' w', (Builtin.append_ #[t, t] ty #[v, .slice A m.length c]).run P w = .ok v' w' ∧ Own w' base v' (l ++ m) ∧ w.grownBy w' v.ownBlock ∧ (v'.ownBlock = v.ownBlock ∨ v'.ownBlock = some w.heap.size) := by
  rcases A with _ | ad
  · have hm : m = [] := by
      rcases m with _ | ⟨x, r⟩
      · rfl
      · obtain ⟨b, o, e, _⟩ := hr (by simp); cases e
    subst hm
    refine ⟨v, w, ?_, by simpa [Own] using hown, ⟨rfl, rfl, rfl, Nat.le_refl _, fun _ _ _ => rfl⟩, .inl rfl⟩
    rcases hown.2 with ⟨rfl, _⟩ | ⟨g, cap, cur, rfl, _, _, hnc, _⟩
    · simp [Builtin.append_, run_underlying ht, sizeOf, typeInfo, hi, Builtin.lenOf, Builtin.firstCells]
    · simp [Builtin.append_, run_underlying ht, sizeOf, typeInfo, hi, Builtin.lenOf, Builtin.firstCells, hnc, storeCells]
  · obtain ⟨v', w', h1, h2, h3, _, h5⟩ := run_append_own_at (P := P) w base t ty 5 i (.int .u8 0) 1 1 ht hi hz hs hy rfl (by decide) v l.length (u8s l) hown ad m.length c (u8s m) (by simp)
      (fun j u hu => by
        rw [u8s_get] at hu
        rcases hj : m[j]? with _ | x
        · rw [hj] at hu; cases hu
        · rw [hj] at hu
          have hlt : j < m.length := (List.getElem?_eq_some_iff.1 hj).1
          obtain ⟨b, o, e, _, hc⟩ := hr (by omega)
          injection e with e
          subst e
          rw [addr_add, hc j x hj]
          simpa using hu)
      (u8s_one m) (by unfold maxLen; omega) (by omega) hbase
    exact ⟨v', w', h1, by rw [Own, List.length_append, u8s_append]; exact h2, h3, h5⟩

theorem wpList_append_bytes {w : World} {ops : Array Oper} {rest : List Oper} {o : Oper} {a : Act} {Q : Exit → Act → World → Prop} (hgd : o.guard = none) (s x : Operand) (t : TypeId)
    (ho : o.op = .call { callee := .builtin .append, args := #[s, x], argTypes := #[t, t] })
    (base : Nat) (i : TypeInfo) (ht : P.underlying t = some (.slice 5)) (hi : P.info? 5 = some i) (hz : i.zero = some (.int .u8 0)) (hs : i.size = 1) (hy : i.bytes = 1)
    (v : Value) (l : List UInt8) (hv : a.eval s = v) (hown : Own w base v l) (B : Nat) (A : Option Addr) (n c : Nat) (m : List UInt8) (hn : m.length = n) (hx : a.eval x = .slice A n c) (hr : Rd w B A m)
    (hl : l.length + m.length ≤ 140737488355328) (hbase : base ≤ w.heap.size)
    (h : ∀ v' w', Own w' base v' (l ++ m) → w.grownBy w' v.ownBlock → (v'.ownBlock = v.ownBlock ∨ v'.ownBlock = some w.heap.size) → wpList P ops Q rest (a.put o.dst v') w') :
    wpList P ops Q (o :: rest) a w := by
  subst hn
  refine wpList_plain hgd fun K hK => ?_
  obtain ⟨v', w', hrun, h2, h3, h4⟩ := run_append_bytes (P := P) w base t o.type i ht hi hz hs hy v l hown B A c m hr hl hbase
  unfold Oper.wp execOp
  simp only [ho, resolve, invoke, builtin, Sem.run_bind, Sem.run_pure, Result.andThen_ok, List.map_toArray, List.map_cons, List.map_nil, hv, hx, hrun]
  exact hK _ _ (h v' w' h2 h3 h4)
end

end Go.Proofs.YtejicboemkpeoaaGreatDoor

namespace Go.Proofs.YtejicboemkpeoaaGreatDoor
open Go Go.RowKit

/-- A cursor in memory: its block g, the value v of its bytes, the bytes, where it stands, the refusal. -/
def Cur (w : World) (g : Nat) (v : Value) (l : List UInt8) (a : Nat) (e : Int) : Prop :=
  Box w g 177 #[v, .int .i64 (a : Int), .int .i64 e, .bool true] ∧ Own w 0 v l ∧ a ≤ l.length

theorem Cur.drewN {w : World} {g : Nat} {v : Value} {l : List UInt8} {a : Nat} {e : Int} (h : Cur w g v l a e) (n : Nat) : Cur (w.drewN n) g v l a e := h
theorem Cur.grown {w w' : World} {g : Nat} {v : Value} {l : List UInt8} {a : Nat} {e : Int} {row : Option Nat} (h : Cur w g v l a e) (hb : w.grownBy w' row) (h1 : some g ≠ row) (h2 : v.ownBlock = none ∨ v.ownBlock ≠ row) : Cur w' g v l a e :=
  ⟨h.1.grown hb h1, h.2.1.kept hb h2, h.2.2⟩
theorem Cur.below {w w' : World} {g : Nat} {v : Value} {l : List UInt8} {a : Nat} {e : Int} (h : Cur w g v l a e) (hb : Below w.heap.size w w') : Cur w' g v l a e :=
  h.grown (only_below hb none) (by simp) (by rcases v.ownBlock with _ | k <;> simp)
/-- Behind a step of another cursor. -/
theorem Cur.other {w w' : World} {g g' : Nat} {v : Value} {l : List UInt8} {a : Nat} {e : Int} {cs : Array Value} (h : Cur w g v l a e) (hg : g ≠ g') (hb' : Box w g' 177 cs) (hb : w.grownBy w' (some g')) : Cur w' g v l a e :=
  h.grown hb (by simpa using hg) (.inr (own_other h.2.1 hb' (by decide)))
theorem Cur.own_ne {w : World} {g : Nat} {v : Value} {l : List UInt8} {a : Nat} {e : Int} (h : Cur w g v l a e) : v.ownBlock ≠ some g := own_other h.2.1 h.1 (by decide)
/-- The cursor's own stores: its place and its refusal. -/
theorem Cur.moved {w : World} {g : Nat} {v : Value} {l : List UInt8} {a : Nat} {e : Int} (h : Cur w g v l a e) (b : Nat) (hb : b ≤ l.length) : Cur (w.setCell ⟨g, 1, none⟩ (.int .i64 (b : Int))) g v l b e :=
  ⟨by simpa using h.1.set 1 (.int .i64 (b : Int)), h.2.1.kept (only_set (a := w) ⟨rfl, rfl, rfl, Nat.le_refl _, fun _ _ _ => rfl⟩ 1 _) (.inr h.own_ne), hb⟩
theorem Cur.failed {w : World} {g : Nat} {v : Value} {l : List UInt8} {a : Nat} {e : Int} (h : Cur w g v l a e) (f : Int) : Cur (w.setCell ⟨g, 2, none⟩ (.int .i64 f)) g v l a f :=
  ⟨by simpa using h.1.set 2 (.int .i64 f), h.2.1.kept (only_set (a := w) ⟨rfl, rfl, rfl, Nat.le_refl _, fun _ _ _ => rfl⟩ 2 _) (.inr h.own_ne), h.2.2⟩

theorem err_cur {w : World} {g : Nat} {v : Value} {l : List UInt8} {a : Nat} {e : Int} (h : Cur w g v l a e) :
    Calls Tryz.prog 56 #[.pointer (some ⟨g, 0, none⟩)] w fun r w' => r = .returned (.int .i64 e) ∧ w = w' := by
  have h2 := h.1.cell 2
  have h3 := h.1.cell 3
  simp at h2 h3
  clear h
  go_enter Tryz.func56, Tryz.ntmps56
  go_wp2
  go_ret
  exact ⟨rfl, rfl⟩

theorem at_cur {w : World} {g : Nat} {v : Value} {l : List UInt8} {a : Nat} {e : Int} (h : Cur w g v l a e) :
    Calls Tryz.prog 89 #[.pointer (some ⟨g, 0, none⟩)] w fun r w' => r = .returned (.int .i64 (a : Int)) ∧ w = w' := by
  have h1 := h.1.cell 1
  simp at h1
  clear h
  go_enter Tryz.func89, Tryz.ntmps89
  go_wp2
  go_ret
  exact ⟨rfl, rfl⟩

/-- What Left tells. -/
def leftOf (l : List UInt8) (a : Nat) (e : Int) : Nat := if e = 0 then l.length - a else 0

theorem left_cur {w : World} {g : Nat} {v : Value} {l : List UInt8} {a : Nat} {e : Int} (h : Cur w g v l a e) :
    Calls Tryz.prog 92 #[.pointer (some ⟨g, 0, none⟩)] w fun r w' => r = .returned (.int .i64 (leftOf l a e : Int)) ∧ ∃ n, w' = w.drewN n := by
  obtain ⟨A, c, hv, hlc, hcm, _⟩ := own_slice h.2.1
  subst hv
  have hal := h.2.2
  have hE := fun W (hW : W = w) => err_cur (w := W) (hW ▸ h)
  have h0 := h.1.cell 0
  have h1 := h.1.cell 1
  simp at h0 h1
  unfold maxLen at hcm
  by_cases he : e = 0
  · have H := Lib.hid (show (leftOf l a e : Int) = (l.length : Int) - (a : Int) by simp only [leftOf, if_pos he]; omega)
    have hz : (e != 0) = false := by simp [he]
    clear he
    generalize l.length = n at *
    go_enter Tryz.func92, Tryz.ntmps92
    go_wp2_with (go_at_call 56; refine (hE _ rfl).mono ?_; rintro r w' ⟨rfl, rfl⟩)
    go_quiet (fail)
    go_wp2
    go_ret
    exact ⟨by rw [H.out]; rfl, _, rfl⟩
  · have H := Lib.hid (show (leftOf l a e : Int) = 0 by simp only [leftOf, if_neg he]; rfl)
    have hz : (e != 0) = true := by simp [he]
    clear he
    go_enter Tryz.func92, Tryz.ntmps92
    go_wp2_with (go_at_call 56; refine (hE _ rfl).mono ?_; rintro r w' ⟨rfl, rfl⟩)
    go_ret
    exact ⟨by rw [H.out]; rfl, 0, rfl⟩


/-- What Fail leaves. -/
def failOf (e f : Int) : Int := if e = 0 then f else e

theorem fail_cur {w : World} {g : Nat} {v : Value} {l : List UInt8} {a : Nat} {e : Int} (h : Cur w g v l a e) (f : Int) :
    Calls Tryz.prog 54 #[.pointer (some ⟨g, 0, none⟩), .int .i64 f] w fun r w' => r = .returned (.tuple #[]) ∧ Cur w' g v l a (failOf e f) ∧ w.grownBy w' (some g) := by
  have hE := fun W (hW : W = w) => err_cur (w := W) (hW ▸ h)
  have h2 := h.1.cell 2
  have hf := h.1.free 2
  simp at h2
  have hr : w.grownBy w (some g) := ⟨rfl, rfl, rfl, Nat.le_refl _, fun _ _ _ => rfl⟩
  by_cases he : e = 0
  · have H := Lib.hid (show Cur (w.setCell ⟨g, 2, none⟩ (.int .i64 f)) g v l a (failOf e f) by rw [failOf, if_pos he]; exact h.failed f)
    have hz : (e == 0) = true := by simp [he]
    have G := Lib.hid (only_set hr 2 (.int .i64 f))
    clear he h hr
    go_enter Tryz.func54, Tryz.ntmps54
    go_wp2_with (go_at_call 56; refine (hE _ rfl).mono ?_; rintro r w' ⟨rfl, rfl⟩)
    go_end0
    exact ⟨rfl, H.out, G.out⟩
  · have H := Lib.hid (show Cur w g v l a (failOf e f) by rw [failOf, if_neg he]; exact h)
    have hz : (e == 0) = false := by simp [he]
    have G := Lib.hid hr
    clear he h hr
    go_enter Tryz.func54, Tryz.ntmps54
    go_wp2_with (go_at_call 56; refine (hE _ rfl).mono ?_; rintro r w' ⟨rfl, rfl⟩)
    go_end0
    exact ⟨rfl, H.out, G.out⟩

/-- What clamp makes of a size. -/
def clampOf (s : Int) : Nat := (min (max s 0) 8).toNat
theorem clampOf_le (s : Int) : clampOf s ≤ 8 := by unfold clampOf; omega
theorem clamp_any (s : Int) (w : World) (hs : -9223372036854775808 ≤ s ∧ s ≤ 9223372036854775807) :
    Calls Tryz.prog 173 #[.int .i64 s] w fun r w' => r = .returned (.int .i64 (clampOf s : Int)) ∧ w = w' := by
  have H := Lib.hid (show ((clampOf s : Nat) : Int) = min (max s 0) 8 by unfold clampOf; omega)
  go_enter Tryz.func173, Tryz.ntmps173
  go_wp2
  go_ret
  exact ⟨by rw [H.out]; rfl, rfl⟩

end Go.Proofs.YtejicboemkpeoaaGreatDoor

namespace Go.Proofs.YtejicboemkpeoaaGreatDoor
open Go Go.RowKit

theorem heap_size_set (w : World) (p : Addr) (u : Value) : (w.setCell p u).heap.size = w.heap.size := by simp [World.setCell]

/-- The next n bytes, behind the step that moves the cursor. -/
theorem rd_next {w : World} {g : Nat} {A : Option Addr} {N c : Nat} {l : List UInt8} {a : Nat} {e : Int} (h : Cur w g (.slice A N c) l a e) (n k : Nat) (u : Value) :
    Rd ((w.drewN k).setCell ⟨g, 1, none⟩ u) ((w.drewN k).setCell ⟨g, 1, none⟩ u).heap.size (Option.map (fun x => x.add a) A) ((l.drop a).take n) := by
  intro hl
  obtain ⟨A', c', hv, _, _, hrd⟩ := own_slice h.2.1
  injection hv with hA _ _
  subst hA
  have hll : 0 < l.length := by simp at hl; omega
  obtain ⟨b, o, rfl, hb, hc⟩ := hrd hll
  refine ⟨b, o + a, by simp [addr_add], by rw [heap_size_set]; exact hb, fun j x hx => ?_⟩
  have hne : b ≠ g := by
    have := h.own_ne
    simpa [Value.ownBlock] using this
  have hx' : l[a + j]? = some x := by
    rw [List.getElem?_take] at hx
    split at hx
    · rwa [List.getElem?_drop] at hx
    · cases hx
  rw [World.cell?_setCell_other _ _ _ _ (by intro e; injection e with e; exact hne e.symm), World.cell?_drewN, Nat.add_assoc]
  exact hc _ _ hx'

theorem cur_next {w : World} {g : Nat} {v : Value} {l : List UInt8} {a : Nat} {e : Int} (h : Cur w g v l a e) (n k : Nat) (hn : a + n ≤ l.length) :
    Cur ((w.drewN k).setCell ⟨g, 1, none⟩ (.int .i64 ((a : Int) + (n : Int)))) g v l (a + n) e := by
  have := (h.drewN k).moved (a + n) hn
  rwa [Int.natCast_add] at this

theorem only_refl (w : World) (row : Option Nat) : w.grownBy w row := ⟨rfl, rfl, rfl, Nat.le_refl _, fun _ _ _ => rfl⟩

theorem only_drewN_left {a w : World} {k : Nat} {row : Option Nat} (h : (a.drewN k).grownBy w row) : a.grownBy w row := ⟨h.os, h.tape, h.output, h.size, h.block⟩

set_option maxHeartbeats 400000 in
theorem next_ok {w : World} {g : Nat} {v : Value} {l : List UInt8} {a : Nat} (h : Cur w g v l a 0) (n : Nat) (hn : n ≤ l.length - a) (hlen : l.length ≤ 140737488355328) :
    Calls Tryz.prog 172 #[.pointer (some ⟨g, 0, none⟩), .int .u64 (n : Int)] w fun r w' =>
      ∃ A, r = .returned (.slice A n n) ∧ Rd w' w'.heap.size A ((l.drop a).take n) ∧ Cur w' g v l (a + n) 0 ∧ w.grownBy w' (some g) := by
  obtain ⟨A, c, hv, hlc, hcm, hrd⟩ := own_slice h.2.1
  subst hv
  have hal := h.2.2
  have hE := fun W (hW : W = w) => err_cur (w := W) (hW ▸ h)
  have hL := fun W (hW : W = w) => left_cur (w := W) (hW ▸ h)
  have h0 := h.1.cell 0
  have h1 := h.1.cell 1
  have f1 := h.1.free 1
  simp at h0 h1
  have hlf : leftOf l a 0 = l.length - a := by simp [leftOf]
  rw [hlf] at hL
  have hq : decide (((l.length - a : Nat) : Int) < (n : Int)) = false := by simp; omega
  clear hlf
  have hm : n + a ≤ l.length := by omega
  unfold maxLen at hcm
  generalize hN : l.length = N at *
  have HN := Lib.hid hN
  clear hN
  have hNa : ((N - a : Nat) : Int) ≤ 140737488355328 := by omega
  have hNb : (0 : Int) ≤ ((N - a : Nat) : Int) := by omega
  generalize N - a = K at *
  have s1 : IntKind.i64.wrap ((a : Int) + (n : Int)) = (a : Int) + (n : Int) := by rw [IntWalk.i64_in _ (by omega)]
  have s2 : IntKind.i64.wrap (n : Int) = (n : Int) := by rw [IntWalk.i64_in _ (by omega)]
  have R := Lib.hid (rd_next h n)
  have C := Lib.hid (fun k => cur_next h n k (by rw [HN.out]; omega))
  have G := Lib.hid (fun k u => only_set (only_drewN (only_refl w (some g)) k) 1 u)
  clear h hrd
  go_enter Tryz.func172, Tryz.ntmps172
  go_wp2_with (first | (go_at_call 92; refine (hL _ rfl).mono ?_; rintro r w' ⟨rfl, k, rfl⟩) | (go_at_call 56; refine (hE _ rfl).mono ?_; rintro r w' ⟨rfl, rfl⟩))
  go_quiet (fail)
  go_wp2
  · go_ret
    have hn0 : n = 0 := by omega
    subst hn0
    exact ⟨_, rfl, fun h => absurd h (by simp), C.out _, G.out _ _⟩
  · go_ret
    exact ⟨_, rfl, R.out _ _, C.out _, G.out _ _⟩

set_option maxHeartbeats 400000 in
theorem next_short {w : World} {g : Nat} {v : Value} {l : List UInt8} {a : Nat} (h : Cur w g v l a 0) (n : Nat) (hn : l.length - a < n) (hlen : l.length ≤ 140737488355328) :
    Calls Tryz.prog 172 #[.pointer (some ⟨g, 0, none⟩), .int .u64 (n : Int)] w fun r w' =>
      r = .returned (.slice none 0 0) ∧ Cur w' g v l a 10 ∧ w.grownBy w' (some g) := by
  have hE := fun W (hW : W = w) => err_cur (w := W) (hW ▸ h)
  have hL := fun W (hW : W = w) => left_cur (w := W) (hW ▸ h)
  have hF := fun k => fail_cur (h.drewN k) 10
  have hlf : leftOf l a 0 = l.length - a := by simp [leftOf]
  rw [hlf] at hL
  clear hlf
  have hNa : ((l.length - a : Nat) : Int) ≤ 140737488355328 := by omega
  have hNb : (0 : Int) ≤ ((l.length - a : Nat) : Int) := by omega
  clear h hlen
  generalize l.length - a = K at *
  have hq : decide (K < n) = true := by simpa using hn
  go_enter Tryz.func172, Tryz.ntmps172
  go_wp2_with (first | (go_at_call 92; refine (hL _ rfl).mono ?_; rintro r w' ⟨rfl, k, rfl⟩) | (go_at_call 56; refine (hE _ rfl).mono ?_; rintro r w' ⟨rfl, rfl⟩) | (go_at_call 54; refine (hF _).mono ?_; rintro r w' ⟨rfl, hC, hG⟩))
  go_ret
  exact ⟨rfl, by simpa [failOf] using hC, only_drewN_left hG⟩

theorem next_refused {w : World} {g : Nat} {v : Value} {l : List UInt8} {a : Nat} {e : Int} (h : Cur w g v l a e) (he : e ≠ 0) (n : Nat) :
    Calls Tryz.prog 172 #[.pointer (some ⟨g, 0, none⟩), .int .u64 (n : Int)] w fun r w' => r = .returned (.slice none 0 0) ∧ w = w' := by
  have hE := fun W (hW : W = w) => err_cur (w := W) (hW ▸ h)
  have hz : (e != 0) = true := by simp [he]
  clear h he
  go_enter Tryz.func172, Tryz.ntmps172
  go_wp2_with (go_at_call 56; refine (hE _ rfl).mono ?_; rintro r w' ⟨rfl, rfl⟩)
  go_ret
  exact ⟨rfl, rfl⟩

/-! Next, in one contract: what it tells, where the cursor stands then, why it refused. -/
def nextGot (l : List UInt8) (a : Nat) (e : Int) (n : Nat) : List UInt8 := if e = 0 ∧ n ≤ l.length - a then (l.drop a).take n else []
def nextAt (l : List UInt8) (a : Nat) (e : Int) (n : Nat) : Nat := if e = 0 ∧ n ≤ l.length - a then a + n else a
def nextErr (l : List UInt8) (a : Nat) (e : Int) (n : Nat) : Int := if e = 0 then (if n ≤ l.length - a then 0 else 10) else e

theorem next_any {w : World} {g : Nat} {v : Value} {l : List UInt8} {a : Nat} {e : Int} (h : Cur w g v l a e) (n : Nat) (hlen : l.length ≤ 140737488355328) :
    Calls Tryz.prog 172 #[.pointer (some ⟨g, 0, none⟩), .int .u64 (n : Int)] w fun r w' =>
      ∃ A, r = .returned (.slice A (nextGot l a e n).length (nextGot l a e n).length) ∧ Rd w' w'.heap.size A (nextGot l a e n) ∧ Cur w' g v l (nextAt l a e n) (nextErr l a e n) ∧ w.grownBy w' (some g) := by
  by_cases he : e = 0
  · subst he
    by_cases hn : n ≤ l.length - a
    · refine (next_ok h n hn hlen).mono fun r w' ⟨A, h1, h2, h3, h4⟩ => ⟨A, ?_, ?_, ?_, h4⟩
      · have hl : (nextGot l a 0 n).length = n := by simp [nextGot, hn]
        rw [hl]; exact h1
      · simpa [nextGot, hn] using h2
      · simpa [nextAt, nextErr, hn] using h3
    · refine (next_short h n (by omega) hlen).mono fun r w' ⟨h1, h3, h4⟩ => ⟨none, ?_, ?_, ?_, h4⟩
      · simpa [nextGot, hn] using h1
      · simpa [nextGot, hn] using Rd.nil_
      · simpa [nextAt, nextErr, hn] using h3
  · refine (next_refused h he n).mono fun r w' ⟨h1, h2⟩ => ⟨none, ?_, ?_, ?_, ?_⟩
    · simpa [nextGot, he] using h1
    · simpa [nextGot, he] using Rd.nil_
    · subst h2; simpa [nextAt, nextErr, he] using h
    · subst h2; exact only_refl _ _

end Go.Proofs.YtejicboemkpeoaaGreatDoor
