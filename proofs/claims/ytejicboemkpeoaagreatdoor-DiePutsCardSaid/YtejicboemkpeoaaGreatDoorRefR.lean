/-
  The document's own cursor over bytes that it was handed, wherever they lie: Left, Uint, Fail.
-/
import Derived.Test.YtejicboemkpeoaaGreatDoorCsL
namespace Go.Proofs.YtejicboemkpeoaaGreatDoor
open Go Go.RowKit

/-- The document's cursor in memory: its block, the value of its bytes, the bytes, where it stands, the refusal. -/
def RC (w : World) (g : Nat) (v : Value) (l : List UInt8) (a : Nat) (e : Int) : Prop :=
  Box w g 140 #[v, .int .i64 (a : Int), .int .i64 e] ∧ Own w 0 v l ∧ a ≤ l.length

section
variable {w w' : World} {g g' : Nat} {v : Value} {l : List UInt8} {a : Nat} {e : Int}
theorem RC.drewN (h : RC w g v l a e) (n : Nat) : RC (w.drewN n) g v l a e := h
theorem RC.grown {row : Option Nat} (h : RC w g v l a e) (hb : w.grownBy w' row) (h1 : some g ≠ row) (h2 : v.ownBlock = none ∨ v.ownBlock ≠ row) : RC w' g v l a e :=
  ⟨h.1.grown hb h1, h.2.1.kept hb h2, h.2.2⟩
theorem RC.below (h : RC w g v l a e) (hb : Below w.heap.size w w') : RC w' g v l a e :=
  h.grown (only_below hb none) (by simp) (by rcases v.ownBlock with _ | k <;> simp)
theorem RC.own_ne (h : RC w g v l a e) : v.ownBlock ≠ some g := own_other h.2.1 h.1 (by decide)
theorem RC.moved (h : RC w g v l a e) (b : Nat) (hb : b ≤ l.length) : RC (w.setCell ⟨g, 1, none⟩ (.int .i64 (b : Int))) g v l b e :=
  ⟨by simpa using h.1.set 1 (.int .i64 (b : Int)), h.2.1.kept (only_set (a := w) (only_refl w (some g)) 1 _) (.inr h.own_ne), hb⟩
theorem RC.failed (h : RC w g v l a e) (f : Int) : RC (w.setCell ⟨g, 2, none⟩ (.int .i64 f)) g v l a f :=
  ⟨by simpa using h.1.set 2 (.int .i64 f), h.2.1.kept (only_set (a := w) (only_refl w (some g)) 2 _) (.inr h.own_ne), h.2.2⟩
/-- Behind a step of the other kind of cursor, and the other way round. -/
theorem RC.behind {cs : Array Value} (h : RC w g v l a e) (hb' : Box w g' 177 cs) (hb : w.grownBy w' (some g')) : RC w' g v l a e :=
  h.grown hb (by have := h.1.other hb' (by decide); simpa using this) (.inr (own_other h.2.1 hb' (by decide)))
theorem Cur.behind {cs : Array Value} (h : Cur w g v l a e) (hb' : Box w g' 140 cs) (hb : w.grownBy w' (some g')) : Cur w' g v l a e :=
  h.grown hb (by have := h.1.other hb' (by decide); simpa using this) (.inr (own_other h.2.1 hb' (by decide)))
end

end Go.Proofs.YtejicboemkpeoaaGreatDoor

namespace Go.Proofs.YtejicboemkpeoaaGreatDoor
open Go Go.RowKit

/-- The document's cursor in memory, over bytes that lie in blocks below B, itself at B or above. -/
def RR (B : Nat) (w : World) (g : Nat) (v : Value) (l : List UInt8) (a : Nat) (e : Int) : Prop :=
  Box w g 140 #[v, .int .i64 (a : Int), .int .i64 e] ∧ (∃ A c, v = .slice A l.length c ∧ l.length ≤ c ∧ c ≤ maxLen ∧ Rd w B A l) ∧ a ≤ l.length ∧ B ≤ g

section
variable {B : Nat} {w w' : World} {g : Nat} {v : Value} {l : List UInt8} {a : Nat} {e : Int}
theorem RR.drewN (h : RR B w g v l a e) (n : Nat) : RR B (w.drewN n) g v l a e := h
theorem RR.data {A : Option Addr} (h : Rd w B A l) (hb : w.grownBy w' (some g)) (hg : B ≤ g) : Rd w' B A l := by
  intro hl
  obtain ⟨b, o, e, hb', hc⟩ := h hl
  refine ⟨b, o, e, hb', fun j u hu => ?_⟩
  have h1 := hc j u hu
  have hlt := World.block_lt_of_cell? w _ h1
  exact (World.cell?_of_block (hb.block b hlt (fun e => by injection e with e; omega))).trans h1
theorem RR.moved (h : RR B w g v l a e) (b : Nat) (hb : b ≤ l.length) : RR B (w.setCell ⟨g, 1, none⟩ (.int .i64 (b : Int))) g v l b e :=
  ⟨by simpa using h.1.set 1 (.int .i64 (b : Int)), h.2.1.imp fun A => Exists.imp fun c k => ⟨k.1, k.2.1, k.2.2.1, RR.data k.2.2.2 (only_set (only_refl w (some g)) 1 _) h.2.2.2⟩, hb, h.2.2.2⟩
theorem RR.failed (h : RR B w g v l a e) (f : Int) : RR B (w.setCell ⟨g, 2, none⟩ (.int .i64 f)) g v l a f :=
  ⟨by simpa using h.1.set 2 (.int .i64 f), h.2.1.imp fun A => Exists.imp fun c k => ⟨k.1, k.2.1, k.2.2.1, RR.data k.2.2.2 (only_set (only_refl w (some g)) 2 _) h.2.2.2⟩, h.2.2.1, h.2.2.2⟩
theorem RR.grown {row : Option Nat} (h : RR B w g v l a e) (hb : w.grownBy w' row) (h1 : some g ≠ row) (h2 : ∀ x, row = some x → B ≤ x) : RR B w' g v l a e := by
  refine ⟨h.1.grown hb h1, h.2.1.imp fun A => Exists.imp fun c k => ⟨k.1, k.2.1, k.2.2.1, fun hl => ?_⟩, h.2.2.1, h.2.2.2⟩
  obtain ⟨b, o, e, hb', hc⟩ := k.2.2.2 hl
  refine ⟨b, o, e, hb', fun j u hu => ?_⟩
  have h3 := hc j u hu
  have hlt := World.block_lt_of_cell? w _ h3
  exact (World.cell?_of_block (hb.block b hlt (fun e => by have := h2 _ e.symm; omega))).trans h3
theorem RR.below (h : RR B w g v l a e) (hb : Below w.heap.size w w') : RR B w' g v l a e := h.grown (only_below hb none) (by simp) (by simp)
end

end Go.Proofs.YtejicboemkpeoaaGreatDoor
