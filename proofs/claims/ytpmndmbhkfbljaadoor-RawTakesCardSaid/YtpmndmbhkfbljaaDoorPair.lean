/-
  A cursor and the document's cursor over the same bytes, side by side, as the laws walk them.
-/
import Derived.Test.YtpmndmbhkfbljaaDoorRefR
import Derived.Test.YtpmndmbhkfbljaaDoorRwB
namespace Go.Proofs.YtpmndmbhkfbljaaDoor
open Go Go.RowKit

/-- The two cursors of the law, behind a step of each. -/
structure Pair (B : Nat) (w W : World) (g : Nat) (v : Value) (gr : Nat) (u : Value) (l : List UInt8) (a : Nat) (e : Int) (a' : Nat) (e' : Int) : Prop where
  c : Cur W g v l a e
  r : RR B W gr u l a' e'
  below : Below B w W
  hg : B ≤ g
  hw : B ≤ w.heap.size

theorem Pair.make {w w1 : World} {g : Nat} {v : Value} {l : List UInt8} {A : Option Addr} {cap : Nat} (hb : Below w.heap.size w w1) (hM : Made w.heap.size w1 g v l 0) (hr : Rd w w.heap.size A l) (hlc : l.length ≤ cap) (hcm : cap ≤ maxLen) :
    Pair w.heap.size w (w1.alloc (.cells #[.slice A l.length cap, .int .i64 0, .int .i64 0] 30)) g v w1.heap.size (.slice A l.length cap) l 0 0 0 0 :=
  have h1 : Below w1.heap.size w1 (w1.alloc (.cells #[.slice A l.length cap, .int .i64 0, .int .i64 0] 30)) := (Below.refl _ _).alloc (Nat.le_refl _) _
  ⟨hM.1.below h1, ⟨by simpa using Box.new w1 30 #[.slice A l.length cap, .int .i64 0, .int .i64 0], ⟨A, cap, rfl, hlc, hcm, hr.below (hb.trans (h1.mono hb.size))⟩, Nat.zero_le _, hb.size⟩, hb.trans (h1.mono hb.size), hM.2.1, Nat.le_refl _⟩

section
variable {B : Nat} {w W W' : World} {g : Nat} {v : Value} {gr : Nat} {u : Value} {l : List UInt8} {a a' b : Nat} {e e' f : Int}
theorem Pair.drew (h : Pair B w W g v gr u l a e a' e') : Pair B w W.drew g v gr u l a e a' e' := ⟨h.c, h.r, h.below.drew, h.hg, h.hw⟩
theorem Pair.stepC (h : Pair B w W g v gr u l a e a' e') (hC : Cur W' g v l b f) (hG : W.grownBy W' (some g)) : Pair B w W' g v gr u l b f a' e' :=
  ⟨hC, h.r.grown hG (by have := h.r.1.other h.c.1 (by decide); simpa using this) (fun x hx => by cases hx; exact h.hg), h.below.trans (below_of_only hG (Nat.le_trans h.hw h.below.size) (fun x hx => by cases hx; exact h.hg)), h.hg, h.hw⟩
theorem Pair.stepR (h : Pair B w W g v gr u l a e a' e') (hR : RR B W' gr u l b f) (hG : W.grownBy W' (some gr)) : Pair B w W' g v gr u l a e b f :=
  ⟨h.c.behind h.r.1 hG, hR, h.below.trans (below_of_only hG (Nat.le_trans h.hw h.below.size) (fun x hx => by cases hx; exact h.r.2.2.2)), h.hg, h.hw⟩
end

end Go.Proofs.YtpmndmbhkfbljaaDoor
