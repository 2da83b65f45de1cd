/-
  Package unit: the document's own reading of a unit's head.
-/
import Derived.Test.YtelmfhpefnemfaaDoorUnE
import Derived.Test.YtelmfhpefnemfaaDoorRefR
import Derived.Test.YtelmfhpefnemfaaDoorRefC
import Derived.Test.YtelmfhpefnemfaaDoorParts
import Derived.Test.YtelmfhpefnemfaaDoorLtC
namespace Go.Proofs.YtelmfhpefnemfaaDoor
open Go Go.RowKit

section
variable {l : List UInt8} {e : Int} {wide : Bool}
end
/-- The document's cursor, the body's, the head that is made, the result's cell. -/
structure DnU (B : Nat) (w W : World) (gc : Nat) (vc : Value) (sec : List UInt8) (t : UCt) (g : Nat) (v : Value) (l : List UInt8) (s : UCt) (H X : Nat) (cs : Array Value) : Prop where
  c : RR B W gc vc sec t.1 t.2
  u : RC W g v l s.1 s.2
  x : Box W X 79 cs
  r : Box W H 79 #[.int .i64 0, .bool false, .int .u64 0, .int .u64 0, .int .u64 0, .int .u64 0, .int .u64 0, .int .u64 0]
  gr : w.grownBy W (some gc)
structure DnA (B : Nat) (w : World) (gc g H X : Nat) : Prop where
  b : B ≤ w.heap.size
  c : gc < w.heap.size
  g : w.heap.size ≤ g
  h : w.heap.size ≤ H
  x : w.heap.size ≤ X
  ne : H ≠ X
section
variable {B : Nat} {w W W' : World} {gc : Nat} {vc : Value} {sec : List UInt8} {t : UCt} {g : Nat} {v : Value} {l : List UInt8} {s s' : UCt} {H X : Nat} {cs : Array Value}
theorem DnU.call (h : DnU B w W gc vc sec t g v l s H X cs) (ha : DnA B w gc g H X) (hC : RC W' g v l s'.1 s'.2) (hG : W.grownBy W' (some g)) : DnU B w W' gc vc sec t g v l s' H X cs :=
  ⟨h.c.grown hG (fun e => by injection e with e; have := ha.c; have := ha.g; omega) (fun x hx => by injection hx with hx; have := ha.b; have := ha.g; omega), hC,
   h.x.grown hG (fun e => by injection e with e; exact (h.x.other h.u.1 (by decide)) e), h.r.grown hG (fun e => by injection e with e; exact (h.r.other h.u.1 (by decide)) e), only_trans h.gr hG (.inr fun x hx => by injection hx with hx; have := ha.g; omega)⟩
theorem DnU.drewN (h : DnU B w W gc vc sec t g v l s H X cs) (n : Nat) : DnU B w (W.drewN n) gc vc sec t g v l s H X cs := ⟨h.c.drewN n, h.u.drewN n, h.x, h.r, only_drewN h.gr n⟩
theorem DnU.set (h : DnU B w W gc vc sec t g v l s H X cs) (ha : DnA B w gc g H X) (i : Nat) (u : Value) : DnU B w (W.setCell ⟨X, i, none⟩ u) gc vc sec t g v l s H X (cs.setIfInBounds i u) := by
  have G : W.grownBy (W.setCell ⟨X, i, none⟩ u) (some X) := only_set (only_refl W (some X)) i u
  exact ⟨h.c.grown G (fun e => by injection e with e; have := ha.c; have := ha.x; omega) (fun x hx => by injection hx with hx; have := ha.b; have := ha.x; omega),
    h.u.grown G (fun e => by injection e with e; exact (h.u.1.other h.x (by decide)) e) (.inr (own_other h.u.2.1 h.x (by decide))), h.x.set i u,
    h.r.grown G (fun e => by injection e with e; exact ha.ne e), only_trans h.gr G (.inr fun x hx => by injection hx with hx; have := ha.x; omega)⟩
/-- The result's cell written. -/
theorem DnU.told (h : DnU B w W gc vc sec t g v l s H X cs) (ha : DnA B w gc g H X) (v0 v1 v2 v3 v4 v5 v6 v7 : Value) :
    Box ((((((((W.setCell ⟨H, 0, none⟩ v0).setCell ⟨H, 1, none⟩ v1).setCell ⟨H, 2, none⟩ v2).setCell ⟨H, 3, none⟩ v3).setCell ⟨H, 4, none⟩ v4).setCell ⟨H, 5, none⟩ v5).setCell ⟨H, 6, none⟩ v6).setCell ⟨H, 7, none⟩ v7) H 79 #[v0, v1, v2, v3, v4, v5, v6, v7] ∧ RR B ((((((((W.setCell ⟨H, 0, none⟩ v0).setCell ⟨H, 1, none⟩ v1).setCell ⟨H, 2, none⟩ v2).setCell ⟨H, 3, none⟩ v3).setCell ⟨H, 4, none⟩ v4).setCell ⟨H, 5, none⟩ v5).setCell ⟨H, 6, none⟩ v6).setCell ⟨H, 7, none⟩ v7) gc vc sec t.1 t.2 ∧ w.grownBy ((((((((W.setCell ⟨H, 0, none⟩ v0).setCell ⟨H, 1, none⟩ v1).setCell ⟨H, 2, none⟩ v2).setCell ⟨H, 3, none⟩ v3).setCell ⟨H, 4, none⟩ v4).setCell ⟨H, 5, none⟩ v5).setCell ⟨H, 6, none⟩ v6).setCell ⟨H, 7, none⟩ v7) (some gc) := by
  have G := eight_only W H v0 v1 v2 v3 v4 v5 v6 v7
  exact ⟨eight_box h.r rfl _ _ _ _ _ _ _ _, h.c.grown G (fun e => by injection e with e; have := ha.c; have := ha.h; omega) (fun x hx => by injection hx with hx; have := ha.b; have := ha.h; omega), only_trans h.gr G (.inr fun x hx => by injection hx with hx; have := ha.h; omega)⟩
end

end Go.Proofs.YtelmfhpefnemfaaDoor
