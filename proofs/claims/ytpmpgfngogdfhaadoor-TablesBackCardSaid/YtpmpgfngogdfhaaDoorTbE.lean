/-
  The document's All of tables (written by wip/tools/gen_tbe.py).
-/
import Derived.Test.YtpmpgfngogdfhaaDoorTbD
import Derived.Test.YtpmpgfngogdfhaaDoorUnG
import Derived.RangeFuncNested
import Derived.RangeFuncBound
import Derived.RangeFuncCalls
import Derived.RangeFuncLeaves
import Derived.WalkKit
import Derived.Deep.RegionHeld
import Derived.ControlIn
import Derived.OrdersIn
import Derived.OrdersHeld
namespace Go.Proofs.YtpmpgfngogdfhaaDoor
open Go Go.RowKit

/-- The document's cursor, the body's. -/
structure DnB (B : Nat) (w W : World) (gc : Nat) (vc : Value) (sec : List UInt8) (t : UCt) (g : Nat) (v : Value) (l : List UInt8) (s : UCt) : Prop where
  c : RR B W gc vc sec t.1 t.2
  u : RC W g v l s.1 s.2
  gr : w.grownBy W (some gc)
structure DnP (B : Nat) (w : World) (gc g : Nat) : Prop where
  b : B ≤ w.heap.size
  c : gc < w.heap.size
  g : w.heap.size ≤ g
section
variable {B : Nat} {w W W' : World} {gc : Nat} {vc : Value} {sec : List UInt8} {t : UCt} {g : Nat} {v : Value} {l : List UInt8} {s s' : UCt}
theorem DnB.call (h : DnB B w W gc vc sec t g v l s) (ha : DnP B w gc g) (hC : RC W' g v l s'.1 s'.2) (hG : W.grownBy W' (some g)) : DnB B w W' gc vc sec t g v l s' :=
  ⟨h.c.grown hG (fun e => by injection e with e; have := ha.c; have := ha.g; omega) (fun x hx => by injection hx with hx; have := ha.b; have := ha.g; omega), hC,
   only_trans h.gr hG (.inr fun x hx => by injection hx with hx; have := ha.g; omega)⟩
theorem DnB.below (h : DnB B w W gc vc sec t g v l s) (hb : Below W.heap.size W W') : DnB B w W' gc vc sec t g v l s := ⟨h.c.below hb, h.u.below hb, only_then_below h.gr hb⟩
theorem DnB.drewN (h : DnB B w W gc vc sec t g v l s) (n : Nat) : DnB B w (W.drewN n) gc vc sec t g v l s := h.below (below_drewN (Below.refl _ _) n)
end
/-- Beside them the table that is made, and its items. -/
structure DnX (B : Nat) (w W : World) (gc : Nat) (vc : Value) (sec : List UInt8) (t : UCt) (g : Nat) (v : Value) (l : List UInt8) (s : UCt) (X : Nat) (c0 c1 u : Value) (its : List Nat) : Prop where
  d : DnB B w W gc vc sec t g v l s
  x : Box W X 131 #[c0, c1, u]
  o : OwnU W w.heap.size u its
section
variable {B : Nat} {w W W' : World} {gc : Nat} {vc : Value} {sec : List UInt8} {t : UCt} {g : Nat} {v : Value} {l : List UInt8} {s s' : UCt} {X : Nat} {c0 c1 u u' : Value} {its its' : List Nat}
theorem DnX.call (h : DnX B w W gc vc sec t g v l s X c0 c1 u its) (ha : DnP B w gc g) (hC : RC W' g v l s'.1 s'.2) (hG : W.grownBy W' (some g)) : DnX B w W' gc vc sec t g v l s' X c0 c1 u its :=
  ⟨h.d.call ha hC hG, h.x.grown hG (fun e => by injection e with e; exact (h.x.other h.d.u.1 (by decide)) e), un_far h.o hG h.d.u.1 (by decide)⟩
theorem DnX.below (h : DnX B w W gc vc sec t g v l s X c0 c1 u its) (hb : Below W.heap.size W W') : DnX B w W' gc vc sec t g v l s X c0 c1 u its := ⟨h.d.below hb, h.x.below hb h.x.lt, row_below h.o hb⟩
theorem DnX.drewN (h : DnX B w W gc vc sec t g v l s X c0 c1 u its) (n : Nat) : DnX B w (W.drewN n) gc vc sec t g v l s X c0 c1 u its := h.below (below_drewN (Below.refl _ _) n)
/-- An item appended. -/
theorem DnX.more (h : DnX B w W gc vc sec t g v l s X c0 c1 u its) (ha : DnP B w gc g) (hG : W.grownBy W' u.ownBlock) (ho : OwnU W' w.heap.size u' its') : DnB B w W' gc vc sec t g v l s ∧ Box W' X 131 #[c0, c1, u] ∧ OwnU W' w.heap.size u' its' := by
  have hu : ∀ x, u.ownBlock = some x → w.heap.size ≤ x := fun x hx => (h.o.lt x hx).1
  refine ⟨⟨un_rr h.d.c h.o (by decide) ha.b hG, ?_, only_trans h.d.gr hG (.inr hu)⟩, un_box h.x h.o (by decide) hG, ho⟩
  refine ⟨un_box h.d.u.1 h.o (by decide) hG, un_apart h.d.u.2.1 h.o (by decide) hG, h.d.u.2.2⟩
/-- And stored into the table. -/
theorem DnX.stored (hd : DnB B w W gc vc sec t g v l s) (ha : DnP B w gc g) (hx : Box W X 131 #[c0, c1, u]) (hX : w.heap.size ≤ X) (ho : OwnU W w.heap.size u' its') : DnX B w (W.setCell ⟨X, 2, none⟩ u') gc vc sec t g v l s X c0 c1 u' its' := by
  have G : W.grownBy (W.setCell ⟨X, 2, none⟩ u') (some X) := only_set (only_refl W (some X)) 2 u'
  refine ⟨⟨hd.c.grown G (fun e => by injection e with e; have := ha.c; omega) (fun x hx => by injection hx with hx; have := ha.b; omega), hd.u.grown G (fun e => by injection e with e; exact (hd.u.1.other hx (by decide)) e) (.inr (own_other hd.u.2.1 hx (by decide))), only_trans hd.gr G (.inr fun x hx => by injection hx with hx; omega)⟩, ?_, un_far ho G hx (by decide)⟩
  simpa using hx.set 2 u'
end
/-- The table made. -/
theorem DnX.made {B : Nat} {w W W1 : World} {gc : Nat} {vc : Value} {sec : List UInt8} {t : UCt} {g : Nat} {v : Value} {l : List UInt8} {s : UCt} {z0 z1 z2 : Value} (hd : DnB B w W gc vc sec t g v l s) (hb : Below W.heap.size W W1) (hx : Box W1 W.heap.size 131 #[z0, z1, z2]) (c0 c1 : Value) :
    DnX B w (((W1.setCell ⟨W.heap.size, 0, none⟩ c0).setCell ⟨W.heap.size, 1, none⟩ c1).setCell ⟨W.heap.size, 2, none⟩ (.slice none 0 0)) gc vc sec t g v l s W.heap.size c0 c1 (.slice none 0 0) [] := by
  have G := three_onlyT W1 W.heap.size c0 c1 (.slice none 0 0)
  have hb2 : Below W.heap.size W (((W1.setCell ⟨W.heap.size, 0, none⟩ c0).setCell ⟨W.heap.size, 1, none⟩ c1).setCell ⟨W.heap.size, 2, none⟩ (.slice none 0 0)) := hb.grown G hb.size (fun x hx => by injection hx with hx; omega)
  exact ⟨hd.below hb2, three_boxT hx rfl _ _ _, World.ownsRow_nil _ _ _ _⟩
end Go.Proofs.YtpmpgfngogdfhaaDoor
