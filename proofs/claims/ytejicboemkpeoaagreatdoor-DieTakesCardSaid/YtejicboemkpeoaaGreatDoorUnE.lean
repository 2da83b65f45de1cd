/-
  Package unit: All.
-/
import Derived.Test.YtejicboemkpeoaaGreatDoorRwB
import Derived.Test.YtejicboemkpeoaaGreatDoorCurN
import Derived.Test.YtejicboemkpeoaaGreatDoorSyA
import Derived.Deep.DeepCutAuto
import Derived.Deep.LoopGhost
import Derived.Deep.RegionHeldLaw
import Derived.Test.YtejicboemkpeoaaGreatDoorRefR
import Derived.Test.YtejicboemkpeoaaGreatDoorSeR
import Derived.Maps.AppendAt
namespace Go.Proofs.YtejicboemkpeoaaGreatDoor
open Go Go.RowKit

/-- A unit's head. -/
structure UHd where
  kind : Int
  wide : Bool
  ab : Nat
  sig : Nat
  ty : Nat
  off : Nat
  first : Nat
  stop : Nat
def UHd.cells (h : UHd) : List Value := [.int .i64 h.kind, .bool h.wide, .int .u64 (h.ab : Int), .int .u64 (h.sig : Int), .int .u64 (h.ty : Int), .int .u64 (h.off : Int), .int .u64 (h.first : Int), .int .u64 (h.stop : Int)]
/-! ### A struct of eight cells -/
section
variable {W : World} {H : Nat} {T : TypeId}
theorem eight_cells {c0 c1 c2 c3 c4 c5 c6 c7 : Value} (h : Box W H T #[c0, c1, c2, c3, c4, c5, c6, c7]) : W.cell? ⟨H, 0, none⟩ = some c0 ∧ W.cell? ⟨H, 1, none⟩ = some c1 ∧ W.cell? ⟨H, 2, none⟩ = some c2 ∧ W.cell? ⟨H, 3, none⟩ = some c3 ∧ W.cell? ⟨H, 4, none⟩ = some c4 ∧ W.cell? ⟨H, 5, none⟩ = some c5 ∧ W.cell? ⟨H, 6, none⟩ = some c6 ∧ W.cell? ⟨H, 7, none⟩ = some c7 := by
  refine ⟨?_, ?_, ?_, ?_, ?_, ?_, ?_, ?_⟩ <;> (rw [h.cell]; rfl)
theorem eight_box {cs : Array Value} (h : Box W H T cs) (hs : cs.size = 8) (v0 v1 v2 v3 v4 v5 v6 v7 : Value) :
    Box ((((((((W.setCell ⟨H, 0, none⟩ v0).setCell ⟨H, 1, none⟩ v1).setCell ⟨H, 2, none⟩ v2).setCell ⟨H, 3, none⟩ v3).setCell ⟨H, 4, none⟩ v4).setCell ⟨H, 5, none⟩ v5).setCell ⟨H, 6, none⟩ v6).setCell ⟨H, 7, none⟩ v7) H T #[v0, v1, v2, v3, v4, v5, v6, v7] := by
  obtain ⟨l⟩ := cs
  match l, hs with
  | [c0, c1, c2, c3, c4, c5, c6, c7], _ => simpa using (((((((h.set 0 v0).set 1 v1).set 2 v2).set 3 v3).set 4 v4).set 5 v5).set 6 v6).set 7 v7
theorem eight_only (W : World) (H : Nat) (v0 v1 v2 v3 v4 v5 v6 v7 : Value) :
    W.grownBy ((((((((W.setCell ⟨H, 0, none⟩ v0).setCell ⟨H, 1, none⟩ v1).setCell ⟨H, 2, none⟩ v2).setCell ⟨H, 3, none⟩ v3).setCell ⟨H, 4, none⟩ v4).setCell ⟨H, 5, none⟩ v5).setCell ⟨H, 6, none⟩ v6).setCell ⟨H, 7, none⟩ v7) (some H) :=
  only_set (only_set (only_set (only_set (only_set (only_set (only_set (only_set (only_refl W (some H)) 0 v0) 1 v1) 2 v2) 3 v3) 4 v4) 5 v5) 6 v6) 7 v7
end

abbrev UCt := Nat × Int
end Go.Proofs.YtejicboemkpeoaaGreatDoor

namespace Go.Proofs.YtejicboemkpeoaaGreatDoor
open Go Go.RowKit

/-- What the readers of a unit's numbers lean on: the body's cursor, the variables of the cursor and of the form, the table of sizes. -/
structure UIn (w : World) (g pb pw : Nat) (v : Value) (l : List UInt8) (wide : Bool) (s : UCt) : Prop where
  c : Cur w g v l s.1 s.2
  b : Box w pb 128 #[.pointer (some ⟨g, 0, none⟩)]
  d : Box w pw 4 #[.bool wide]
  z : Sz w
section
variable {w0 w w' : World} {g pb pw : Nat} {v : Value} {l : List UInt8} {wide : Bool} {s s' : UCt}
theorem UIn.call (h : UIn w g pb pw v l wide s) (hC : Cur w' g v l s'.1 s'.2) (hG : w.grownBy w' (some g)) : UIn w' g pb pw v l wide s' :=
  ⟨hC, h.b.grown hG (fun e => by injection e with e; exact (h.b.other h.c.1 (by decide)) e), h.d.grown hG (fun e => by injection e with e; exact (h.d.other h.c.1 (by decide)) e), h.z.grown hG (h.z.cur h.c)⟩
theorem UIn.drewN (h : UIn w g pb pw v l wide s) (n : Nat) : UIn (w.drewN n) g pb pw v l wide s := ⟨h.c, h.b, h.d, h.z⟩
theorem UIn.below (h : UIn w g pb pw v l wide s) (hb : Below w.heap.size w w') : UIn w' g pb pw v l wide s :=
  ⟨h.c.below hb, h.b.below hb h.b.lt, h.d.below hb h.d.lt, h.z.below hb h.z.pos⟩
theorem UIn.past (h : UIn w g pb pw v l wide s) {H : Nat} {T : TypeId} {cs : Array Value} (hX : Box w H T cs) (h8 : 5 ≠ T) (hg : g ≠ H) (hb : pb ≠ H) (hw : pw ≠ H) (hz : 3 ≠ H) (hG : w.grownBy w' (some H)) : UIn w' g pb pw v l wide s :=
  ⟨h.c.grown hG (by simpa using hg) (.inr (own_other h.c.2.1 hX h8)), h.b.grown hG (by simpa using hb), h.d.grown hG (by simpa using hw), h.z.grown hG (fun e => by injection e with e; exact hz e.symm)⟩
end

section
variable {w : World} {g pb pw : Nat} {v : Value} {l : List UInt8} {wide : Bool} {s : UCt}
end

end Go.Proofs.YtejicboemkpeoaaGreatDoor

namespace Go.Proofs.YtejicboemkpeoaaGreatDoor
open Go Go.RowKit

/-- What has been read and stored so far. -/
structure NSt (w0 w : World) (g pb pw : Nat) (v : Value) (l : List UInt8) (wide : Bool) (H : Nat) (s : UCt) (cs : Array Value) : Prop where
  u : UIn w g pb pw v l wide s
  x : Box w H 51 cs
  gr : w0.grownBy w (some g)
/-- Where things are. -/
structure NAp (w0 : World) (g pb pw H : Nat) : Prop where
  g : g < w0.heap.size
  b : pb < w0.heap.size
  d : pw < w0.heap.size
  z : 3 < w0.heap.size
  h : w0.heap.size ≤ H
section
variable {w0 w w' wx : World} {g pb pw H : Nat} {v : Value} {l : List UInt8} {wide : Bool} {s s' : UCt} {cs : Array Value}
theorem NSt.call (h : NSt w0 w g pb pw v l wide H s cs) (ha : NAp w0 g pb pw H) (hU : UIn w' g pb pw v l wide s') (hG : w.grownBy w' (some g)) : NSt w0 w' g pb pw v l wide H s' cs :=
  ⟨hU, h.x.grown hG (fun e => by injection e with e; have := ha.g; have := ha.h; omega), h.gr.trans hG⟩
theorem NSt.set (h : NSt w0 w g pb pw v l wide H s cs) (ha : NAp w0 g pb pw H) (i : Nat) (u : Value) : NSt w0 (w.setCell ⟨H, i, none⟩ u) g pb pw v l wide H s (cs.setIfInBounds i u) := by
  have G : w.grownBy (w.setCell ⟨H, i, none⟩ u) (some H) := only_set (only_refl w (some H)) i u
  have := ha.h
  exact ⟨h.u.past h.x (by decide) (by have := ha.g; omega) (by have := ha.b; omega) (by have := ha.d; omega) (by have := ha.z; omega) G, h.x.set i u, only_trans h.gr G (.inr fun x hx => by injection hx with hx; omega)⟩
/-- The whole struct stored. -/
theorem NSt.told (h : NSt w0 wx g pb pw v l wide H s cs) (ha : NAp w0 g pb pw H) (hs : cs.size = 8) (v0 v1 v2 v3 v4 v5 v6 v7 : Value) :
    NSt w0 ((((((((wx.setCell ⟨H, 0, none⟩ v0).setCell ⟨H, 1, none⟩ v1).setCell ⟨H, 2, none⟩ v2).setCell ⟨H, 3, none⟩ v3).setCell ⟨H, 4, none⟩ v4).setCell ⟨H, 5, none⟩ v5).setCell ⟨H, 6, none⟩ v6).setCell ⟨H, 7, none⟩ v7) g pb pw v l wide H s #[v0, v1, v2, v3, v4, v5, v6, v7] := by
  have G := eight_only wx H v0 v1 v2 v3 v4 v5 v6 v7
  have := ha.h
  exact ⟨h.u.past h.x (by decide) (by have := ha.g; omega) (by have := ha.b; omega) (by have := ha.d; omega) (by have := ha.z; omega) G, eight_box h.x hs _ _ _ _ _ _ _ _, only_trans h.gr G (.inr fun x hx => by injection hx with hx; omega)⟩
end
end Go.Proofs.YtejicboemkpeoaaGreatDoor

namespace Go.Proofs.YtejicboemkpeoaaGreatDoor
open Go Go.RowKit

/-- The cursor, the body's cursor, the result's cell. -/
structure TkU (w W : World) (gc : Nat) (vc : Value) (sec : List UInt8) (t : UCt) (g pb pw : Nat) (v : Value) (l : List UInt8) (wide : Bool) (s : UCt) (H : Nat) : Prop where
  c : Cur W gc vc sec t.1 t.2
  u : UIn W g pb pw v l wide s
  r : Box W H 51 #[.int .i64 0, .bool false, .int .u64 0, .int .u64 0, .int .u64 0, .int .u64 0, .int .u64 0, .int .u64 0]
  gr : w.grownBy W (some gc)
/-- Where things are. -/
structure TkA (w : World) (gc g H : Nat) : Prop where
  c : gc < w.heap.size
  g : w.heap.size ≤ g
  h : w.heap.size ≤ H
  z : 3 < w.heap.size
section
variable {w W W' : World} {gc : Nat} {vc : Value} {sec : List UInt8} {t t' : UCt} {g pb pw : Nat} {v : Value} {l : List UInt8} {wide : Bool} {s s' : UCt} {H : Nat}
theorem TkU.body (h : TkU w W gc vc sec t g pb pw v l wide s H) (ha : TkA w gc g H) (hU : UIn W' g pb pw v l wide s') (hG : W.grownBy W' (some g)) : TkU w W' gc vc sec t g pb pw v l wide s' H :=
  ⟨h.c.other (by have := ha.c; have := ha.g; omega) h.u.c.1 hG, hU, h.r.grown hG (fun e => by injection e with e; exact (h.r.other h.u.c.1 (by decide)) e), only_trans h.gr hG (.inr fun x hx => by injection hx with hx; have := ha.g; omega)⟩
theorem TkU.below (h : TkU w W gc vc sec t g pb pw v l wide s H) (hb : Below W.heap.size W W') : TkU w W' gc vc sec t g pb pw v l wide s H :=
  ⟨h.c.below hb, h.u.below hb, h.r.below hb h.r.lt, only_then_below h.gr hb⟩
theorem TkU.drewN (h : TkU w W gc vc sec t g pb pw v l wide s H) (n : Nat) : TkU w (W.drewN n) gc vc sec t g pb pw v l wide s H :=
  h.below (below_drewN (Below.refl _ _) n)
theorem TkU.past (h : TkU w W gc vc sec t g pb pw v l wide s H) (ha : TkA w gc g H) {X : Nat} {cs : Array Value} (hX : Box W X 51 cs) (hx : w.heap.size ≤ X) (hne : H ≠ X) (hG : W.grownBy W' (some X)) : TkU w W' gc vc sec t g pb pw v l wide s H :=
  ⟨h.c.grown hG (fun e => by injection e with e; exact (h.c.1.other hX (by decide)) e) (.inr (own_other h.c.2.1 hX (by decide))),
   h.u.past hX (by decide) (h.u.c.1.other hX (by decide)) (h.u.b.other hX (by decide)) (h.u.d.other hX (by decide)) (by have := ha.z; omega) hG,
   h.r.grown hG (fun e => by injection e with e; exact hne e), only_trans h.gr hG (.inr fun x hx' => by injection hx' with hx'; omega)⟩
/-- The result's cell written. -/
theorem TkU.told (h : TkU w W gc vc sec t g pb pw v l wide s H) (ha : TkA w gc g H) (v0 v1 v2 v3 v4 v5 v6 v7 : Value) :
    Box ((((((((W.setCell ⟨H, 0, none⟩ v0).setCell ⟨H, 1, none⟩ v1).setCell ⟨H, 2, none⟩ v2).setCell ⟨H, 3, none⟩ v3).setCell ⟨H, 4, none⟩ v4).setCell ⟨H, 5, none⟩ v5).setCell ⟨H, 6, none⟩ v6).setCell ⟨H, 7, none⟩ v7) H 51 #[v0, v1, v2, v3, v4, v5, v6, v7] ∧ Cur ((((((((W.setCell ⟨H, 0, none⟩ v0).setCell ⟨H, 1, none⟩ v1).setCell ⟨H, 2, none⟩ v2).setCell ⟨H, 3, none⟩ v3).setCell ⟨H, 4, none⟩ v4).setCell ⟨H, 5, none⟩ v5).setCell ⟨H, 6, none⟩ v6).setCell ⟨H, 7, none⟩ v7) gc vc sec t.1 t.2 ∧ w.grownBy ((((((((W.setCell ⟨H, 0, none⟩ v0).setCell ⟨H, 1, none⟩ v1).setCell ⟨H, 2, none⟩ v2).setCell ⟨H, 3, none⟩ v3).setCell ⟨H, 4, none⟩ v4).setCell ⟨H, 5, none⟩ v5).setCell ⟨H, 6, none⟩ v6).setCell ⟨H, 7, none⟩ v7) (some gc) := by
  have G := eight_only W H v0 v1 v2 v3 v4 v5 v6 v7
  have := ha.h
  exact ⟨eight_box h.r rfl _ _ _ _ _ _ _ _, h.c.grown G (fun e => by injection e with e; exact (h.c.1.other h.r (by decide)) e) (.inr (own_other h.c.2.1 h.r (by decide))), only_trans h.gr G (.inr fun x hx => by injection hx with hx; omega)⟩
end

end Go.Proofs.YtejicboemkpeoaaGreatDoor

namespace Go.Proofs.YtejicboemkpeoaaGreatDoor
open Go Go.RowKit

/-! ### Rows, cursors and boxes beside one another -/
theorem un_far {X X' : World} {B g k n : Nat} {T e : TypeId} {cs : Array Value} {v : Value} {xs : List Value} (h : X.ownsRow B e n v k xs) (hg : X.grownBy X' (some g)) (hX : Box X g T cs) (hT : T ≠ e) : X'.ownsRow B e n v k xs := by
  refine h.kept hg ?_
  rcases h.2 with ⟨rfl, _⟩ | ⟨g', cap, cur, rfl, _, hh, _⟩
  · exact .inl rfl
  · refine .inr fun he => ?_
    have he' : g' = g := by simpa [Value.ownBlock] using he
    subst he'
    unfold Box at hX
    rw [hX] at hh
    injection hh with hh
    injection hh with _ hh
    exact hT hh
theorem un_apart {w w' : World} {B B' m m' n n' : Nat} {t t' : TypeId} {v v' : Value} {xs xs' : List Value} (h : w.ownsRow B t m v n xs) (h' : w.ownsRow B' t' m' v' n' xs') (ht : t ≠ t') (hg : w.grownBy w' v'.ownBlock) : w'.ownsRow B t m v n xs := by
  refine h.kept hg ?_
  rcases h.2 with ⟨rfl, _⟩ | ⟨g, cap, cur, rfl, _, hh, _⟩
  · exact .inl rfl
  · rcases h'.2 with ⟨rfl, _⟩ | ⟨g', cap', cur', rfl, _, hh', _⟩
    · exact .inr (by simp [Value.ownBlock])
    · refine .inr fun e => ?_
      have e' : g = g' := by simpa [Value.ownBlock] using e
      subst e'
      rw [hh] at hh'
      injection hh' with hh'
      injection hh' with _ hh'
      exact ht hh'
theorem un_box {W W1 : World} {H base n m : Nat} {T t : TypeId} {cs : Array Value} {u : Value} {xs : List Value} (hX : Box W H T cs) (hrow : W.ownsRow base t m u n xs) (hT : T ≠ t) (hg : W.grownBy W1 u.ownBlock) : Box W1 H T cs := by
  refine hX.grown hg ?_
  rcases hrow.2 with ⟨rfl, _⟩ | ⟨g, cap, cur, rfl, _, hh, _⟩
  · simp [Value.ownBlock]
  · intro e
    have e' : H = g := by simpa [Value.ownBlock] using e
    subst e'
    unfold Box at hX
    rw [hX] at hh
    injection hh with hh
    injection hh with _ hh
    exact hT hh
theorem un_cur {W W1 : World} {g base n m : Nat} {t : TypeId} {v u : Value} {l : List UInt8} {a : Nat} {e : Int} {xs : List Value} (h : Cur W g v l a e) (hrow : W.ownsRow base t m u n xs) (h1 : 177 ≠ t) (h2 : 5 ≠ t) (hg : W.grownBy W1 u.ownBlock) : Cur W1 g v l a e :=
  ⟨un_box h.1 hrow h1 hg, un_apart h.2.1 hrow h2 hg, h.2.2⟩
theorem un_slc {X : World} {B k n : Nat} {e : TypeId} {v : Value} {xs : List Value} (h : X.ownsRow B e n v k xs) : ∃ A c, v = .slice A k c := by
  rcases h.2 with ⟨rfl, h0⟩ | ⟨g, cap, cur, rfl, _⟩
  · exact ⟨none, 0, by rw [h0]⟩
  · exact ⟨_, _, rfl⟩
end Go.Proofs.YtejicboemkpeoaaGreatDoor
