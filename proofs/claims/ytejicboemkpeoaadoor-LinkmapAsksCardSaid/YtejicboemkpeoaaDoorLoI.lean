/-
  New, with which refusal it tells; what In tells, as four parts.
-/
import Derived.Test.YtejicboemkpeoaaDoorLoK
import Derived.Test.YtejicboemkpeoaaDoorRegEy
import Derived.Test.YtejicboemkpeoaaDoorLnY
import Derived.Test.YtejicboemkpeoaaDoorGpI
import Derived.Test.YtejicboemkpeoaaDoorLnW
import Derived.Test.YtejicboemkpeoaaDoorGpT
import Derived.Test.YtejicboemkpeoaaDoorLoA
namespace Go.Proofs.YtejicboemkpeoaaDoor
open Go Go.RowKit

theorem lbox_far {X X' : World} {g g' : Nat} {T T' : TypeId} {cs cs' : Array Value} (h : Box X g' T' cs') (hg : X.grownBy X' (some g)) (hX : Box X g T cs) (hT : T ≠ T') : Box X' g' T' cs' :=
  Box.grown h hg (fun e => (h.other hX (Ne.symm hT)) (Option.some.inj e))
theorem lowns_far {X X' : World} {B g k n : Nat} {T e : TypeId} {cs : Array Value} {v : Value} {xs : List Value} (h : X.ownsRow B e n v k xs) (hg : X.grownBy X' (some g)) (hX : Box X g T cs) (hT : T ≠ e) : X'.ownsRow B e n v k xs := by
  refine ⟨h.1, ?_⟩
  rcases h.2 with h0 | ⟨g', cap, cur, e1, hb, hh, hr⟩
  · exact .inl h0
  · exact .inr ⟨g', cap, cur, e1, hb, lbox_far hh hg hX hT, hr⟩
/-- What a step may have turned: nothing elder, or one block of a type that is not T. -/
def Apart1 (W W' : World) (T : TypeId) : Prop := Below W.heap.size W W' ∨ ∃ H T' cs, Box W H T' cs ∧ T' ≠ T ∧ W.grownBy W' (some H)
theorem Apart1.box {W W' : World} {T : TypeId} {g : Nat} {cs : Array Value} (h : Apart1 W W' T) (hX : Box W g T cs) : Box W' g T cs := by
  rcases h with h | ⟨H, T', cs', h1, h2, h3⟩
  · exact hX.below h hX.lt
  · exact lbox_far hX h3 h1 h2
theorem Apart1.row {W W' : World} {B k n : Nat} {e : TypeId} {v : Value} {xs : List Value} (h : Apart1 W W' e) (hr : W.ownsRow B e n v k xs) : W'.ownsRow B e n v k xs := by
  rcases h with h | ⟨H, T', cs', h1, h2, h3⟩
  · exact hr.kept (only_below h none) (by rcases v.ownBlock with _ | k <;> simp)
  · exact lowns_far hr h3 h1 h2
/-- How far one row has come. -/
structure PB where
  e : Bool
  h : Nat
  f : Bool
  u : Value
  g : Bool
  v : Value
structure POk (B : Nat) (T : TypeId) (n N1 N2 : Nat) (xs1 xs2 : List Value) (b : PB) (W : World) : Prop where
  k0 : b.e = true → b.f = false → B ≤ b.h ∧ Box W b.h T #[]
  k1 : b.f = true → b.g = false → W.ownsRow B T n b.u N1 xs1
  k2 : b.g = true → W.ownsRow B T n b.v N2 xs2
  gf : b.g = true → b.f = true
theorem POk.apart {B : Nat} {T : TypeId} {n N1 N2 : Nat} {xs1 xs2 : List Value} {b : PB} {W W' : World} (h : POk B T n N1 N2 xs1 xs2 b W) (ha : Apart1 W W' T) : POk B T n N1 N2 xs1 xs2 b W' :=
  ⟨fun h1 h2 => (h.k0 h1 h2).imp id ha.box, fun h1 h2 => ha.row (h.k1 h1 h2), fun h1 => ha.row (h.k2 h1), h.gf⟩
/-- The rows, and the struct. -/
structure LB where
  p : PB
  y : PB
  a : Bool
  hm : Nat
  s : Bool
def PB.zero : PB := ⟨false, 0, false, .int .i64 0, false, .int .i64 0⟩
def LB.zero : LB := ⟨PB.zero, PB.zero, false, 0, false⟩
def lstored (s : Bool) (u v : Value) : Array Value := match s with | true => #[u, v] | false => #[.slice none 0 0, .slice none 0 0]
structure LOk (B : Nat) (w0 : World) (TP TY TM : TypeId) (np ny N1 N2 M1 M2 : Nat) (p1 p2 y1 y2 : List Value) (b : LB) (W : World) : Prop where
  hb : Below w0.heap.size w0 W
  p : POk B TP np N1 N2 p1 p2 b.p W
  y : POk B TY ny M1 M2 y1 y2 b.y W
  m : b.a = true → B ≤ b.hm ∧ Box W b.hm TM (lstored b.s b.p.v b.y.v)
  s : b.s = true → (b.p.g = true ∧ b.y.g = true) ∧ b.a = true
section
variable {B : Nat} {w0 : World} {TP TY TM : TypeId} {np ny N1 N2 M1 M2 : Nat} {p1 p2 y1 y2 : List Value} {b : LB} {W W' : World}
/-- Something new is made. -/
theorem LOk.up (h : LOk B w0 TP TY TM np ny N1 N2 M1 M2 p1 p2 y1 y2 b W) (hb : Below W.heap.size W W') : LOk B w0 TP TY TM np ny N1 N2 M1 M2 p1 p2 y1 y2 b W' :=
  ⟨h.hb.trans (hb.mono h.hb.size), h.p.apart (.inl hb), h.y.apart (.inl hb), fun e => (h.m e).imp id fun k => k.below hb k.lt, h.s⟩
theorem lrow_slice {X : World} {B k n : Nat} {e : TypeId} {v : Value} {xs : List Value} (h : X.ownsRow B e n v k xs) : ∃ A c, v = .slice A k c := by
  rcases h.2 with ⟨rfl, h0⟩ | ⟨g, cap, cur, rfl, _⟩
  · exact ⟨none, 0, by rw [h0]⟩
  · exact ⟨_, _, rfl⟩
theorem POk.new (h : POk B TP np N1 N2 p1 p2 b.p W) (hB : B ≤ W.heap.size) (cs : Array Value) (hcs : cs = #[]) : POk B TP np N1 N2 p1 p2 { b.p with e := true, h := W.heap.size } (W.alloc (.cells cs TP)) := by
  subst hcs
  have k := h.apart (W' := W.alloc (.cells #[] TP)) (.inl ((Below.refl _ _).alloc (Nat.le_refl _) _))
  exact ⟨fun _ _ => ⟨hB, Box.new W _ _⟩, k.k1, k.k2, k.gf⟩
theorem POk.one (h : POk B TP np N1 N2 p1 p2 b.p W) (hf : b.p.f = false) {u : Value} (hu : W'.ownsRow B TP np u N1 p1) : POk B TP np N1 N2 p1 p2 { b.p with f := true, u := u } W' := by
  refine ⟨(fun _ h => by cases h), (fun _ _ => hu), (fun e => ?_), (fun _ => rfl)⟩
  have := h.gf e
  rw [hf] at this; cases this
theorem POk.two (_ : POk B TP np N1 N2 p1 p2 b.p W) (hf : b.p.f = true) {u : Value} (hu : W'.ownsRow B TP np u N2 p2) : POk B TP np N1 N2 p1 p2 { b.p with g := true, v := u } W' :=
  ⟨(fun _ h => by have h' : b.p.f = false := h; rw [hf] at h'; cases h'), (fun _ h => by cases h), (fun _ => hu), (fun _ => hf)⟩
end
end Go.Proofs.YtejicboemkpeoaaDoor

namespace Go.Proofs.YtejicboemkpeoaaDoor
open Go Go.RowKit

/-- Which refusal, by the map alone. -/
def NewE (O : List ObjV) (P : List Place) (Y : List Named) (e : Int) : Prop :=
  (refM O [] P Y = true ∧ e = 30) ∨ (refM O [] P Y = false ∧ ¬ ApartI (imgsP O P) ∧ e = 31) ∨ (refM O [] P Y = false ∧ ApartI (imgsP O P) ∧ e = 0)
theorem NewE.one {O : List ObjV} {P P' : List Place} {Y Y' : List Named} {e e' : Int} (h : NewE O P Y e) (h' : NewE O P' Y' e') (hP : P.Perm P') (hY : Y.Perm Y') : e = e' := by
  unfold NewE at h h'
  rw [← refM_perm hP hY, ← apart_perm (imgsP_perm hP)] at h'
  rcases h with ⟨h1, rfl⟩ | ⟨h1, h2, rfl⟩ | ⟨h1, h2, rfl⟩ <;> rcases h' with ⟨k1, rfl⟩ | ⟨k1, k2, rfl⟩ | ⟨k1, k2, rfl⟩
  all_goals first | rfl | exact absurd h2 k2 | exact absurd k2 h2 | (rw [h1] at k1; cases k1)
end Go.Proofs.YtejicboemkpeoaaDoor
