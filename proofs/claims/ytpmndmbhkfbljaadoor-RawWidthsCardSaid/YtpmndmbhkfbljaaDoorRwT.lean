/-
  Two values told side by side into two structs: how far a region that draws its order has come.
-/
import Derived.Test.YtpmndmbhkfbljaaDoorRwR
import Derived.Test.YtpmndmbhkfbljaaDoorRegEy
import Derived.Test.YtpmndmbhkfbljaaDoorPair
import Derived.Test.YtpmndmbhkfbljaaDoorRwA
namespace Go.Proofs.YtpmndmbhkfbljaaDoor
open Go Go.RowKit

/-- Which value is told, which struct is made and filled; where they are. -/
structure TB where
  d1 : Bool
  d2 : Bool
  a1 : Bool
  a2 : Bool
  s1 : Bool
  s2 : Bool
  h1 : Nat
  h2 : Nat
  A1 : Option Addr
  A2 : Option Addr
  c1 : Nat
  c2 : Nat
def TB.zero : TB := ⟨false, false, false, false, false, false, 0, 0, none, none, 0, 0⟩
abbrev xcells (x : RV) (A : Option Addr) (c : Nat) : Array Value := #[.int .i64 x.form, .int .u64 (x.u : Int), .int .i64 x.s, .slice A x.b.length c, .string ⟨x.t.toArray⟩]
abbrev zcells : Array Value := #[.int .i64 0, .int .u64 0, .int .i64 0, .slice none 0 0, .string ⟨#[]⟩]
def stored (s : Bool) (x : RV) (A : Option Addr) (c : Nat) : Array Value := match s with | true => xcells x A c | false => zcells
structure Two (B : Nat) (x : RV) (b : TB) (W : World) : Prop where
  o1 : b.d1 = true → Own W B (.slice b.A1 x.b.length b.c1) x.b
  o2 : b.d2 = true → Own W B (.slice b.A2 x.b.length b.c2) x.b
  x1 : b.a1 = true → B ≤ b.h1 ∧ Box W b.h1 33 (stored b.s1 x b.A1 b.c1)
  x2 : b.a2 = true → B ≤ b.h2 ∧ Box W b.h2 33 (stored b.s2 x b.A2 b.c2)
  ne : b.a1 = true → b.a2 = true → b.h1 ≠ b.h2
  sd1 : b.s1 = true → b.d1 = true
  sd2 : b.s2 = true → b.d2 = true
  sa1 : b.s1 = true → b.a1 = true
  sa2 : b.s2 = true → b.a2 = true
theorem Two.zero (B : Nat) (x : RV) (W : World) : Two B x TB.zero W := by
  constructor <;> (intro h; cases h)
section
variable {B : Nat} {x : RV} {b : TB} {W W' : World}
theorem Two.up (h : Two B x b W) (hb : Below W.heap.size W W') : Two B x b W' :=
  ⟨fun e => own_below (h.o1 e) hb, fun e => own_below (h.o2 e) hb, fun e => (h.x1 e).imp id fun k => k.below hb k.lt, fun e => (h.x2 e).imp id fun k => k.below hb k.lt, h.ne, h.sd1, h.sd2, h.sa1, h.sa2⟩
theorem Two.far {H : Nat} {T : TypeId} {cs : Array Value} (h : Two B x b W) (hX : Box W H T cs) (hT : 33 ≠ T) (hU : 5 ≠ T) (hG : W.grownBy W' (some H)) : Two B x b W' :=
  ⟨fun e => own_pastR (h.o1 e) hX hU hG, fun e => own_pastR (h.o2 e) hX hU hG, fun e => (h.x1 e).imp id fun k => k.grown hG (fun e => (k.other hX hT) (Option.some.inj e)), fun e => (h.x2 e).imp id fun k => k.grown hG (fun e => (k.other hX hT) (Option.some.inj e)), h.ne, h.sd1, h.sd2, h.sa1, h.sa2⟩
theorem Two.got1 (h : Two B x b W) (hd : b.d1 = false) {A : Option Addr} {c : Nat} (hO : Own W B (.slice A x.b.length c) x.b) : Two B x { b with d1 := true, A1 := A, c1 := c } W := by
  have hs : b.s1 = false := by
    cases e : b.s1 with
    | false => rfl
    | true => rw [h.sd1 e] at hd; cases hd
  exact ⟨fun _ => hO, h.o2, fun e => by have := h.x1 e; dsimp only; rw [hs] at this ⊢; exact this, h.x2, h.ne, fun _ => rfl, h.sd2, h.sa1, h.sa2⟩
theorem Two.got2 (h : Two B x b W) (hd : b.d2 = false) {A : Option Addr} {c : Nat} (hO : Own W B (.slice A x.b.length c) x.b) : Two B x { b with d2 := true, A2 := A, c2 := c } W := by
  have hs : b.s2 = false := by
    cases e : b.s2 with
    | false => rfl
    | true => rw [h.sd2 e] at hd; cases hd
  exact ⟨h.o1, fun _ => hO, h.x1, fun e => by have := h.x2 e; dsimp only; rw [hs] at this ⊢; exact this, h.ne, h.sd1, fun _ => rfl, h.sa1, h.sa2⟩
theorem Two.new1 (h : Two B x b W) (ha : b.a1 = false) (hB : B ≤ W.heap.size) : Two B x { b with a1 := true, h1 := W.heap.size } (W.alloc (.cells zcells 33)) := by
  have hb : Below W.heap.size W (W.alloc (.cells zcells 33)) := (Below.refl _ _).alloc (Nat.le_refl _) _
  have hs : b.s1 = false := by
    cases e : b.s1 with
    | false => rfl
    | true => rw [h.sa1 e] at ha; cases ha
  have k := h.up hb
  exact ⟨k.o1, k.o2, fun _ => ⟨hB, by dsimp only; rw [hs]; exact Box.new W _ _⟩, k.x2, fun _ e => by have := (h.x2 e).2.lt; dsimp only at this ⊢; omega, k.sd1, k.sd2, fun _ => rfl, k.sa2⟩
theorem Two.new2 (h : Two B x b W) (ha : b.a2 = false) (hB : B ≤ W.heap.size) : Two B x { b with a2 := true, h2 := W.heap.size } (W.alloc (.cells zcells 33)) := by
  have hb : Below W.heap.size W (W.alloc (.cells zcells 33)) := (Below.refl _ _).alloc (Nat.le_refl _) _
  have hs : b.s2 = false := by
    cases e : b.s2 with
    | false => rfl
    | true => rw [h.sa2 e] at ha; cases ha
  have k := h.up hb
  exact ⟨k.o1, k.o2, k.x1, fun _ => ⟨hB, by dsimp only; rw [hs]; exact Box.new W _ _⟩, fun e _ => by have := (h.x1 e).2.lt; dsimp only at this ⊢; omega, k.sd1, k.sd2, k.sa1, fun _ => rfl⟩
/-- A struct's five cells written. -/
abbrev set5 (W : World) (H : Nat) (x : RV) (A : Option Addr) (c : Nat) : World := ((((W.setCell ⟨H, 0, none⟩ (.int .i64 x.form)).setCell ⟨H, 1, none⟩ (.int .u64 (x.u : Int))).setCell ⟨H, 2, none⟩ (.int .i64 x.s)).setCell ⟨H, 3, none⟩ (.slice A x.b.length c)).setCell ⟨H, 4, none⟩ (.string ⟨x.t.toArray⟩)
theorem set5_only (W : World) (H : Nat) (x : RV) (A : Option Addr) (c : Nat) : W.grownBy (set5 W H x A c) (some H) := five_onlyR W H _ _ _ _ _
theorem stored_five (s : Bool) (x : RV) (A : Option Addr) (c : Nat) : (stored s x A c).size = 5 := by cases s <;> rfl
theorem Two.put1 (h : Two B x b W) (ha : b.a1 = true) (hd : b.d1 = true) : Two B x { b with s1 := true } (set5 W b.h1 x b.A1 b.c1) := by
  obtain ⟨hB, hX⟩ := h.x1 ha
  have hG := set5_only W b.h1 x b.A1 b.c1
  exact ⟨fun e => own_pastR (h.o1 e) hX (by decide) hG, fun e => own_pastR (h.o2 e) hX (by decide) hG, fun _ => ⟨hB, five_boxR hX (stored_five _ _ _ _) _ _ _ _ _⟩, fun e => (h.x2 e).imp id fun k => k.grown hG (fun e' => h.ne ha e (Option.some.inj e').symm), h.ne, fun _ => hd, h.sd2, fun _ => ha, h.sa2⟩
theorem Two.put2 (h : Two B x b W) (ha : b.a2 = true) (hd : b.d2 = true) : Two B x { b with s2 := true } (set5 W b.h2 x b.A2 b.c2) := by
  obtain ⟨hB, hX⟩ := h.x2 ha
  have hG := set5_only W b.h2 x b.A2 b.c2
  exact ⟨fun e => own_pastR (h.o1 e) hX (by decide) hG, fun e => own_pastR (h.o2 e) hX (by decide) hG, fun e => (h.x1 e).imp id fun k => k.grown hG (fun e' => h.ne e ha (Option.some.inj e')), fun _ => ⟨hB, five_boxR hX (stored_five _ _ _ _) _ _ _ _ _⟩, h.ne, h.sd1, fun _ => hd, h.sa1, fun _ => ha⟩
/-- What a store needs to know of its cells: they can be read, and are not frozen. -/
theorem stored_cells {H : Nat} {s : Bool} {A : Option Addr} {c : Nat} (h : Box W H 33 (stored s x A c)) : (∃ v, W.cell? ⟨H, 0, none⟩ = some v) ∧ (∃ v, W.cell? ⟨H, 1, none⟩ = some v) ∧ (∃ v, W.cell? ⟨H, 2, none⟩ = some v) ∧ (∃ v, W.cell? ⟨H, 3, none⟩ = some v) ∧ ∃ v, W.cell? ⟨H, 4, none⟩ = some v := by
  cases s
  all_goals
    obtain ⟨a, b, c, d, e⟩ := five_cellsR h
    exact ⟨⟨_, a⟩, ⟨_, b⟩, ⟨_, c⟩, ⟨_, d⟩, ⟨_, e⟩⟩
end

/-! ### Both cursors -/
section
variable {B : Nat} {w W W' : World} {g : Nat} {v : Value} {gr : Nat} {u : Value} {l : List UInt8} {a a' : Nat} {e e' : Int}
theorem Pair.up (h : Pair B w W g v gr u l a e a' e') (hb : Below W.heap.size W W') : Pair B w W' g v gr u l a e a' e' :=
  ⟨h.c.below hb, h.r.below hb, h.below.trans (hb.mono (Nat.le_trans h.hw h.below.size)), h.hg, h.hw⟩
theorem Pair.far {H : Nat} {T : TypeId} {cs : Array Value} (h : Pair B w W g v gr u l a e a' e') (hX : Box W H T cs) (h1 : 52 ≠ T) (h2 : 30 ≠ T) (h3 : 5 ≠ T) (hB : B ≤ H) (hG : W.grownBy W' (some H)) : Pair B w W' g v gr u l a e a' e' :=
  ⟨h.c.grown hG (fun k => h.c.1.other hX h1 (Option.some.inj k)) (.inr (own_other h.c.2.1 hX h3)), h.r.grown hG (fun k => h.r.1.other hX h2 (Option.some.inj k)) (fun x hx => by cases hx; exact hB), h.below.trans (below_of_only hG (Nat.le_trans h.hw h.below.size) (fun x hx => by cases hx; exact hB)), h.hg, h.hw⟩
end

end Go.Proofs.YtpmndmbhkfbljaaDoor
