/-
  What the walk of CursorParts keeps in sight: three cursors over the same bytes, a fourth over a part of them, and three rows of bytes; each step turns one of them and leaves the others as they were.
-/
import Derived.Test.YtpmpgfngogdfhaaDoorLawC
namespace Go.Proofs.YtpmpgfngogdfhaaDoor
open Go Go.RowKit

theorem next_fits (l : List UInt8) (a n : Nat) (hn : n ≤ l.length - a) : nextGot l a 0 n = (l.drop a).take n ∧ nextAt l a 0 n = a + n ∧ nextErr l a 0 n = 0 := by
  unfold nextGot nextAt nextErr
  simp [hn]

/-- Three cursors over the same bytes. -/
structure P3 (w0 w : World) (gx gy gz : Nat) (vx vy vz : Value) (l : List UInt8) (ax ay az : Nat) : Prop where
  bel : Below w0.heap.size w0 w
  cx : Cur w gx vx l ax 0
  cy : Cur w gy vy l ay 0
  cz : Cur w gz vz l az 0
  xy : gx ≠ gy
  xz : gx ≠ gz
  yz : gy ≠ gz
  lx : w0.heap.size ≤ gx
  ly : w0.heap.size ≤ gy
  lz : w0.heap.size ≤ gz

section
variable {w0 w w' : World} {gx gy gz go : Nat} {vx vy vz vo vA v1 v2 : Value} {l part l1 l2 : List UInt8} {ax ay az ao b : Nat} {B : Nat}
theorem bel_only {g : Nat} (h : Below w0.heap.size w0 w) (hG : w.grownBy w' (some g)) (hg : w0.heap.size ≤ g) : Below w0.heap.size w0 w' :=
  h.trans (below_of_only hG h.size (fun k hk => by injection hk with hk; omega))
theorem P3.x (h : P3 w0 w gx gy gz vx vy vz l ax ay az) (hC : Cur w' gx vx l b 0) (hG : w.grownBy w' (some gx)) : P3 w0 w' gx gy gz vx vy vz l b ay az :=
  ⟨bel_only h.bel hG h.lx, hC, h.cy.other h.xy.symm h.cx.1 hG, h.cz.other h.xz.symm h.cx.1 hG, h.xy, h.xz, h.yz, h.lx, h.ly, h.lz⟩
theorem P3.y (h : P3 w0 w gx gy gz vx vy vz l ax ay az) (hC : Cur w' gy vy l b 0) (hG : w.grownBy w' (some gy)) : P3 w0 w' gx gy gz vx vy vz l ax b az :=
  ⟨bel_only h.bel hG h.ly, h.cx.other h.xy h.cy.1 hG, hC, h.cz.other h.yz.symm h.cy.1 hG, h.xy, h.xz, h.yz, h.lx, h.ly, h.lz⟩
theorem P3.z (h : P3 w0 w gx gy gz vx vy vz l ax ay az) (hC : Cur w' gz vz l b 0) (hG : w.grownBy w' (some gz)) : P3 w0 w' gx gy gz vx vy vz l ax ay b :=
  ⟨bel_only h.bel hG h.lz, h.cx.other h.xz h.cz.1 hG, h.cy.other h.yz h.cz.1 hG, hC, h.xy, h.xz, h.yz, h.lx, h.ly, h.lz⟩

/-- All that the loop keeps. -/
structure P7 (w0 w : World) (B gx gy gz go : Nat) (vx vy vz vo vA v1 v2 : Value) (l part l1 l2 : List UInt8) (ax ay az ao : Nat) : Prop extends P3 w0 w gx gy gz vx vy vz l ax ay az where
  co : Cur w go vo part ao 0
  xo : gx ≠ go
  yo : gy ≠ go
  zo : gz ≠ go
  lo : w0.heap.size ≤ go
  oA : Own w w0.heap.size vA part
  o1 : Own w B v1 l1
  o2 : Own w B v2 l2
  d12 : v1.ownBlock = none ∨ v1.ownBlock ≠ v2.ownBlock
  hB : B ≤ w.heap.size
  h0B : w0.heap.size ≤ B
  bx : ∀ q, vx.ownBlock = some q → q < B
  bY : ∀ q, vy.ownBlock = some q → q < B
  bz : ∀ q, vz.ownBlock = some q → q < B
  bo : ∀ q, vo.ownBlock = some q → q < B
  bA : ∀ q, vA.ownBlock = some q → q < B

theorem own_only {g : Nat} {cs : Array Value} {base : Nat} {v : Value} {m : List UInt8} (h : Own w base v m) (hb : Box w g 139 cs) (hG : w.grownBy w' (some g)) : Own w' base v m :=
  h.kept hG (.inr (own_other h hb (by decide)))
theorem P7.o' (h : P7 w0 w B gx gy gz go vx vy vz vo vA v1 v2 l part l1 l2 ax ay az ao) (hC : Cur w' go vo part b 0) (hG : w.grownBy w' (some go)) : P7 w0 w' B gx gy gz go vx vy vz vo vA v1 v2 l part l1 l2 ax ay az b :=
  { bel := bel_only h.bel hG h.lo, cx := h.cx.other h.xo h.co.1 hG, cy := h.cy.other h.yo h.co.1 hG, cz := h.cz.other h.zo h.co.1 hG, xy := h.xy, xz := h.xz, yz := h.yz, lx := h.lx, ly := h.ly, lz := h.lz
    co := hC, xo := h.xo, yo := h.yo, zo := h.zo, lo := h.lo
    oA := own_only h.oA h.co.1 hG, o1 := own_only h.o1 h.co.1 hG, o2 := own_only h.o2 h.co.1 hG, d12 := h.d12, hB := Nat.le_trans h.hB hG.size, h0B := h.h0B, bx := h.bx, bY := h.bY, bz := h.bz, bo := h.bo, bA := h.bA }

theorem blk_ne {u v : Value} (hu : ∀ q, u.ownBlock = some q → q < B) (hv : ∀ q, v.ownBlock = some q → B ≤ q) : u.ownBlock = none ∨ u.ownBlock ≠ v.ownBlock := by
  rcases e : u.ownBlock with _ | q
  · exact .inl rfl
  · refine .inr fun h => ?_
    have := hu q e
    have := hv q h.symm
    omega
/-- A cursor behind a step that writes a row of bytes from B on, and nothing else that was there. -/
theorem cur_row {g : Nat} {v u u' : Value} {m m1 : List UInt8} {a : Nat} {e : Int} (h : Cur w g v m a e) (hu : ∀ q, v.ownBlock = some q → q < B) {l0 : List UInt8} (ho : Own w B u l0) (hL : Laid w w' B u u' m1) : Cur w' g v m a e :=
  h.grown hL.2.1 (fun e => own_other ho h.1 (by decide) e.symm) (blk_ne hu fun q hq => (own_ge ho q hq).1)

theorem P7.one (h : P7 w0 w B gx gy gz go vx vy vz vo vA v1 v2 l part l1 l2 ax ay az ao) {v1' : Value} {l1' : List UInt8} (hL : Laid w w' B v1 v1' l1') : P7 w0 w' B gx gy gz go vx vy vz vo vA v1' v2 l part l1' l2 ax ay az ao :=
  have ho := h.o1
  { bel := h.bel.trans (below_of_only hL.2.1 h.bel.size fun q hq => Nat.le_trans h.h0B (own_ge ho q hq).1)
    cx := cur_row h.cx h.bx ho hL, cy := cur_row h.cy h.bY ho hL, cz := cur_row h.cz h.bz ho hL, xy := h.xy, xz := h.xz, yz := h.yz, lx := h.lx, ly := h.ly, lz := h.lz
    co := cur_row h.co h.bo ho hL, xo := h.xo, yo := h.yo, zo := h.zo, lo := h.lo
    oA := h.oA.kept hL.2.1 (blk_ne h.bA fun q hq => (own_ge ho q hq).1)
    o1 := hL.1
    o2 := h.o2.kept hL.2.1 (by
      rcases h.d12 with d | d
      · rw [d]; rcases v2.ownBlock with _ | q <;> simp
      · exact .inr d.symm)
    d12 := by
      rcases hL.2.2 with e | e
      · rw [e]; exact h.d12
      · rcases e1 : v1'.ownBlock with _ | q
        · exact .inl rfl
        · refine .inr fun e2 => ?_
          have h1 := e q e1
          have h2 := (own_ge h.o2 q e2.symm).2
          omega
    hB := Nat.le_trans h.hB hL.2.1.size, h0B := h.h0B, bx := h.bx, bY := h.bY, bz := h.bz, bo := h.bo, bA := h.bA }

theorem P7.two (h : P7 w0 w B gx gy gz go vx vy vz vo vA v1 v2 l part l1 l2 ax ay az ao) {v2' : Value} {l2' : List UInt8} (hL : Laid w w' B v2 v2' l2') : P7 w0 w' B gx gy gz go vx vy vz vo vA v1 v2' l part l1 l2' ax ay az ao :=
  have ho := h.o2
  { bel := h.bel.trans (below_of_only hL.2.1 h.bel.size fun q hq => Nat.le_trans h.h0B (own_ge ho q hq).1)
    cx := cur_row h.cx h.bx ho hL, cy := cur_row h.cy h.bY ho hL, cz := cur_row h.cz h.bz ho hL, xy := h.xy, xz := h.xz, yz := h.yz, lx := h.lx, ly := h.ly, lz := h.lz
    co := cur_row h.co h.bo ho hL, xo := h.xo, yo := h.yo, zo := h.zo, lo := h.lo
    oA := h.oA.kept hL.2.1 (blk_ne h.bA fun q hq => (own_ge ho q hq).1)
    o1 := h.o1.kept hL.2.1 (by
      rcases h.d12 with d | d
      · exact .inl d
      · exact .inr d)
    o2 := hL.1
    d12 := by
      rcases e1 : v1.ownBlock with _ | q
      · exact .inl rfl
      · refine .inr fun e2 => ?_
        rcases hL.2.2 with e | e
        · rcases h.d12 with d | d
          · rw [d] at e1; cases e1
          · exact d (by rw [e1, e2, e])
        · have h1 := e q e2.symm
          have h2 := (own_ge h.o1 q e1).2
          omega
    hB := Nat.le_trans h.hB hL.2.1.size, h0B := h.h0B, bx := h.bx, bY := h.bY, bz := h.bz, bo := h.bo, bA := h.bA }
end

end Go.Proofs.YtpmpgfngogdfhaaDoor
