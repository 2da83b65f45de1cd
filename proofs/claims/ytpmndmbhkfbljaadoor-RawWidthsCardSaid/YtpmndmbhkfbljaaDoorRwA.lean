/-
  Package raw: the table of forms as it lies in memory; Kind, width; the document's Kind and Size.
-/
import Derived.Test.YtpmndmbhkfbljaaDoorPutR
import Derived.Test.YtpmndmbhkfbljaaDoorLawA
import Derived.Deep.RegionHeldLaw
import Derived.Deep.DrawnRows
import Derived.Handy
namespace Go.Proofs.YtpmndmbhkfbljaaDoor
open Go Go.RowKit

/-- A row of bytes that came in, as a list of bytes. -/
theorem row_bytes {w : World} {a : Option Addr} {len cap : Nat} {zs : List Int} (h : IsRow .u8 w a len cap zs) :
    ∃ l : List UInt8, l.length = len ∧ Rd w w.heap.size a l ∧ len ≤ cap ∧ cap ≤ maxLen := by
  rcases h with ⟨rfl, rfl, rfl, rfl⟩ | ⟨x, rfl, hl, hm, hz, hcell, hwz⟩
  · exact ⟨[], rfl, Rd.nil_, Nat.le_refl _, by simp⟩
  · refine ⟨(zs.take len).map fun n => UInt8.ofNat n.toNat, by simp; omega, fun h0 => ?_, hl, hm⟩
    have hlen : 0 < len := by simp at h0; omega
    have hc0 := hcell 0 (by omega)
    obtain ⟨b, o, spot⟩ := x
    have hspot : spot = none := by simpa [Addr.add] using World.cell?_spot hc0
    subst hspot
    refine ⟨b, o, rfl, ?_, fun j u hu => ?_⟩
    · have := World.block_lt_of_cell? w _ hc0
      simpa [addr_add] using this
    · have hj : j < len := by
        have := (List.getElem?_eq_some_iff.1 hu).1
        simp at this; omega
      have hcj := hcell j (by omega)
      rw [addr_add] at hcj
      rw [hcj]
      have hzj : zs[j]? = some (zs[j]'(by omega)) := List.getElem?_eq_getElem (by omega)
      have hw := bounds_u8 (hwz (zs[j]'(by omega)) (List.getElem_mem _))
      simp only [List.getElem?_map, List.getElem?_take, if_pos hj, hzj, Option.map_some, Option.some.injEq] at hu
      subst hu
      simp only [List.getD, hzj, Option.getD_some]
      have e : (UInt8.ofNat (zs[j]'(by omega)).toNat).toNat = (zs[j]'(by omega)).toNat := by simp; omega
      rw [e]
      congr 2
      omega

theorem step_append_bytes {P : Program} {w : World} {ops : Array Oper} {o : Oper} {a : Act} {K : Act → World → Prop} {Q : Exit → Act → World → Prop} {E : Prop} (hw : Region.wanted o (yielded ops a.tmps) = true) (s x : Operand) (t : TypeId)
    (ho : o.op = .call { callee := .builtin .append, args := #[s, x], argTypes := #[t, t] })
    (base : Nat) (i : TypeInfo) (ht : P.underlying t = some (.slice 5)) (hi : P.info? 5 = some i) (hz : i.zero = some (.int .u8 0)) (hs : i.size = 1) (hy : i.bytes = 1)
    (v : Value) (l : List UInt8) (hv : a.eval s = v) (hown : Own w base v l) (B : Nat) (A : Option Addr) (n c : Nat) (m : List UInt8) (hn : m.length = n) (hx : a.eval x = .slice A n c) (hr : Rd w B A m)
    (hl : l.length + m.length ≤ 140737488355328) (hbase : base ≤ w.heap.size)
    (h : ∀ v' w', Own w' base v' (l ++ m) → w.grownBy w' v.ownBlock → (v'.ownBlock = v.ownBlock ∨ v'.ownBlock = some w.heap.size) → K (a.put o.dst v') w') :
    if Region.wanted o (yielded ops a.tmps) = true then Oper.wp P o a w K Q else E := by
  subst hn
  rw [if_pos hw]
  obtain ⟨v', w', hrun, h2, h3, h4⟩ := run_append_bytes (P := P) w base t o.type i ht hi hz hs hy v l hown B A c m hr hl hbase
  unfold Oper.wp execOp
  simp only [ho, resolve, invoke, builtin, Sem.run_bind, Sem.run_pure, Result.andThen_ok, List.map_toArray, List.map_cons, List.map_nil, hv, hx, hrun]
  exact h v' w' h2 h3 h4

theorem own_below {w w' : World} {base : Nat} {v : Value} {l : List UInt8} (h : Own w base v l) (hb : Below w.heap.size w w') : Own w' base v l :=
  h.kept (only_below hb none) (by rcases v.ownBlock with _ | k <;> simp)
theorem conv_as {w : World} {v : Value} {s t : ByteArray} (e : s = t) (h : (convert 22 9 v).run Tryd.prog w = .ok (.string t) w) : (convert 22 9 v).run Tryd.prog w = .ok (.string s) w := e ▸ h

end Go.Proofs.YtpmndmbhkfbljaaDoor

namespace Go.Proofs.YtpmndmbhkfbljaaDoor
open Go Go.RowKit

/-- The next byte of a cursor that has one. -/
theorem u8_at {w : World} {g : Nat} {v : Value} {l : List UInt8} {a : Nat} (h : Cur w g v l a 0) (ha : a < l.length) (hlen : l.length ≤ 140737488355328) :
    Calls Tryd.prog 71 #[.pointer (some ⟨g, 0, none⟩)] w fun r w' => r = .returned (.int .u64 (l[a].toNat : Int)) ∧ Cur w' g v l (a + 1) 0 ∧ w.grownBy w' (some g) := by
  have hu := u8_cur h hlen
  have hg : nextGot l a 0 1 = [l[a]] := by
    unfold nextGot
    rw [if_pos ⟨rfl, by omega⟩, List.drop_eq_getElem_cons ha]; rfl
  have hn : nextAt l a 0 1 = a + 1 := by unfold nextAt; rw [if_pos ⟨rfl, by omega⟩]
  have he : nextErr l a 0 1 = 0 := by unfold nextErr; rw [if_pos rfl, if_pos (by omega)]
  have hv : leNat [l[a]] = l[a].toNat := by simp [leNat]
  rwa [hg, hn, he, hv] at hu

theorem next_fits (l : List UInt8) (a n : Nat) (hn : n ≤ l.length - a) : nextGot l a 0 n = (l.drop a).take n ∧ nextAt l a 0 n = a + n ∧ nextErr l a 0 n = 0 := by
  unfold nextGot nextAt nextErr
  simp [hn]

theorem bytes_ok {w : World} {g : Nat} {v : Value} {l : List UInt8} {a n : Nat} (h : Cur w g v l a 0) (hn : n ≤ l.length - a) (hlen : l.length ≤ 140737488355328) :
    Calls Tryd.prog 52 #[.pointer (some ⟨g, 0, none⟩), .int .u64 (n : Int)] w fun r w' =>
      ∃ u, r = .returned u ∧ Own w' w.heap.size u ((l.drop a).take n) ∧ Cur w' g v l (a + n) 0 ∧ w.grownBy w' (some g) := by
  have hu := bytes_cur h n hlen
  obtain ⟨h1, h2, h3⟩ := next_fits l a n hn
  rwa [h1, h2, h3] at hu

/-- Three cursors over the same bytes. -/
structure P3 (w0 w : World) (gx gy gz : Nat) (vx vy vz : Value) (l : List UInt8) (ax ay az : Nat) : Prop where
  bel : Below w0.heap.size w0 w
  cx : Cur w gx vx l ax 0
  cy : Cur w gy vy l ay 0
  cz : Cur w gz vz l az 0
  xy : gx ≠ gy
  xz : gx ≠ gz
  yz : gy ≠ gz
  lx : w0.heap.size ≤ gx
  ly : w0.heap.size ≤ gy
  lz : w0.heap.size ≤ gz

section
variable {w0 w w' : World} {gx gy gz go : Nat} {vx vy vz vo vA v1 v2 : Value} {l part l1 l2 : List UInt8} {ax ay az ao b : Nat} {B : Nat}
theorem bel_only {g : Nat} (h : Below w0.heap.size w0 w) (hG : w.grownBy w' (some g)) (hg : w0.heap.size ≤ g) : Below w0.heap.size w0 w' :=
  h.trans (below_of_only hG h.size (fun k hk => by injection hk with hk; omega))
theorem P3.x (h : P3 w0 w gx gy gz vx vy vz l ax ay az) (hC : Cur w' gx vx l b 0) (hG : w.grownBy w' (some gx)) : P3 w0 w' gx gy gz vx vy vz l b ay az :=
  ⟨bel_only h.bel hG h.lx, hC, h.cy.other h.xy.symm h.cx.1 hG, h.cz.other h.xz.symm h.cx.1 hG, h.xy, h.xz, h.yz, h.lx, h.ly, h.lz⟩
theorem P3.y (h : P3 w0 w gx gy gz vx vy vz l ax ay az) (hC : Cur w' gy vy l b 0) (hG : w.grownBy w' (some gy)) : P3 w0 w' gx gy gz vx vy vz l ax b az :=
  ⟨bel_only h.bel hG h.ly, h.cx.other h.xy h.cy.1 hG, hC, h.cz.other h.yz.symm h.cy.1 hG, h.xy, h.xz, h.yz, h.lx, h.ly, h.lz⟩
theorem P3.z (h : P3 w0 w gx gy gz vx vy vz l ax ay az) (hC : Cur w' gz vz l b 0) (hG : w.grownBy w' (some gz)) : P3 w0 w' gx gy gz vx vy vz l ax ay b :=
  ⟨bel_only h.bel hG h.lz, h.cx.other h.xz h.cz.1 hG, h.cy.other h.yz h.cz.1 hG, hC, h.xy, h.xz, h.yz, h.lx, h.ly, h.lz⟩

/-- All that the loop keeps. -/
structure P7 (w0 w : World) (B gx gy gz go : Nat) (vx vy vz vo vA v1 v2 : Value) (l part l1 l2 : List UInt8) (ax ay az ao : Nat) : Prop extends P3 w0 w gx gy gz vx vy vz l ax ay az where
  co : Cur w go vo part ao 0
  xo : gx ≠ go
  yo : gy ≠ go
  zo : gz ≠ go
  lo : w0.heap.size ≤ go
  oA : Own w w0.heap.size vA part
  o1 : Own w B v1 l1
  o2 : Own w B v2 l2
  d12 : v1.ownBlock = none ∨ v1.ownBlock ≠ v2.ownBlock
  hB : B ≤ w.heap.size
  h0B : w0.heap.size ≤ B
  bx : ∀ q, vx.ownBlock = some q → q < B
  bY : ∀ q, vy.ownBlock = some q → q < B
  bz : ∀ q, vz.ownBlock = some q → q < B
  bo : ∀ q, vo.ownBlock = some q → q < B
  bA : ∀ q, vA.ownBlock = some q → q < B

theorem own_only {g : Nat} {cs : Array Value} {base : Nat} {v : Value} {m : List UInt8} (h : Own w base v m) (hb : Box w g 52 cs) (hG : w.grownBy w' (some g)) : Own w' base v m :=
  h.kept hG (.inr (own_other h hb (by decide)))
theorem P7.o' (h : P7 w0 w B gx gy gz go vx vy vz vo vA v1 v2 l part l1 l2 ax ay az ao) (hC : Cur w' go vo part b 0) (hG : w.grownBy w' (some go)) : P7 w0 w' B gx gy gz go vx vy vz vo vA v1 v2 l part l1 l2 ax ay az b :=
  { bel := bel_only h.bel hG h.lo, cx := h.cx.other h.xo h.co.1 hG, cy := h.cy.other h.yo h.co.1 hG, cz := h.cz.other h.zo h.co.1 hG, xy := h.xy, xz := h.xz, yz := h.yz, lx := h.lx, ly := h.ly, lz := h.lz
    co := hC, xo := h.xo, yo := h.yo, zo := h.zo, lo := h.lo
    oA := own_only h.oA h.co.1 hG, o1 := own_only h.o1 h.co.1 hG, o2 := own_only h.o2 h.co.1 hG, d12 := h.d12, hB := Nat.le_trans h.hB hG.size, h0B := h.h0B, bx := h.bx, bY := h.bY, bz := h.bz, bo := h.bo, bA := h.bA }

theorem blk_ne {u v : Value} (hu : ∀ q, u.ownBlock = some q → q < B) (hv : ∀ q, v.ownBlock = some q → B ≤ q) : u.ownBlock = none ∨ u.ownBlock ≠ v.ownBlock := by
  rcases e : u.ownBlock with _ | q
  · exact .inl rfl
  · refine .inr fun h => ?_
    have := hu q e
    have := hv q h.symm
    omega
/-- A cursor behind a step that writes a row of bytes from B on, and nothing else that was there. -/
theorem cur_row {g : Nat} {v u u' : Value} {m m1 : List UInt8} {a : Nat} {e : Int} (h : Cur w g v m a e) (hu : ∀ q, v.ownBlock = some q → q < B) {l0 : List UInt8} (ho : Own w B u l0) (hL : Laid w w' B u u' m1) : Cur w' g v m a e :=
  h.grown hL.2.1 (fun e => own_other ho h.1 (by decide) e.symm) (blk_ne hu fun q hq => (own_ge ho q hq).1)

theorem P7.one (h : P7 w0 w B gx gy gz go vx vy vz vo vA v1 v2 l part l1 l2 ax ay az ao) {v1' : Value} {l1' : List UInt8} (hL : Laid w w' B v1 v1' l1') : P7 w0 w' B gx gy gz go vx vy vz vo vA v1' v2 l part l1' l2 ax ay az ao :=
  have ho := h.o1
  { bel := h.bel.trans (below_of_only hL.2.1 h.bel.size fun q hq => Nat.le_trans h.h0B (own_ge ho q hq).1)
    cx := cur_row h.cx h.bx ho hL, cy := cur_row h.cy h.bY ho hL, cz := cur_row h.cz h.bz ho hL, xy := h.xy, xz := h.xz, yz := h.yz, lx := h.lx, ly := h.ly, lz := h.lz
    co := cur_row h.co h.bo ho hL, xo := h.xo, yo := h.yo, zo := h.zo, lo := h.lo
    oA := h.oA.kept hL.2.1 (blk_ne h.bA fun q hq => (own_ge ho q hq).1)
    o1 := hL.1
    o2 := h.o2.kept hL.2.1 (by
      rcases h.d12 with d | d
      · rw [d]; rcases v2.ownBlock with _ | q <;> simp
      · exact .inr d.symm)
    d12 := by
      rcases hL.2.2 with e | e
      · rw [e]; exact h.d12
      · rcases e1 : v1'.ownBlock with _ | q
        · exact .inl rfl
        · refine .inr fun e2 => ?_
          have h1 := e q e1
          have h2 := (own_ge h.o2 q e2.symm).2
          omega
    hB := Nat.le_trans h.hB hL.2.1.size, h0B := h.h0B, bx := h.bx, bY := h.bY, bz := h.bz, bo := h.bo, bA := h.bA }

theorem P7.two (h : P7 w0 w B gx gy gz go vx vy vz vo vA v1 v2 l part l1 l2 ax ay az ao) {v2' : Value} {l2' : List UInt8} (hL : Laid w w' B v2 v2' l2') : P7 w0 w' B gx gy gz go vx vy vz vo vA v1 v2' l part l1 l2' ax ay az ao :=
  have ho := h.o2
  { bel := h.bel.trans (below_of_only hL.2.1 h.bel.size fun q hq => Nat.le_trans h.h0B (own_ge ho q hq).1)
    cx := cur_row h.cx h.bx ho hL, cy := cur_row h.cy h.bY ho hL, cz := cur_row h.cz h.bz ho hL, xy := h.xy, xz := h.xz, yz := h.yz, lx := h.lx, ly := h.ly, lz := h.lz
    co := cur_row h.co h.bo ho hL, xo := h.xo, yo := h.yo, zo := h.zo, lo := h.lo
    oA := h.oA.kept hL.2.1 (blk_ne h.bA fun q hq => (own_ge ho q hq).1)
    o1 := h.o1.kept hL.2.1 (by
      rcases h.d12 with d | d
      · exact .inl d
      · exact .inr d)
    o2 := hL.1
    d12 := by
      rcases e1 : v1.ownBlock with _ | q
      · exact .inl rfl
      · refine .inr fun e2 => ?_
        rcases hL.2.2 with e | e
        · rcases h.d12 with d | d
          · rw [d] at e1; cases e1
          · exact d (by rw [e1, e2, e])
        · have h1 := e q e2.symm
          have h2 := (own_ge h.o1 q e1).2
          omega
    hB := Nat.le_trans h.hB hL.2.1.size, h0B := h.h0B, bx := h.bx, bY := h.bY, bz := h.bz, bo := h.bo, bA := h.bA }
end

end Go.Proofs.YtpmndmbhkfbljaaDoor

namespace Go.Proofs.YtpmndmbhkfbljaaDoor
open Go Go.RowKit

theorem own_base {w : World} {b b' : Nat} {v : Value} {l : List UInt8} (h : Own w b v l) (hb : b' ≤ b) : Own w b' v l :=
  ⟨h.1, h.2.imp id fun ⟨g, cap, cur, p, q, r⟩ => ⟨g, cap, cur, p, Nat.le_trans hb q, r⟩⟩

end Go.Proofs.YtpmndmbhkfbljaaDoor

namespace Go.Proofs.YtpmndmbhkfbljaaDoor
open Go Go.RowKit

/-- The table of sizes, as it lies in the package's variable. -/
def Sz (w : World) : Prop := w.cell? ⟨1, 0, none⟩ = some (.int .i64 4) ∧ w.cell? ⟨1, 1, none⟩ = some (.int .i64 8)

section
variable {w w' : World}
theorem Sz.pos (h : Sz w) : 1 < w.heap.size := World.block_lt_of_cell? w _ h.1
theorem Sz.drewN (h : Sz w) (n : Nat) : Sz (w.drewN n) := h
theorem Sz.below {B : Nat} (h : Sz w) (hb : Below B w w') (hB : 1 < B) : Sz w' := ⟨(hb.cell (p := ⟨1, 0, none⟩) hB).trans h.1, (hb.cell (p := ⟨1, 1, none⟩) hB).trans h.2⟩
theorem Sz.grown {row : Option Nat} (h : Sz w) (hb : w.grownBy w' row) (hr : row ≠ some 1) : Sz w' :=
  ⟨(World.cell?_of_block (hb.block 1 h.pos (fun e => hr e.symm))).trans h.1, (World.cell?_of_block (hb.block 1 h.pos (fun e => hr e.symm))).trans h.2⟩
/-- A cursor's block is not the table's. -/
theorem Sz.cur {g : Nat} {v : Value} {l : List UInt8} {a : Nat} {e : Int} (h : Sz w) (hC : Cur w g v l a e) : some g ≠ some 1 := by
  rintro hg
  injection hg with hg
  subst hg
  obtain ⟨A, c, rfl, _⟩ := own_slice hC.2.1
  have h0 := hC.1.cell 0
  rw [h.1] at h0
  simp at h0
/-- A row's block from above the table on is not the table's. -/
theorem Sz.row {base : Nat} {v : Value} {l : List UInt8} (hown : Own w base v l) (hb : 1 < base) : v.ownBlock ≠ some 1 := fun e => by have := (own_ge hown _ e).1; omega
end

/-- How many bytes an offset has. -/
def lenO (wide : Bool) : Int := if wide then 8 else 4
theorem off_len (wide : Bool) {w : World} (hs : Sz w) :
    Calls Tryd.prog 61 #[.bool wide] w fun r w' => r = .returned (.int .i64 (lenO wide)) ∧ w = w' := by
  obtain ⟨h0, h1⟩ := hs
  cases wide
  all_goals
    go_enter Tryd.func61, Tryd.ntmps61
    go_wp2
    go_ret
    exact ⟨rfl, rfl⟩

end Go.Proofs.YtpmndmbhkfbljaaDoor

namespace Go.Proofs.YtpmndmbhkfbljaaDoor
open Go Go.RowKit

/-- Each form's kind, and how many bytes its number has (-1: U; -2: an offset's). -/
def formsT : List (Int × Int) := [(0, 0), (1, 8), (0, 0), (9, 2), (9, 4), (2, 2), (2, 4), (2, 8), (5, 0), (9, -1), (9, 1), (2, 1), (4, 1), (3, -1), (6, -2), (2, -1), (12, -2), (11, 1), (11, 2), (11, 4), (11, 8), (11, -1), (0, 0), (14, -2), (10, -1), (4, 0), (8, -1), (15, -1), (0, 0), (0, 0), (9, 0), (7, -2), (13, 8), (3, 0), (16, -1), (17, -1), (0, 0), (8, 1), (8, 2), (8, 3), (8, 4), (15, 1), (15, 2), (15, 3), (15, 4)]
/-- A form's kind, its number's bytes. -/
def kindF (f : Int) : Int := if 0 ≤ f ∧ f < 45 then (formsT.getD f.toNat (0, 0)).1 else 0
def sizF (f : Int) : Int := if 0 ≤ f ∧ f < 45 then (formsT.getD f.toNat (0, 0)).2 else 0
def widF (f : Int) (wide : Bool) : Int := if sizF f = -2 then lenO wide else sizF f
theorem kindF_nat {n : Nat} {p : Int × Int} (h : formsT[n]? = some p) : kindF (n : Int) = p.1 := by
  have hn : n < 45 := (List.getElem?_eq_some_iff.1 h).1
  unfold kindF
  rw [if_pos (by omega), Int.toNat_natCast, List.getD_eq_getElem?_getD, h]
  rfl
theorem sizF_nat {n : Nat} {p : Int × Int} (h : formsT[n]? = some p) : sizF (n : Int) = p.2 := by
  have hn : n < 45 := (List.getElem?_eq_some_iff.1 h).1
  unfold sizF
  rw [if_pos (by omega), Int.toNat_natCast, List.getD_eq_getElem?_getD, h]
  rfl
theorem formsT_at {n : Nat} (h : n < 45) : ∃ p, formsT[n]? = some p := ⟨_, List.getElem?_eq_getElem h⟩
/-- A form that has a kind is a number below 45. -/
theorem kindF_in {f : Int} (h : kindF f ≠ 0) : ∃ n : Nat, f = (n : Int) ∧ n < 45 := by
  unfold kindF at h
  split at h
  · exact ⟨f.toNat, by omega, by omega⟩
  · exact absurd rfl h

/-- The table of forms, as it lies in the package's variable. -/
def Ft (w : World) : Prop := ∀ (n : Nat) (p : Int × Int), formsT[n]? = some p → w.cell? ⟨0, n * 2, none⟩ = some (.int .i64 p.1) ∧ w.cell? ⟨0, n * 2 + 1, none⟩ = some (.int .i64 p.2)
section
variable {w w' : World}
theorem Ft.pos (h : Ft w) : 0 < w.heap.size := World.block_lt_of_cell? w _ (h 0 (0, 0) rfl).1
theorem Ft.drewN (h : Ft w) (n : Nat) : Ft (w.drewN n) := h
theorem Ft.below {B : Nat} (h : Ft w) (hb : Below B w w') (hB : 0 < B) : Ft w' := fun n p hp => ⟨(hb.cell (p := ⟨0, n * 2, none⟩) hB).trans (h n p hp).1, (hb.cell (p := ⟨0, n * 2 + 1, none⟩) hB).trans (h n p hp).2⟩
theorem Ft.up (h : Ft w) (hb : Below w.heap.size w w') : Ft w' := h.below hb h.pos
theorem Ft.grown {row : Option Nat} (h : Ft w) (hb : w.grownBy w' row) (hr : row ≠ some 0) : Ft w' :=
  fun n p hp => ⟨(World.cell?_of_block (hb.block 0 h.pos (fun e => hr e.symm))).trans (h n p hp).1, (World.cell?_of_block (hb.block 0 h.pos (fun e => hr e.symm))).trans (h n p hp).2⟩
end

set_option maxRecDepth 10000 in
theorem kind_any {w : World} (hF : Ft w) (f : Int) : Calls Tryd.prog 14 #[.int .i64 f] w fun r w' => r = .returned (.int .i64 (kindF f)) ∧ w = w' := by
  by_cases h0 : f < 0
  · have d : decide (f < 0) = true := by simpa using h0
    have HK := Lib.hid (show kindF f = 0 by unfold kindF; rw [if_neg (by omega)])
    clear hF h0
    go_enter Tryd.func14, Tryd.ntmps14
    go_wp2
    go_ret
    exact ⟨by rw [HK.out]; rfl, rfl⟩
  have d0 : decide (f < 0) = false := by simpa using h0
  by_cases h4 : 45 ≤ f
  · have d : decide (45 ≤ f) = true := by simpa using h4
    have HK := Lib.hid (show kindF f = 0 by unfold kindF; rw [if_neg (by omega)])
    clear hF h0 h4
    go_enter Tryd.func14, Tryd.ntmps14
    go_wp2
    go_ret
    exact ⟨by rw [HK.out]; rfl, rfl⟩
  obtain ⟨n, rfl⟩ : ∃ n : Nat, f = (n : Int) := ⟨f.toNat, by omega⟩
  obtain ⟨p, hp⟩ := formsT_at (n := n) (by omega)
  have HK := Lib.hid (kindF_nat hp)
  obtain ⟨c0, c1⟩ := hF n p hp
  have hn : n < 45 := by omega
  have d : decide ((45 : Int) ≤ (n : Int)) = false := by simp; omega
  clear hF h0 h4 hp
  go_enter Tryd.func14, Tryd.ntmps14
  go_wp2
  go_ret
  exact ⟨by rw [HK.out]; rfl, rfl⟩

set_option maxRecDepth 10000 in
theorem width_any {w : World} (hF : Ft w) (hS : Sz w) {n : Nat} (hn : n < 45) (wide : Bool) : Calls Tryd.prog 37 #[.int .i64 (n : Int), .bool wide] w fun r w' => r = .returned (.int .i64 (widF (n : Int) wide)) ∧ w = w' := by
  obtain ⟨p, hp⟩ := formsT_at (n := n) hn
  have HK := Lib.hid (show widF (n : Int) wide = if p.2 = -2 then lenO wide else p.2 by unfold widF; rw [sizF_nat hp])
  obtain ⟨c0, c1⟩ := hF n p hp
  obtain ⟨k, s⟩ := p
  have HO := Lib.hid (fun W (hW : w = W) => off_len wide (hW ▸ hS))
  simp only at c0 c1 HK
  clear hF hp hS
  by_cases h2 : s = -2
  · have q : (s == (-2 : Int)) = true := by simpa using h2
    have HE := Lib.hid (show widF (n : Int) wide = lenO wide by rw [HK.out, if_pos h2])
    clear h2 HK
    go_enter Tryd.func37, Tryd.ntmps37
    go_wp2_with (go_at_call 61; refine (HO.out _ rfl).mono ?_; rintro r w1 ⟨rfl, rfl⟩)
    go_ret
    exact ⟨by rw [HE.out]; rfl, rfl⟩
  · have q : (s == (-2 : Int)) = false := by simpa using h2
    have HE := Lib.hid (show widF (n : Int) wide = s by rw [HK.out, if_neg h2])
    clear h2 HK
    go_enter Tryd.func37, Tryd.ntmps37
    go_wp2
    go_ret
    exact ⟨by rw [HE.out]; rfl, rfl⟩

end Go.Proofs.YtpmndmbhkfbljaaDoor
