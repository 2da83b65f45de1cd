/-
  The contract of layer 3's All: the texts of a table in a row of the call's own.
-/
import Derived.Test.YtejicboemkpeoaaGreatDoorPut
import Derived.Laws.IdiomStrings
import Derived.Laws.BytesArg
import Derived.Test.YtejicboemkpeoaaGreatDoorCurN
import Derived.OpenShut
import Derived.Deep.RegionHeldLaw
import Derived.Deep.DrawnRows
import Derived.Handy
import Derived.Test.YtejicboemkpeoaaGreatDoorPoM
import Derived.WalkMore
import Derived.Maps.AppendAt
namespace Go.Proofs.YtejicboemkpeoaaGreatDoor
open Go Go.RowKit

theorem size_any (s : Int) (w : World) (hs : -9223372036854775808 ≤ s ∧ s ≤ 9223372036854775807) :
    Calls Tryz.prog 97 #[.int .i64 s] w fun r w' => r = .returned (.int .i64 (clampOf s : Int)) ∧ w = w' := by
  by_cases h0 : s < 0
  · have H := Lib.hid (show ((clampOf s : Nat) : Int) = 0 by unfold clampOf; omega)
    go_enter Tryz.func97, Tryz.ntmps97
    go_wp2
    go_ret
    exact ⟨by rw [H.out]; rfl, rfl⟩
  · by_cases h8 : 8 < s
    · have H := Lib.hid (show ((clampOf s : Nat) : Int) = 8 by unfold clampOf; omega)
      go_enter Tryz.func97, Tryz.ntmps97
      go_wp2
      go_ret
      exact ⟨by rw [H.out]; rfl, rfl⟩
    · have H := Lib.hid (show ((clampOf s : Nat) : Int) = s by unfold clampOf; omega)
      go_enter Tryz.func97, Tryz.ntmps97
      go_wp2
      go_ret
      exact ⟨by rw [H.out]; rfl, rfl⟩

/-- Bytes as a string, wherever they lie. -/
theorem conv_rd {w : World} {B : Nat} {A : Option Addr} {l : List UInt8} (h : Rd w B A l) (c : Nat) : (convert 26 9 (.slice A l.length c)).run Tryz.prog w = .ok (.string ⟨l.toArray⟩) w := by
  rcases A with _ | ad
  · have hl : l = [] := by
      rcases l with _ | ⟨x, t⟩
      · rfl
      · obtain ⟨b, o, e, _⟩ := h (by simp); cases e
    subst hl
    exact run_convert_bytes_nil _ _ _ Tryz.underlying26 Tryz.underlying5 _ _ _ Tryz.underlying9
  · refine run_convert_bytes_back w _ _ _ ad c l Tryz.underlying26 Tryz.underlying5 Tryz.underlying9 fun j hj => ?_
    obtain ⟨b, o, e, _, hc⟩ := h (by omega)
    injection e with e
    subst e
    rw [addr_add]
    exact hc j _ (List.getElem?_eq_getElem hj)

/-- Bytes of the call's own as a string. -/
theorem conv_own {w : World} {base : Nat} {v : Value} {l : List UInt8} (h : Own w base v l) : (convert 26 9 v).run Tryz.prog w = .ok (.string ⟨l.toArray⟩) w := by
  obtain ⟨A, c, rfl, _, _, hr⟩ := own_slice h
  exact conv_rd hr c

end Go.Proofs.YtejicboemkpeoaaGreatDoor

namespace Go.Proofs.YtejicboemkpeoaaGreatDoor
open Go Go.RowKit

/-- A slice of bytes that came in: nil, or a row of cells in memory (the first 'len' are its bytes, the rest its spare room). -/
def IsRow (k : IntKind) (w : World) (a : Option Addr) (len cap : Nat) (zs : List Int) : Prop :=
  (a = none ∧ len = 0 ∧ cap = 0 ∧ zs = []) ∨
  ∃ x, a = some x ∧ len ≤ cap ∧ cap ≤ maxLen ∧ zs.length = cap ∧ (∀ i, i < zs.length → w.cell? (x.add i) = some (.int k (zs.getD i 0))) ∧ ∀ n ∈ zs, (Lit.int k n).wf = true

theorem nat_of_u64 {a : Int} (h : (Lit.int .u64 a).wf = true) : ∃ n : Nat, a = (n : Int) ∧ n < two64 := by
  have := Go.bounds_u64 h
  refine ⟨a.toNat, by omega, ?_⟩
  unfold two64; omega
theorem i64_of {a : Int} (h : (Lit.int .i64 a).wf = true) : -9223372036854775808 ≤ a ∧ a ≤ 9223372036854775807 := by
  have := Go.bounds_i64 h
  omega

end Go.Proofs.YtejicboemkpeoaaGreatDoor

namespace Go.Proofs.YtejicboemkpeoaaGreatDoor
open Go Go.RowKit

/-- A row of bytes that came in, as a list of bytes. -/
theorem row_bytes {w : World} {a : Option Addr} {len cap : Nat} {zs : List Int} (h : IsRow .u8 w a len cap zs) :
    ∃ l : List UInt8, l.length = len ∧ Rd w w.heap.size a l ∧ len ≤ cap ∧ cap ≤ maxLen := by
  rcases h with ⟨rfl, rfl, rfl, rfl⟩ | ⟨x, rfl, hl, hm, hz, hcell, hwz⟩
  · exact ⟨[], rfl, Rd.nil_, Nat.le_refl _, by simp⟩
  · refine ⟨(zs.take len).map fun n => UInt8.ofNat n.toNat, by simp; omega, fun h0 => ?_, hl, hm⟩
    have hlen : 0 < len := by simp at h0; omega
    have hc0 := hcell 0 (by omega)
    obtain ⟨b, o, spot⟩ := x
    have hspot : spot = none := by simpa [Addr.add] using World.cell?_spot hc0
    subst hspot
    refine ⟨b, o, rfl, ?_, fun j u hu => ?_⟩
    · have := World.block_lt_of_cell? w _ hc0
      simpa [addr_add] using this
    · have hj : j < len := by
        have := (List.getElem?_eq_some_iff.1 hu).1
        simp at this; omega
      have hcj := hcell j (by omega)
      rw [addr_add] at hcj
      rw [hcj]
      have hzj : zs[j]? = some (zs[j]'(by omega)) := List.getElem?_eq_getElem (by omega)
      have hw := bounds_u8 (hwz (zs[j]'(by omega)) (List.getElem_mem _))
      simp only [List.getElem?_map, List.getElem?_take, if_pos hj, hzj, Option.map_some, Option.some.injEq] at hu
      subst hu
      simp only [List.getD, hzj, Option.getD_some]
      have e : (UInt8.ofNat (zs[j]'(by omega)).toNat).toNat = (zs[j]'(by omega)).toNat := by simp; omega
      rw [e]
      congr 2
      omega

theorem step_append_bytes {P : Program} {w : World} {ops : Array Oper} {o : Oper} {a : Act} {K : Act → World → Prop} {Q : Exit → Act → World → Prop} {E : Prop} (hw : Region.wanted o (yielded ops a.tmps) = true) (s x : Operand) (t : TypeId)
    (ho : o.op = .call { callee := .builtin .append, args := #[s, x], argTypes := #[t, t] })
    (base : Nat) (i : TypeInfo) (ht : P.underlying t = some (.slice 5)) (hi : P.info? 5 = some i) (hz : i.zero = some (.int .u8 0)) (hs : i.size = 1) (hy : i.bytes = 1)
    (v : Value) (l : List UInt8) (hv : a.eval s = v) (hown : Own w base v l) (B : Nat) (A : Option Addr) (n c : Nat) (m : List UInt8) (hn : m.length = n) (hx : a.eval x = .slice A n c) (hr : Rd w B A m)
    (hl : l.length + m.length ≤ 140737488355328) (hbase : base ≤ w.heap.size)
    (h : ∀ v' w', Own w' base v' (l ++ m) → w.grownBy w' v.ownBlock → (v'.ownBlock = v.ownBlock ∨ v'.ownBlock = some w.heap.size) → K (a.put o.dst v') w') :
    if Region.wanted o (yielded ops a.tmps) = true then Oper.wp P o a w K Q else E := by
  subst hn
  rw [if_pos hw]
  obtain ⟨v', w', hrun, h2, h3, h4⟩ := run_append_bytes (P := P) w base t o.type i ht hi hz hs hy v l hown B A c m hr hl hbase
  unfold Oper.wp execOp
  simp only [ho, resolve, invoke, builtin, Sem.run_bind, Sem.run_pure, Result.andThen_ok, List.map_toArray, List.map_cons, List.map_nil, hv, hx, hrun]
  exact h v' w' h2 h3 h4

theorem own_below {w w' : World} {base : Nat} {v : Value} {l : List UInt8} (h : Own w base v l) (hb : Below w.heap.size w w') : Own w' base v l :=
  h.kept (only_below hb none) (by rcases v.ownBlock with _ | k <;> simp)
theorem conv_as {w : World} {v : Value} {s t : ByteArray} (e : s = t) (h : (convert 26 9 v).run Tryz.prog w = .ok (.string t) w) : (convert 26 9 v).run Tryz.prog w = .ok (.string s) w := e ▸ h

end Go.Proofs.YtejicboemkpeoaaGreatDoor

namespace Go.Proofs.YtejicboemkpeoaaGreatDoor
open Go Go.RowKit

/-- The next byte of a cursor that has one. -/
theorem u8_at {w : World} {g : Nat} {v : Value} {l : List UInt8} {a : Nat} (h : Cur w g v l a 0) (ha : a < l.length) (hlen : l.length ≤ 140737488355328) :
    Calls Tryz.prog 93 #[.pointer (some ⟨g, 0, none⟩)] w fun r w' => r = .returned (.int .u64 (l[a].toNat : Int)) ∧ Cur w' g v l (a + 1) 0 ∧ w.grownBy w' (some g) := by
  have hu := u8_cur h hlen
  have hg : nextGot l a 0 1 = [l[a]] := by
    unfold nextGot
    rw [if_pos ⟨rfl, by omega⟩, List.drop_eq_getElem_cons ha]; rfl
  have hn : nextAt l a 0 1 = a + 1 := by unfold nextAt; rw [if_pos ⟨rfl, by omega⟩]
  have he : nextErr l a 0 1 = 0 := by unfold nextErr; rw [if_pos rfl, if_pos (by omega)]
  have hv : leNat [l[a]] = l[a].toNat := by simp [leNat]
  rwa [hg, hn, he, hv] at hu

theorem next_fits (l : List UInt8) (a n : Nat) (hn : n ≤ l.length - a) : nextGot l a 0 n = (l.drop a).take n ∧ nextAt l a 0 n = a + n ∧ nextErr l a 0 n = 0 := by
  unfold nextGot nextAt nextErr
  simp [hn]

theorem bytes_ok {w : World} {g : Nat} {v : Value} {l : List UInt8} {a n : Nat} (h : Cur w g v l a 0) (hn : n ≤ l.length - a) (hlen : l.length ≤ 140737488355328) :
    Calls Tryz.prog 201 #[.pointer (some ⟨g, 0, none⟩), .int .u64 (n : Int)] w fun r w' =>
      ∃ u, r = .returned u ∧ Own w' w.heap.size u ((l.drop a).take n) ∧ Cur w' g v l (a + n) 0 ∧ w.grownBy w' (some g) := by
  have hu := bytes_cur h n hlen
  obtain ⟨h1, h2, h3⟩ := next_fits l a n hn
  rwa [h1, h2, h3] at hu

/-- Three cursors over the same bytes. -/
structure P3 (w0 w : World) (gx gy gz : Nat) (vx vy vz : Value) (l : List UInt8) (ax ay az : Nat) : Prop where
  bel : Below w0.heap.size w0 w
  cx : Cur w gx vx l ax 0
  cy : Cur w gy vy l ay 0
  cz : Cur w gz vz l az 0
  xy : gx ≠ gy
  xz : gx ≠ gz
  yz : gy ≠ gz
  lx : w0.heap.size ≤ gx
  ly : w0.heap.size ≤ gy
  lz : w0.heap.size ≤ gz

section
variable {w0 w w' : World} {gx gy gz go : Nat} {vx vy vz vo vA v1 v2 : Value} {l part l1 l2 : List UInt8} {ax ay az ao b : Nat} {B : Nat}
theorem bel_only {g : Nat} (h : Below w0.heap.size w0 w) (hG : w.grownBy w' (some g)) (hg : w0.heap.size ≤ g) : Below w0.heap.size w0 w' :=
  h.trans (below_of_only hG h.size (fun k hk => by injection hk with hk; omega))
theorem P3.x (h : P3 w0 w gx gy gz vx vy vz l ax ay az) (hC : Cur w' gx vx l b 0) (hG : w.grownBy w' (some gx)) : P3 w0 w' gx gy gz vx vy vz l b ay az :=
  ⟨bel_only h.bel hG h.lx, hC, h.cy.other h.xy.symm h.cx.1 hG, h.cz.other h.xz.symm h.cx.1 hG, h.xy, h.xz, h.yz, h.lx, h.ly, h.lz⟩
theorem P3.y (h : P3 w0 w gx gy gz vx vy vz l ax ay az) (hC : Cur w' gy vy l b 0) (hG : w.grownBy w' (some gy)) : P3 w0 w' gx gy gz vx vy vz l ax b az :=
  ⟨bel_only h.bel hG h.ly, h.cx.other h.xy h.cy.1 hG, hC, h.cz.other h.yz.symm h.cy.1 hG, h.xy, h.xz, h.yz, h.lx, h.ly, h.lz⟩
theorem P3.z (h : P3 w0 w gx gy gz vx vy vz l ax ay az) (hC : Cur w' gz vz l b 0) (hG : w.grownBy w' (some gz)) : P3 w0 w' gx gy gz vx vy vz l ax ay b :=
  ⟨bel_only h.bel hG h.lz, h.cx.other h.xz h.cz.1 hG, h.cy.other h.yz h.cz.1 hG, hC, h.xy, h.xz, h.yz, h.lx, h.ly, h.lz⟩

/-- All that the loop keeps. -/
structure P7 (w0 w : World) (B gx gy gz go : Nat) (vx vy vz vo vA v1 v2 : Value) (l part l1 l2 : List UInt8) (ax ay az ao : Nat) : Prop extends P3 w0 w gx gy gz vx vy vz l ax ay az where
  co : Cur w go vo part ao 0
  xo : gx ≠ go
  yo : gy ≠ go
  zo : gz ≠ go
  lo : w0.heap.size ≤ go
  oA : Own w w0.heap.size vA part
  o1 : Own w B v1 l1
  o2 : Own w B v2 l2
  d12 : v1.ownBlock = none ∨ v1.ownBlock ≠ v2.ownBlock
  hB : B ≤ w.heap.size
  h0B : w0.heap.size ≤ B
  bx : ∀ q, vx.ownBlock = some q → q < B
  bY : ∀ q, vy.ownBlock = some q → q < B
  bz : ∀ q, vz.ownBlock = some q → q < B
  bo : ∀ q, vo.ownBlock = some q → q < B
  bA : ∀ q, vA.ownBlock = some q → q < B

theorem own_only {g : Nat} {cs : Array Value} {base : Nat} {v : Value} {m : List UInt8} (h : Own w base v m) (hb : Box w g 177 cs) (hG : w.grownBy w' (some g)) : Own w' base v m :=
  h.kept hG (.inr (own_other h hb (by decide)))
theorem P7.o' (h : P7 w0 w B gx gy gz go vx vy vz vo vA v1 v2 l part l1 l2 ax ay az ao) (hC : Cur w' go vo part b 0) (hG : w.grownBy w' (some go)) : P7 w0 w' B gx gy gz go vx vy vz vo vA v1 v2 l part l1 l2 ax ay az b :=
  { bel := bel_only h.bel hG h.lo, cx := h.cx.other h.xo h.co.1 hG, cy := h.cy.other h.yo h.co.1 hG, cz := h.cz.other h.zo h.co.1 hG, xy := h.xy, xz := h.xz, yz := h.yz, lx := h.lx, ly := h.ly, lz := h.lz
    co := hC, xo := h.xo, yo := h.yo, zo := h.zo, lo := h.lo
    oA := own_only h.oA h.co.1 hG, o1 := own_only h.o1 h.co.1 hG, o2 := own_only h.o2 h.co.1 hG, d12 := h.d12, hB := Nat.le_trans h.hB hG.size, h0B := h.h0B, bx := h.bx, bY := h.bY, bz := h.bz, bo := h.bo, bA := h.bA }

theorem blk_ne {u v : Value} (hu : ∀ q, u.ownBlock = some q → q < B) (hv : ∀ q, v.ownBlock = some q → B ≤ q) : u.ownBlock = none ∨ u.ownBlock ≠ v.ownBlock := by
  rcases e : u.ownBlock with _ | q
  · exact .inl rfl
  · refine .inr fun h => ?_
    have := hu q e
    have := hv q h.symm
    omega
/-- A cursor behind a step that writes a row of bytes from B on, and nothing else that was there. -/
theorem cur_row {g : Nat} {v u u' : Value} {m m1 : List UInt8} {a : Nat} {e : Int} (h : Cur w g v m a e) (hu : ∀ q, v.ownBlock = some q → q < B) {l0 : List UInt8} (ho : Own w B u l0) (hL : Laid w w' B u u' m1) : Cur w' g v m a e :=
  h.grown hL.2.1 (fun e => own_other ho h.1 (by decide) e.symm) (blk_ne hu fun q hq => (own_ge ho q hq).1)

theorem P7.one (h : P7 w0 w B gx gy gz go vx vy vz vo vA v1 v2 l part l1 l2 ax ay az ao) {v1' : Value} {l1' : List UInt8} (hL : Laid w w' B v1 v1' l1') : P7 w0 w' B gx gy gz go vx vy vz vo vA v1' v2 l part l1' l2 ax ay az ao :=
  have ho := h.o1
  { bel := h.bel.trans (below_of_only hL.2.1 h.bel.size fun q hq => Nat.le_trans h.h0B (own_ge ho q hq).1)
    cx := cur_row h.cx h.bx ho hL, cy := cur_row h.cy h.bY ho hL, cz := cur_row h.cz h.bz ho hL, xy := h.xy, xz := h.xz, yz := h.yz, lx := h.lx, ly := h.ly, lz := h.lz
    co := cur_row h.co h.bo ho hL, xo := h.xo, yo := h.yo, zo := h.zo, lo := h.lo
    oA := h.oA.kept hL.2.1 (blk_ne h.bA fun q hq => (own_ge ho q hq).1)
    o1 := hL.1
    o2 := h.o2.kept hL.2.1 (by
      rcases h.d12 with d | d
      · rw [d]; rcases v2.ownBlock with _ | q <;> simp
      · exact .inr d.symm)
    d12 := by
      rcases hL.2.2 with e | e
      · rw [e]; exact h.d12
      · rcases e1 : v1'.ownBlock with _ | q
        · exact .inl rfl
        · refine .inr fun e2 => ?_
          have h1 := e q e1
          have h2 := (own_ge h.o2 q e2.symm).2
          omega
    hB := Nat.le_trans h.hB hL.2.1.size, h0B := h.h0B, bx := h.bx, bY := h.bY, bz := h.bz, bo := h.bo, bA := h.bA }

theorem P7.two (h : P7 w0 w B gx gy gz go vx vy vz vo vA v1 v2 l part l1 l2 ax ay az ao) {v2' : Value} {l2' : List UInt8} (hL : Laid w w' B v2 v2' l2') : P7 w0 w' B gx gy gz go vx vy vz vo vA v1 v2' l part l1 l2' ax ay az ao :=
  have ho := h.o2
  { bel := h.bel.trans (below_of_only hL.2.1 h.bel.size fun q hq => Nat.le_trans h.h0B (own_ge ho q hq).1)
    cx := cur_row h.cx h.bx ho hL, cy := cur_row h.cy h.bY ho hL, cz := cur_row h.cz h.bz ho hL, xy := h.xy, xz := h.xz, yz := h.yz, lx := h.lx, ly := h.ly, lz := h.lz
    co := cur_row h.co h.bo ho hL, xo := h.xo, yo := h.yo, zo := h.zo, lo := h.lo
    oA := h.oA.kept hL.2.1 (blk_ne h.bA fun q hq => (own_ge ho q hq).1)
    o1 := h.o1.kept hL.2.1 (by
      rcases h.d12 with d | d
      · exact .inl d
      · exact .inr d)
    o2 := hL.1
    d12 := by
      rcases e1 : v1.ownBlock with _ | q
      · exact .inl rfl
      · refine .inr fun e2 => ?_
        rcases hL.2.2 with e | e
        · rcases h.d12 with d | d
          · rw [d] at e1; cases e1
          · exact d (by rw [e1, e2, e])
        · have h1 := e q e2.symm
          have h2 := (own_ge h.o1 q e1).2
          omega
    hB := Nat.le_trans h.hB hL.2.1.size, h0B := h.h0B, bx := h.bx, bY := h.bY, bz := h.bz, bo := h.bo, bA := h.bA }
end

end Go.Proofs.YtejicboemkpeoaaGreatDoor

namespace Go.Proofs.YtejicboemkpeoaaGreatDoor
open Go Go.RowKit

/-- What measure tells. -/
def sizeT (r : List UInt8) (e : Int) : Nat × Int := if e = 0 then (if (readT r).2.2 = 0 then (tlen r, 0) else (0, (readT r).2.2)) else (0, 12)

theorem sizeT_bad (r : List UInt8) {e : Int} (h : e ≠ 0) : sizeT r e = (0, 12) := by unfold sizeT; rw [if_neg h]

theorem left_zero (l : List UInt8) (a : Nat) : leftOf l a 0 = l.length - a := by simp [leftOf]

set_option maxRecDepth 100000 in
set_option maxHeartbeats 1000000 in
theorem measure_ok {w : World} {g : Nat} {v : Value} {l : List UInt8} {a : Nat} (h : Cur w g v l a 0) (hlen : l.length ≤ 140737488355328) :
    Calls Tryz.prog 211 #[.pointer (some ⟨g, 0, none⟩)] w fun x w' => x = .returned (.tuple #[.int .u64 ((sizeT (l.drop a) 0).1 : Int), .int .i64 (sizeT (l.drop a) 0).2]) ∧ (∃ b, Cur w' g v l b 0) ∧ w.grownBy w' (some g) := by
  have hal := h.2.2
  obtain ⟨r, hr⟩ : ∃ r, r = l.drop a := ⟨_, rfl⟩
  have hrl : r.length = l.length - a := by rw [hr]; simp
  rw [← hr]
  have HO := Lib.hid h
  clear h
  go_enter Tryz.func211, Tryz.ntmps211
  go_wp2_with fail
  go_step3
  go_wp2_with fail
  go_step3
  go_wp2_with fail
  go_loopw [4] (fun n wr => ∃ k : Nat, n = .int .u64 k ∧ k ≤ r.length ∧ (∀ j (hj : j < r.length), j < k → r[j] ≠ 0) ∧ Cur wr g v l (a + k) 0 ∧ w.grownBy wr (some g)) (fun n _ => r.length - (intOf n).toNat)
  case atStart => exact ⟨0, rfl, Nat.zero_le _, fun j hj h0 => by omega, HO.out, only_refl _ _⟩
  case round =>
    obtain ⟨k, rfl, hkr, hup, hC, hG⟩ := hrel
    have hL := left_cur hC
    rw [left_zero] at hL
    have HG := Lib.hid hG
    by_cases hlt : k < r.length
    · have hak : a + k < l.length := by omega
      have hget : r[k] = l[a + k] := by simp only [hr, List.getElem_drop]
      have hU := fun n => u8_at (hC.drewN n) hak hlen
      have hz : ((l.length - (a + k) : Nat) : Int) ≠ 0 := by omega
      have hz0 : (((l.length - (a + k) : Nat) : Int) == 0) = false := by simpa using hz
      have hk64 : (k : Int) + 1 < 18446744073709551616 := by omega
      have s1 : IntKind.u64.wrap ((k : Int) + 1) = (k : Int) + 1 := by rw [IntWalk.u64_in _ (by omega)]
      by_cases hb : r[k] = 0
      · have ht : tlen r = k := tlen_eq r k hlt hup hb
        have hb0 : ((l[a + k].toNat : Int) == 0) = true := by rw [← hget, hb]; rfl
        by_cases hbig : 200 < k
        · have hbig' : decide ((200 : Int) < (k : Int)) = true := by simp; omega
          have HR := Lib.hid (show sizeT r 0 = (0, 3) by
            unfold sizeT; rw [if_pos rfl, readT_big (by omega) (by omega)]; rfl)
          clear hup hC hG ht hb hget
          generalize ((l.length - (a + k) : Nat) : Int) = K at *
          go_wp2_with (first | (go_at_call 92; refine hL.mono ?_; rintro r1 w1 ⟨rfl, n1, rfl⟩) | (go_at_call 93; refine (hU _).mono ?_; rintro r1 w1 ⟨rfl, hC1, hG1⟩))
          (try rw [Exit.noGoto_ret])
          go_ret2
          exact ⟨by rw [HR.out]; rfl, ⟨_, hC1⟩, HG.out.trans (only_drewN_left hG1)⟩
        · have hbig' : decide ((200 : Int) < (k : Int)) = false := by simp; omega
          have HR := Lib.hid (show sizeT r 0 = (k, 0) by
            unfold sizeT; rw [if_pos rfl, readT_ok (by omega) (by omega), ht]; rfl)
          clear hup hC hG ht hb hget
          generalize ((l.length - (a + k) : Nat) : Int) = K at *
          go_wp2_with (first | (go_at_call 92; refine hL.mono ?_; rintro r1 w1 ⟨rfl, n1, rfl⟩) | (go_at_call 93; refine (hU _).mono ?_; rintro r1 w1 ⟨rfl, hC1, hG1⟩))
          (try rw [Exit.noGoto_ret])
          go_ret2
          exact ⟨by rw [HR.out]; rfl, ⟨_, hC1⟩, HG.out.trans (only_drewN_left hG1)⟩
      · have hb0 : ((l[a + k].toNat : Int) == 0) = false := by
          have : l[a + k].toNat ≠ 0 := fun e => hb (by rw [hget]; exact UInt8.toNat_inj.1 (by simpa using e))
          simpa using this
        have HUP := Lib.hid (show ∀ j (hj : j < r.length), j < k + 1 → r[j] ≠ 0 from fun j hj hjk => by
          rcases Nat.lt_or_ge j k with h1 | h1
          · exact hup j hj h1
          · have e : j = k := by omega
            subst e
            exact hb)
        clear hup hC hG hb hget
        generalize ((l.length - (a + k) : Nat) : Int) = K at *
        go_wp2_with (first | (go_at_call 92; refine hL.mono ?_; rintro r1 w1 ⟨rfl, n1, rfl⟩) | (go_at_call 93; refine (hU _).mono ?_; rintro r1 w1 ⟨rfl, hC1, hG1⟩))
        go_roundw
        case rel => exact ⟨k + 1, by go_num, by omega, HUP.out, hC1, HG.out.trans (only_drewN_left hG1)⟩
        case measure => simp [intOf]; omega
    · have ht : tlen r = r.length := tlen_all r fun j hj => hup j hj (by omega)
      have hz : l.length - (a + k) = 0 := by omega
      rw [hz] at hL
      have HR := Lib.hid (show sizeT r 0 = (0, 12) by unfold sizeT; rw [if_pos rfl, readT_end ht]; rfl)
      have HC := Lib.hid (fun n => hC.drewN n)
      clear hup hC hG ht hz
      go_wp2_with (go_at_call 92; refine hL.mono ?_; rintro r1 w1 ⟨rfl, n1, rfl⟩)
      (try rw [Exit.noGoto_ret])
      go_ret2
      exact ⟨by rw [HR.out]; rfl, ⟨_, HC.out _⟩, only_drewN HG.out _⟩

theorem measure_ref {w : World} {g : Nat} {v : Value} {l : List UInt8} {a : Nat} {e : Int} (h : Cur w g v l a e) (he : e ≠ 0) :
    Calls Tryz.prog 211 #[.pointer (some ⟨g, 0, none⟩)] w fun x w' => x = .returned (.tuple #[.int .u64 0, .int .i64 12]) ∧ ∃ n, w' = w.drewN n := by
  have hL := left_cur h
  rw [show leftOf l a e = 0 by unfold leftOf; rw [if_neg he]] at hL
  clear h he
  go_enter Tryz.func211, Tryz.ntmps211
  go_wp2_with fail
  go_step3
  go_wp2_with fail
  go_step3
  go_wp2_with fail
  go_loopw [4] (fun n wr => n = .int .u64 0 ∧ wr = w) (fun _ _ => 0)
  case atStart => exact ⟨rfl, rfl⟩
  case round =>
    obtain ⟨rfl, rfl⟩ := hrel
    go_wp2_with (go_at_call 92; refine hL.mono ?_; rintro r1 w1 ⟨rfl, n1, rfl⟩)
    (try rw [Exit.noGoto_ret])
    go_ret2
    exact ⟨rfl, _, rfl⟩

/-- measure of any cursor: what it tells; the cursor stands somewhere, and has refused what it had refused. -/
theorem measure_cur {w : World} {g : Nat} {v : Value} {l : List UInt8} {a : Nat} {e : Int} (h : Cur w g v l a e) (hlen : l.length ≤ 140737488355328) :
    Calls Tryz.prog 211 #[.pointer (some ⟨g, 0, none⟩)] w fun x w' => x = .returned (.tuple #[.int .u64 ((sizeT (l.drop a) e).1 : Int), .int .i64 (sizeT (l.drop a) e).2]) ∧ (∃ b, Cur w' g v l b e ∧ (e ≠ 0 → b = a)) ∧ w.grownBy w' (some g) := by
  by_cases he : e = 0
  · subst he
    exact (measure_ok h hlen).mono fun x w' ⟨h1, ⟨b, h2⟩, h3⟩ => ⟨h1, ⟨b, h2, fun k => absurd rfl k⟩, h3⟩
  · rw [sizeT_bad _ he]
    refine (measure_ref h he).mono fun x w' ⟨h1, n, h2⟩ => ⟨h1, ⟨a, ?_, fun _ => rfl⟩, ?_⟩
    · subst h2; exact h.drewN n
    · subst h2; exact only_drewN (only_refl _ _) n

end Go.Proofs.YtejicboemkpeoaaGreatDoor

namespace Go.Proofs.YtejicboemkpeoaaGreatDoor
open Go Go.RowKit

set_option maxHeartbeats 800000 in
theorem take_core {w : World} {g : Nat} {v : Value} {l t : List UInt8} {a a2 a3 n : Nat} {e f E : Int} (h : Cur w g v l a e) (hlen : l.length ≤ 140737488355328)
    (hM : Calls Tryz.prog 211 #[.pointer (some ⟨g, 0, none⟩)] w fun x w' => x = .returned (.tuple #[.int .u64 (n : Int), .int .i64 f]) ∧ (∃ b, Cur w' g v l b e ∧ (e ≠ 0 → b = a)) ∧ w.grownBy w' (some g))
    (hE : failOf e f = E)
    (hB : ∀ W, Cur W g v l a E → Calls Tryz.prog 201 #[.pointer (some ⟨g, 0, none⟩), .int .u64 (n : Int)] W fun r w' => ∃ u, r = .returned u ∧ Own w' W.heap.size u t ∧ Cur w' g v l a2 E ∧ W.grownBy w' (some g))
    (hU : ∀ W, Cur W g v l a2 E → Calls Tryz.prog 93 #[.pointer (some ⟨g, 0, none⟩)] W fun r w' => (∃ y, r = .returned (.int .u64 y)) ∧ Cur w' g v l a3 E ∧ W.grownBy w' (some g)) :
    Calls Tryz.prog 202 #[.pointer (some ⟨g, 0, none⟩)] w fun x w' => x = .returned (.string ⟨t.toArray⟩) ∧ Cur w' g v l a3 E ∧ w.grownBy w' (some g) := by
  have hal := h.2.2
  have hA := at_cur h
  have hS := Lib.hid (fun W b (hC : Cur W g v l b e) (hb : e ≠ 0 → b = a) => (by
    have h1 := seek_cur hC a (by unfold two64; omega) hlen
    have e1 : seekAt l b e a = a := by
      unfold seekAt
      by_cases he : e = 0
      · rw [if_pos ⟨he, hal⟩]
      · rw [if_neg (fun k => he k.1)]; exact hb he
    have e2 : seekErr l e a = e := by
      unfold seekErr
      by_cases he : e = 0
      · rw [if_pos he, if_pos hal, he]
      · rw [if_neg he]
    rwa [e1, e2] at h1 : Calls Tryz.prog 51 #[.pointer (some ⟨g, 0, none⟩), .int .u64 (a : Int)] W fun r w' => r = .returned (.tuple #[]) ∧ Cur w' g v l a e ∧ W.grownBy w' (some g)))
  have hF := Lib.hid (fun W (hC : Cur W g v l a e) => (by have h1 := fail_cur hC f; rwa [hE] at h1 : Calls Tryz.prog 54 #[.pointer (some ⟨g, 0, none⟩), .int .i64 f] W fun r w' => r = .returned (.tuple #[]) ∧ Cur w' g v l a E ∧ W.grownBy w' (some g)))
  have HB := Lib.hid hB
  have HU := Lib.hid hU
  have s1 : IntKind.u64.wrap (a : Int) = (a : Int) := by rw [IntWalk.u64_in _ (by omega)]
  clear hB hU hE h hal hlen
  go_enter Tryz.func202, Tryz.ntmps202
  go_wp2_with (first
    | (go_at_call 89; refine hA.mono ?_; rintro r w' ⟨rfl, rfl⟩)
    | (go_at_call 211; refine hM.mono ?_; rintro r w1 ⟨rfl, ⟨b, hC1, hb1⟩, hG1⟩; have hS1 := hS.out _ _ hC1 hb1; clear hC1 hb1)
    | (go_at_call 51; refine hS1.mono ?_; rintro r w2 ⟨rfl, hC2, hG2⟩; have hF2 := hF.out _ hC2; clear hC2)
    | (go_at_call 54; refine hF2.mono ?_; rintro r w3 ⟨rfl, hC3, hG3⟩; have hB3 := HB.out _ hC3; clear hC3)
    | (go_at_call 201; refine hB3.mono ?_; rintro r w4 ⟨u, rfl, hO4, hC4, hG4⟩; have hU4 := HU.out _ hC4)
    | (go_at_call 93; refine hU4.mono ?_; rintro r w5 ⟨⟨y, rfl⟩, hC5, hG5⟩; have cv := conv_own (own_only hO4 hC4.1 hG5)))
  go_ret
  exact ⟨rfl, hC5, ((hG1.trans hG2).trans hG3).trans (hG4.trans hG5)⟩

theorem take_cur {w : World} {g : Nat} {v : Value} {l : List UInt8} {a : Nat} {e : Int} (h : Cur w g v l a e) (hlen : l.length ≤ 140737488355328) :
    Calls Tryz.prog 202 #[.pointer (some ⟨g, 0, none⟩)] w fun x w' => x = .returned (.string ⟨(takeT (l.drop a) e).1.toArray⟩) ∧ Cur w' g v l (a + (takeT (l.drop a) e).2.1) (takeT (l.drop a) e).2.2 ∧ w.grownBy w' (some g) := by
  have hM := measure_cur h hlen
  have hal := h.2.2
  obtain ⟨r, hr⟩ : ∃ r, r = l.drop a := ⟨_, rfl⟩
  have hrl : r.length = l.length - a := by rw [hr]; simp
  have bad : ∀ E : Int, E ≠ 0 → (sizeT r e).1 = 0 → failOf e (sizeT r e).2 = E → takeT r e = ([], 0, E) → 
      Calls Tryz.prog 202 #[.pointer (some ⟨g, 0, none⟩)] w fun x w' => x = .returned (.string ⟨(takeT (l.drop a) e).1.toArray⟩) ∧ Cur w' g v l (a + (takeT (l.drop a) e).2.1) (takeT (l.drop a) e).2.2 ∧ w.grownBy w' (some g) := by
    intro E hE hn hf ht
    rw [← hr, ht]
    rw [← hr, hn] at hM
    have gotE : ∀ n, nextGot l a E n = [] := fun n => by unfold nextGot; rw [if_neg (fun k => hE k.1)]
    have atE : ∀ n, nextAt l a E n = a := fun n => by unfold nextAt; rw [if_neg (fun k => hE k.1)]
    have errE : ∀ n, nextErr l a E n = E := fun n => by unfold nextErr; rw [if_neg hE]
    refine take_core (n := 0) (a2 := a) (a3 := a) h hlen hM hf (fun W hC => ?_) (fun W hC => ?_)
    · have := bytes_cur hC 0 hlen
      rwa [gotE, atE, errE] at this
    · refine (u8_cur hC hlen).mono fun x w' ⟨h1, h2, h3⟩ => ⟨⟨_, h1⟩, ?_, h3⟩
      rwa [atE, errE] at h2
  by_cases he : e = 0
  · subst he
    rcases readT_cases r with ⟨h1, h2⟩ | ⟨h1, h2, h3⟩ | ⟨h1, h2, h3⟩
    · exact bad 12 (by decide) (by unfold sizeT; rw [if_pos rfl, h2]; rfl) (by unfold sizeT; rw [if_pos rfl, h2]; rfl) (by rw [takeT_zero, h2])
    · exact bad 3 (by decide) (by unfold sizeT; rw [if_pos rfl, h3]; rfl) (by unfold sizeT; rw [if_pos rfl, h3]; rfl) (by rw [takeT_zero, h3])
    · have hs : sizeT r 0 = (tlen r, 0) := by unfold sizeT; rw [if_pos rfl, h3, if_pos rfl]
      rw [← hr, hs] at hM
      rw [← hr, takeT_zero, h3]
      refine take_core (n := tlen r) (a2 := a + tlen r) h hlen hM rfl (fun W hC => ?_) (fun W hC => ?_)
      · have := bytes_ok hC (n := tlen r) (by omega) hlen
        rwa [← hr] at this
      · have hlt : a + tlen r < l.length := by omega
        exact (u8_at hC hlt hlen).mono fun x w' ⟨k1, k2, k3⟩ => ⟨⟨_, k1⟩, by rwa [Nat.add_assoc] at k2, k3⟩
  · exact bad e he (by rw [sizeT_bad _ he]) (by rw [sizeT_bad _ he]; unfold failOf; rw [if_neg he]) (takeT_bad _ he)

end Go.Proofs.YtejicboemkpeoaaGreatDoor

namespace Go.Proofs.YtejicboemkpeoaaGreatDoor
open Go Go.RowKit

/-- Texts as the cells that hold them. -/
def strV (ts : List (List UInt8)) : List Value := ts.map fun t => Value.string ⟨t.toArray⟩
@[simp] theorem strV_length (ts : List (List UInt8)) : (strV ts).length = ts.length := by simp [strV]
end Go.Proofs.YtejicboemkpeoaaGreatDoor
