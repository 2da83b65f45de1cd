/-
  Take of package elfhead: which header a file's bytes begin with, or why none.
-/
import Derived.Test.YtldmjnbmjfnfeaaGreatDoorPut
import Derived.Test.YtldmjnbmjfnfeaaGreatDoorEhC
import Derived.Test.YtldmjnbmjfnfeaaGreatDoorEhA
import Derived.Laws.ResultCell
import Derived.Stop.BytesEq
import Derived.Laws.Cover3
namespace Go.Proofs.YtldmjnbmjfnfeaaGreatDoor
open Go Go.RowKit

/-- A cursor's method over a cursor, as a value. -/
abbrev methV (f g : Nat) : Value := .func (.func f) #[.pointer (some ⟨g, 0, none⟩)] #[]

theorem got_in {l : List UInt8} {a n : Nat} (h : a + n ≤ l.length) : nextGot l a 0 n = cutT l a n ∧ nextAt l a 0 n = a + n ∧ nextErr l a 0 n = 0 := by
  have h' : n ≤ l.length - a := by omega
  simp [nextGot, nextAt, nextErr, cutT, h']

theorem h16 {w : World} {g : Nat} {v : Value} {l : List UInt8} (a : Nat) (hl : l.length = 64) (ha : a + 2 ≤ 64) (h : Cur w g v l a 0) :
    Calls Tryz.prog 84 #[.pointer (some ⟨g, 0, none⟩)] w fun r w' => r = .returned (.int .u64 (numT l a 2 : Int)) ∧ Cur w' g v l (a + 2) 0 ∧ w.grownBy w' (some g) := by
  have := u16_cur h (by omega)
  obtain ⟨e1, e2, e3⟩ := got_in (l := l) (a := a) (n := 2) (by omega)
  rwa [e1, e2, e3] at this
theorem h32 {w : World} {g : Nat} {v : Value} {l : List UInt8} (a : Nat) (hl : l.length = 64) (ha : a + 4 ≤ 64) (h : Cur w g v l a 0) :
    Calls Tryz.prog 85 #[.pointer (some ⟨g, 0, none⟩)] w fun r w' => r = .returned (.int .u64 (numT l a 4 : Int)) ∧ Cur w' g v l (a + 4) 0 ∧ w.grownBy w' (some g) := by
  have := u32_cur h (by omega)
  obtain ⟨e1, e2, e3⟩ := got_in (l := l) (a := a) (n := 4) (by omega)
  rwa [e1, e2, e3] at this
theorem h64 {w : World} {g : Nat} {v : Value} {l : List UInt8} (a : Nat) (hl : l.length = 64) (ha : a + 8 ≤ 64) (h : Cur w g v l a 0) :
    Calls Tryz.prog 86 #[.pointer (some ⟨g, 0, none⟩)] w fun r w' => r = .returned (.int .u64 (numT l a 8 : Int)) ∧ Cur w' g v l (a + 8) 0 ∧ w.grownBy w' (some g) := by
  have := u64_cur h (by omega)
  obtain ⟨e1, e2, e3⟩ := got_in (l := l) (a := a) (n := 8) (by omega)
  rwa [e1, e2, e3] at this

/-- A cursor, a header in memory beside it, and what has not turned since w0. -/
def St (w0 w : World) (g : Nat) (v : Value) (l : List UInt8) (a : Nat) (H : Nat) (cs : Array Value) : Prop :=
  Cur w g v l a 0 ∧ Box w H 55 cs ∧ w0.grownBy w (some g)

section
variable {w0 w w' : World} {g : Nat} {v : Value} {l : List UInt8} {a b H : Nat} {cs : Array Value}
theorem St.call (h : St w0 w g v l a H cs) (hne : g ≠ H) (hC : Cur w' g v l b 0) (hG : w.grownBy w' (some g)) : St w0 w' g v l b H cs :=
  ⟨hC, h.2.1.grown hG (by simpa using fun e => hne e.symm), h.2.2.trans hG⟩
theorem St.set (h : St w0 w g v l a H cs) (hne : g ≠ H) (hH : w0.heap.size ≤ H) (i : Nat) (u : Value) : St w0 (w.setCell ⟨H, i, none⟩ u) g v l a H (cs.setIfInBounds i u) :=
  have G : w.grownBy (w.setCell ⟨H, i, none⟩ u) (some H) := only_set (only_refl w (some H)) i u
  ⟨h.1.grown G (by simpa using hne) (.inr (own_other h.1.2.1 h.2.1 (by decide))), h.2.1.set i u, only_trans h.2.2 G (.inr fun x hx => by injection hx with hx; omega)⟩

theorem St.u16 (h : St w0 w g v l a H cs) (hne : g ≠ H) (hl : l.length = 64) (ha : a + 2 ≤ 64) :
    Calls Tryz.prog 84 #[.pointer (some ⟨g, 0, none⟩)] w fun r w' => r = .returned (.int .u64 (numT l a 2 : Int)) ∧ St w0 w' g v l (a + 2) H cs :=
  (h16 a hl ha h.1).mono fun _ _ ⟨h1, h2, h3⟩ => ⟨h1, h.call hne h2 h3⟩
theorem St.u32 (h : St w0 w g v l a H cs) (hne : g ≠ H) (hl : l.length = 64) (ha : a + 4 ≤ 64) :
    Calls Tryz.prog 85 #[.pointer (some ⟨g, 0, none⟩)] w fun r w' => r = .returned (.int .u64 (numT l a 4 : Int)) ∧ St w0 w' g v l (a + 4) H cs :=
  (h32 a hl ha h.1).mono fun _ _ ⟨h1, h2, h3⟩ => ⟨h1, h.call hne h2 h3⟩
theorem St.u64 (h : St w0 w g v l a H cs) (hne : g ≠ H) (hl : l.length = 64) (ha : a + 8 ≤ 64) :
    Calls Tryz.prog 86 #[.pointer (some ⟨g, 0, none⟩)] w fun r w' => r = .returned (.int .u64 (numT l a 8 : Int)) ∧ St w0 w' g v l (a + 8) H cs :=
  (h64 a hl ha h.1).mono fun _ _ ⟨h1, h2, h3⟩ => ⟨h1, h.call hne h2 h3⟩
end

theorem numT_lt2 (l : List UInt8) (f : Nat) : (numT l f 2 : Int) ≤ 65535 := by
  have h := leNat_lt (cutT l f 2)
  have h2 : (cutT l f 2).length ≤ 2 := by simp [cutT]; omega
  have h3 : (256 : Nat) ^ (cutT l f 2).length ≤ 256 ^ 2 := Nat.pow_le_pow_right (by decide) h2
  have h4 : (256 : Nat) ^ 2 = 65536 := rfl
  unfold numT
  omega

/-- Whether the numbers that stand fast are what they have to be. -/
def fastT (l : List UInt8) : Bool := decide (numT l 20 4 = 1) && decide (numT l 52 2 = 64) && decide (numT l 56 2 = 0) && decide (numT l 58 2 = 64)
/-- The header that some bytes are. -/
def hdrT (l : List UInt8) : Value := hdV (numT l 16 2 : Int) (numT l 18 2 : Int) (numT l 40 8) (numT l 60 2 : Int) (numT l 62 2 : Int)
def NumbersAre (w : World) (g : Nat) (x : Value) (b : Bool) (r : Ending) (w' : World) : Prop :=
  r = .returned (.tuple #[x, .bool b]) ∧ w.grownBy w' (some g)

/-- Behind a return: a struct in its cell, and a value beside it. -/
theorem ret_head {fn : Func} {p u : Tmp} (hres : fn.results = #[.cell p 55, .tmp u]) {R : Ending → World → Prop} {a : Act} {W : World} {H : Nat} {cs : Array Value} (hB : Box W H 55 cs) (hcs : cs.size = 5)
    (hp : a.tmps.getD p undef = .pointer (some ⟨H, 0, none⟩)) (hd : a.defers = []) (h : R (.returned (.tuple #[.agg cs, a.tmps.getD u undef])) W) : bodyPost Tryz.prog fn R .ret a W := by
  refine bodyPost_ret (v := .tuple #[.agg cs, a.tmps.getD u undef]) ?_ hd h
  have hl := run_loadVar_row (P := Tryz.prog) W H 55 55 cs (0, 0) _ hB Tryz.underlying55 rfl (by rw [hcs]; kernel_rfl)
  rw [results_cell_tmp hres, hp]
  simp [asAddr, hl, Result.andThen]

theorem fast_ways {f : Bool} {a b c d : Nat} (h : f = (decide (a = 1) && decide (b = 64) && decide (c = 0) && decide (d = 64))) :
    (f = true ∧ ((a : Int) == 1) = true ∧ ((b : Int) == 64) = true ∧ ((c : Int) == 0) = true ∧ ((d : Int) == 64) = true) ∨ (f = false ∧ ((a : Int) == 1) = false) ∨
    (f = false ∧ ((a : Int) == 1) = true ∧ ((b : Int) == 64) = false) ∨ (f = false ∧ ((a : Int) == 1) = true ∧ ((b : Int) == 64) = true ∧ ((c : Int) == 0) = false) ∨
    (f = false ∧ ((a : Int) == 1) = true ∧ ((b : Int) == 64) = true ∧ ((c : Int) == 0) = true ∧ ((d : Int) == 64) = false) := by
  subst h
  by_cases h1 : a = 1
  · by_cases h2 : b = 64
    · by_cases h3 : c = 0
      · by_cases h4 : d = 64
        · simp [h1, h2, h3, h4]
        · have : ((d : Int) == 64) = false := by simp; omega
          simp [h1, h2, h3, h4, this]
      · have : ((c : Int) == 0) = false := by simp; omega
        simp [h1, h2, h3, this]
    · have : ((b : Int) == 64) = false := by simp; omega
      simp [h1, h2, this]
  · have : ((a : Int) == 1) = false := by simp; omega
    simp [h1, this]

set_option maxHeartbeats 1600000 in
set_option maxRecDepth 10000 in
theorem numbers_any {w : World} {g : Nat} {v : Value} {l : List UInt8} (hl : l.length = 64) (h : Cur w g v l 16 0) :
    Calls Tryz.prog 83 #[methV 84 g, methV 85 g, methV 86 g] w (NumbersAre w g (hdrT l) (fastT l)) := by
  have hne : g ≠ w.heap.size := by have := h.1.lt; omega
  have hs : w.heap.size ≤ w.heap.size := Nat.le_refl _
  have HS0 := Lib.hid (show St w (w.alloc (.cells #[.int .i64 0, .int .i64 0, .int .u64 0, .int .i64 0, .int .i64 0] 55)) g v l 16 w.heap.size #[.int .i64 0, .int .i64 0, .int .u64 0, .int .i64 0, .int .i64 0] from
    ⟨h.below ((Below.refl _ _).alloc (Nat.le_refl _) _), Box.new _ _ _, only_below ((Below.refl _ _).alloc (Nat.le_refl _) _) _⟩)
  have C0 := Lib.hid (fun W cs (hS : St w W g v l 16 w.heap.size cs) => hS.u16 hne hl (by decide))
  have C1 := Lib.hid (fun W cs (hS : St w W g v l 18 w.heap.size cs) => hS.u16 hne hl (by decide))
  have C2 := Lib.hid (fun W cs (hS : St w W g v l 20 w.heap.size cs) => hS.u32 hne hl (by decide))
  have C3 := Lib.hid (fun W cs (hS : St w W g v l 24 w.heap.size cs) => hS.u64 hne hl (by decide))
  have C4 := Lib.hid (fun W cs (hS : St w W g v l 32 w.heap.size cs) => hS.u64 hne hl (by decide))
  have C5 := Lib.hid (fun W cs (hS : St w W g v l 40 w.heap.size cs) => hS.u64 hne hl (by decide))
  have C6 := Lib.hid (fun W cs (hS : St w W g v l 48 w.heap.size cs) => hS.u32 hne hl (by decide))
  have C7 := Lib.hid (fun W cs (hS : St w W g v l 52 w.heap.size cs) => hS.u16 hne hl (by decide))
  have C8 := Lib.hid (fun W cs (hS : St w W g v l 54 w.heap.size cs) => hS.u16 hne hl (by decide))
  have C9 := Lib.hid (fun W cs (hS : St w W g v l 56 w.heap.size cs) => hS.u16 hne hl (by decide))
  have C10 := Lib.hid (fun W cs (hS : St w W g v l 58 w.heap.size cs) => hS.u16 hne hl (by decide))
  have C11 := Lib.hid (fun W cs (hS : St w W g v l 60 w.heap.size cs) => hS.u16 hne hl (by decide))
  have C12 := Lib.hid (fun W cs (hS : St w W g v l 62 w.heap.size cs) => hS.u16 hne hl (by decide))
  have N0 := numT_lt2 l 16
  have N1 := numT_lt2 l 18
  have N11 := numT_lt2 l 60
  have N12 := numT_lt2 l 62
  have HF := Lib.hid (show fastT l = (decide (numT l 20 4 = 1) && decide (numT l 52 2 = 64) && decide (numT l 56 2 = 0) && decide (numT l 58 2 = 64)) from rfl)
  generalize fastT l = fast at *
  have HX := Lib.hid (show hdrT l = hdV (numT l 16 2 : Int) (numT l 18 2 : Int) (numT l 40 8) (numT l 60 2 : Int) (numT l 62 2 : Int) from rfl)
  generalize hdrT l = head at *
  generalize numT l 16 2 = n0 at *
  generalize numT l 18 2 = n1 at *
  generalize numT l 20 4 = n2 at *
  generalize numT l 24 8 = n3 at *
  generalize numT l 32 8 = n4 at *
  generalize numT l 40 8 = n5 at *
  generalize numT l 48 4 = n6 at *
  generalize numT l 52 2 = n7 at *
  generalize numT l 54 2 = n8 at *
  generalize numT l 56 2 = n9 at *
  generalize numT l 58 2 = n10 at *
  generalize numT l 60 2 = n11 at *
  generalize numT l 62 2 = n12 at *
  clear h hl
  have HN := Lib.hid hne
  have HC := Lib.hid (fast_ways HF.out)
  clear hne HF
  go_enter Tryz.func83, Tryz.ntmps83
  go_wp2_with fail
  refine (C0.out _ _ HS0.out).mono ?_
  rintro r w1 ⟨rfl, h⟩
  have c0 := h.2.1.cell 0
  have fr0 := h.2.1.free 0
  simp at c0
  have HS1 := Lib.hid (show St w _ g v l 18 w.heap.size #[.int .i64 (n0 : Int), .int .i64 0, .int .u64 0, .int .i64 0, .int .i64 0] from h.set HN.out hs 0 (.int .i64 (n0 : Int)))
  clear h C0 HS0
  go_wp2_with fail
  refine (C1.out _ _ HS1.out).mono ?_
  rintro r w2 ⟨rfl, h⟩
  have c1 := h.2.1.cell 1
  have fr1 := h.2.1.free 1
  simp at c1
  have HS2 := Lib.hid (show St w _ g v l 20 w.heap.size #[.int .i64 (n0 : Int), .int .i64 (n1 : Int), .int .u64 0, .int .i64 0, .int .i64 0] from h.set HN.out hs 1 (.int .i64 (n1 : Int)))
  clear h C1 HS1 c0 fr0
  go_wp2_with fail
  refine (C2.out _ _ HS2.out).mono ?_
  rintro r w3 ⟨rfl, h⟩
  have HS3 := Lib.hid h
  clear h C2 HS2 c1 fr1
  go_wp2_with fail
  refine (C3.out _ _ HS3.out).mono ?_
  rintro r w4 ⟨rfl, h⟩
  have HS4 := Lib.hid h
  clear h C3 HS3
  go_wp2_with fail
  refine (C4.out _ _ HS4.out).mono ?_
  rintro r w5 ⟨rfl, h⟩
  have HS5 := Lib.hid h
  clear h C4 HS4
  go_wp2_with fail
  refine (C5.out _ _ HS5.out).mono ?_
  rintro r w6 ⟨rfl, h⟩
  have c5 := h.2.1.cell 2
  have fr5 := h.2.1.free 2
  simp at c5
  have HS6 := Lib.hid (show St w _ g v l 48 w.heap.size #[.int .i64 (n0 : Int), .int .i64 (n1 : Int), .int .u64 (n5 : Int), .int .i64 0, .int .i64 0] from h.set HN.out hs 2 (.int .u64 (n5 : Int)))
  clear h C5 HS5
  go_wp2_with fail
  refine (C6.out _ _ HS6.out).mono ?_
  rintro r w7 ⟨rfl, h⟩
  have HS7 := Lib.hid h
  clear h C6 HS6 c5 fr5
  go_wp2_with fail
  refine (C7.out _ _ HS7.out).mono ?_
  rintro r w8 ⟨rfl, h⟩
  have HS8 := Lib.hid h
  clear h C7 HS7
  go_wp2_with fail
  refine (C8.out _ _ HS8.out).mono ?_
  rintro r w9 ⟨rfl, h⟩
  have HS9 := Lib.hid h
  clear h C8 HS8
  go_wp2_with fail
  refine (C9.out _ _ HS9.out).mono ?_
  rintro r w10 ⟨rfl, h⟩
  have HS10 := Lib.hid h
  clear h C9 HS9
  go_wp2_with fail
  refine (C10.out _ _ HS10.out).mono ?_
  rintro r w11 ⟨rfl, h⟩
  have HS11 := Lib.hid h
  clear h C10 HS10
  rcases HC.out with ⟨rfl, b0, b1, b2, b3⟩ | ⟨rfl, b0⟩ | ⟨rfl, b0, b1⟩ | ⟨rfl, b0, b1, b2⟩ | ⟨rfl, b0, b1, b2, b3⟩
  all_goals
    clear HC
    go_wp2_with fail
    refine (C11.out _ _ HS11.out).mono ?_
    rintro r w12 ⟨rfl, h⟩
    have c11 := h.2.1.cell 3
    have fr11 := h.2.1.free 3
    simp at c11
    have HS12 := Lib.hid (show St w _ g v l 62 w.heap.size #[.int .i64 (n0 : Int), .int .i64 (n1 : Int), .int .u64 (n5 : Int), .int .i64 (n11 : Int), .int .i64 0] from h.set HN.out hs 3 (.int .i64 (n11 : Int)))
    clear h C11 HS11
    go_wp2_with fail
    refine (C12.out _ _ HS12.out).mono ?_
    rintro r w13 ⟨rfl, h⟩
    have c12 := h.2.1.cell 4
    have fr12 := h.2.1.free 4
    simp at c12
    have HS13 := Lib.hid (show St w _ g v l 64 w.heap.size #[.int .i64 (n0 : Int), .int .i64 (n1 : Int), .int .u64 (n5 : Int), .int .i64 (n11 : Int), .int .i64 (n12 : Int)] from h.set HN.out hs 4 (.int .i64 (n12 : Int)))
    have q0 := h.2.1.cell 0
    simp at q0
    have p0 := h.2.1.free 0
    have q1 := h.2.1.cell 1
    simp at q1
    have p1 := h.2.1.free 1
    have q2 := h.2.1.cell 2
    simp at q2
    have p2 := h.2.1.free 2
    have q3 := h.2.1.cell 3
    simp at q3
    have p3 := h.2.1.free 3
    clear h C12 HS12 c11 fr11
    go_wp2_with fail
    have HS14 := (((((HS13.out.set HN.out hs 0 (.int .i64 (n0 : Int))).set HN.out hs 1 (.int .i64 (n1 : Int))).set HN.out hs 2 (.int .u64 (n5 : Int))).set HN.out hs 3 (.int .i64 (n11 : Int))).set HN.out hs 4 (.int .i64 (n12 : Int)))
    have HB : Box _ w.heap.size 55 #[.int .i64 (n0 : Int), .int .i64 (n1 : Int), .int .u64 (n5 : Int), .int .i64 (n11 : Int), .int .i64 (n12 : Int)] := HS14.2.1
    refine ret_head Tryz.results83 HB rfl (by rfl) rfl ?_
    refine ⟨?_, HS14.2.2⟩
    rw [HX.out]
    rfl

end Go.Proofs.YtldmjnbmjfnfeaaGreatDoor

namespace Go.Proofs.YtldmjnbmjfnfeaaGreatDoor
open Go Go.RowKit

/-- Why there is no header. -/
def takeE (l : List UInt8) : Int :=
  if 64 ≤ l.length ∧ l.take 7 = magB then
    (if (fastT (l.take 64) && rightOf (numT (l.take 64) 16 2 : Int) (numT (l.take 64) 18 2 : Int) (numT (l.take 64) 40 8) (numT (l.take 64) 60 2 : Int) (numT (l.take 64) 62 2 : Int) l.length) = true then 0 else 21)
  else 20
/-- The header. -/
def takeH (l : List UInt8) : Value := if takeE l = 0 then hdrT (l.take 64) else hdV 0 0 0 0 0
def TakeIs (v : Value) (e : Int) (w : World) (r : Ending) (w' : World) : Prop := r = .returned (.tuple #[v, .int .i64 e]) ∧ Below w.heap.size w w'

/-- Bytes as the values that hold them. -/
abbrev arrV (xs : List UInt8) : Value := .agg (xs.map fun b => Value.int .u8 (b.toNat : Int)).toArray

theorem neq_magic (xs : List UInt8) (hx : xs.length = 7) (W : World) :
    (binOp .neq 148 (arrV xs) (arrV magB)).run Tryz.prog W = .ok (.bool (!(xs == magB))) W := by
  rw [run_neq_struct]
  have h := run_equalIn_bytes (P := Tryz.prog) W 9998 148 5 7 Tryz.underlying148 Tryz.underlying5 (fun w => by
    obtain ⟨i, hi, _, hs, _⟩ := info_parts u8_info
    simp [sizeOf, typeInfo, hi, hs]) xs magB hx rfl
  exact (congrArg (fun r : Result Bool => r.andThen fun b w' => Result.ok (Value.bool (!b)) w') h).trans rfl

/-- An array of bytes, read. -/
theorem load_arr {W : World} {ad : Addr} {xs : List UInt8} (hx : xs.length = 7) (h : ∀ j u, xs[j]? = some u → W.cell? (ad.add j) = some (.int .u8 (u.toNat : Int))) : (loadVar 148 ad).run Tryz.prog W = .ok (arrV xs) W := by
  have hl := run_loadCells_list (P := Tryz.prog) W ad (xs.map fun b => Value.int .u8 (b.toNat : Int)) (fun j v hv => by
    rw [List.getElem?_map] at hv
    rcases hj : xs[j]? with _ | u
    · rw [hj] at hv; cases hv
    · rw [hj] at hv
      injection hv with hv
      rw [← hv]
      exact h j u hj)
  rw [List.length_map, hx] at hl
  have hagg : (isAgg 148).run Tryz.prog W = .ok true W := by
    unfold isAgg
    rw [Sem.run_bind, run_underlying Tryz.underlying148 W]
    simp
  have hs : (sizeOf 148).run Tryz.prog W = .ok 7 W := by
    have hi : (Tryz.prog.info? 148).map (·.size) = some 7 := by kernel_rfl
    cases hq : Tryz.prog.info? 148 with
    | none => simp [hq] at hi
    | some i =>
      have : i.size = 7 := by simpa [hq] using hi
      simp [sizeOf, typeInfo, hq, this]
  rw [loadVar, Sem.run_bind, hagg]
  simp [hl]

section
variable {P : Program} {C : World → Prop} {a : Act} {o : Oper} {K : Act → Prop}
/-- A load of several cells, as one step of a region that only reads. -/
theorem quiet_load (ty : TypeId) (x : Operand) (ho : o.op = .load ty x) (ad : Addr) (hx : a.eval x = .pointer (some ad)) (v : Value) (hv : ∀ W, C W → (loadVar ty ad).run P W = .ok v W) (hk : K (a.put o.dst v)) : o.quiet P a C K :=
  ⟨v, fun w hw => by
    unfold Oper.quietAt execOp
    simp only [ho, hx, Instr.loadAt, Instr.sureAddr, Sem.run_bind, Sem.run_pure, Result.andThen_ok, hv w hw]
    exact ⟨rfl, rfl⟩, hk⟩
theorem quiet_neq (t t' : TypeId) (x y : Operand) (ho : o.op = .binOp .neq t x y t') (xs ys : Array Value) (hx : a.eval x = .agg xs) (hy : a.eval y = .agg ys) (hg : P.eqGuardType P.depth t = false) (b : Bool)
    (hr : ∀ W, (binOp .neq t (.agg xs) (.agg ys)).run P W = .ok (.bool b) W) (hk : K (a.put o.dst (.bool b))) : o.quiet P a C K :=
  ⟨.bool b, fun w _ => by
    unfold Oper.quietAt execOp
    simp only [ho, hx, hy, run_eqGuard_agg w .neq t x y xs ys hg, Sem.run_bind, Sem.run_pure, Result.andThen_ok, hr w]
    exact ⟨rfl, rfl⟩, hk⟩
end

/-- A header that is stored field by field, and what has not turned. -/
theorem five_box {W : World} {H : Nat} {T : TypeId} {c0 c1 c2 c3 c4 : Value} (h : Box W H T #[c0, c1, c2, c3, c4]) (v0 v1 v2 v3 v4 : Value) :
    Box (((((W.setCell ⟨H, 0, none⟩ v0).setCell ⟨H, 1, none⟩ v1).setCell ⟨H, 2, none⟩ v2).setCell ⟨H, 3, none⟩ v3).setCell ⟨H, 4, none⟩ v4) H T #[v0, v1, v2, v3, v4] := by
  simpa using ((((h.set 0 v0).set 1 v1).set 2 v2).set 3 v3).set 4 v4
theorem five_below {B : Nat} {W0 W : World} {H : Nat} (h : Below B W0 W) (hH : B ≤ H) (v0 v1 v2 v3 v4 : Value) :
    Below B W0 (((((W.setCell ⟨H, 0, none⟩ v0).setCell ⟨H, 1, none⟩ v1).setCell ⟨H, 2, none⟩ v2).setCell ⟨H, 3, none⟩ v3).setCell ⟨H, 4, none⟩ v4) :=
  ((((h.setCell hH _).setCell hH _).setCell hH _).setCell hH _).setCell hH _
/-- The result variable behind 'Head{}', and what has not turned. -/
theorem none_box (w : World) (n : Nat) : Box ((((((((w.alloc (.cells #[.int .i64 0, .int .i64 0, .int .u64 0, .int .i64 0, .int .i64 0] 55)).drewN n).setCell ⟨w.heap.size, 0, none⟩ (.int .i64 0)).setCell ⟨w.heap.size, 1, none⟩ (.int .i64 0)).setCell ⟨w.heap.size, 2, none⟩ (.int .u64 0)).setCell ⟨w.heap.size, 3, none⟩ (.int .i64 0)).setCell ⟨w.heap.size, 4, none⟩ (.int .i64 0))) w.heap.size 55
    #[.int .i64 0, .int .i64 0, .int .u64 0, .int .i64 0, .int .i64 0] := by
  simpa using (((((Box.new w 55 #[.int .i64 0, .int .i64 0, .int .u64 0, .int .i64 0, .int .i64 0]).drewN n).set 0 (.int .i64 0)).set 1 (.int .i64 0)).set 2 (.int .u64 0)).set 3 (.int .i64 0) |>.set 4 (.int .i64 0)
theorem none_below (w : World) (n : Nat) : Below w.heap.size w ((((((((w.alloc (.cells #[.int .i64 0, .int .i64 0, .int .u64 0, .int .i64 0, .int .i64 0] 55)).drewN n).setCell ⟨w.heap.size, 0, none⟩ (.int .i64 0)).setCell ⟨w.heap.size, 1, none⟩ (.int .i64 0)).setCell ⟨w.heap.size, 2, none⟩ (.int .u64 0)).setCell ⟨w.heap.size, 3, none⟩ (.int .i64 0)).setCell ⟨w.heap.size, 4, none⟩ (.int .i64 0))) :=
  (((((below_drewN ((Below.refl w.heap.size w).alloc (Nat.le_refl _) _) n).setCell (by simp) _).setCell (by simp) _).setCell (by simp) _).setCell (by simp) _).setCell (by simp) _

set_option maxHeartbeats 800000 in
theorem take_short {w : World} {A : Option Addr} {l : List UInt8} (c : Nat) (h : l.length < 64) :
    Calls Tryz.prog 47 #[.slice A l.length c] w (TakeIs (takeH l) (takeE l) w) := by
  have HE := Lib.hid (show takeE l = 20 by unfold takeE; rw [if_neg (by omega)])
  have HH := Lib.hid (show takeH l = hdV 0 0 0 0 0 by unfold takeH; rw [HE.out]; rfl)
  have hd : decide ((l.length : Int) < 64) = true := by simp; omega
  generalize takeE l = e at *
  generalize takeH l = hv at *
  generalize l.length = n at *
  go_enter Tryz.func47, Tryz.ntmps47
  go_wp2
  go_quiet (fail)
  go_wp2
  exact ret_head (H := w.heap.size) (cs := #[.int .i64 0, .int .i64 0, .int .u64 0, .int .i64 0, .int .i64 0]) Tryz.results47 (none_box w nq) rfl (by rfl) rfl ⟨by rw [HE.out, HH.out]; rfl, none_below w nq⟩

set_option maxHeartbeats 800000 in
theorem take_other {w : World} {B : Nat} {A : Option Addr} {l : List UInt8} (hr : Rd w B A l) (hB : B ≤ w.heap.size) (c : Nat) (hM : Mg w) (h : 64 ≤ l.length) (hne : l.take 7 ≠ magB) :
    Calls Tryz.prog 47 #[.slice A l.length c] w (TakeIs (takeH l) (takeE l) w) := by
  have HE := Lib.hid (show takeE l = 20 by unfold takeE; rw [if_neg (by simp [hne])])
  have HH := Lib.hid (show takeH l = hdV 0 0 0 0 0 by unfold takeH; rw [HE.out]; rfl)
  have hd : decide ((l.length : Int) < 64) = false := by simp; omega
  obtain ⟨b, o, rfl, hb, hcell⟩ := hr (by omega)
  have h7 : (l.take 7).length = 7 := by simp; omega
  have HX := Lib.hid (fun n o1 => load_arr (W := (w.alloc o1).drewN n) (ad := ⟨b, o, none⟩) h7 (fun j u hu => by
    have hj : j < 7 := by have := (List.getElem?_eq_some_iff.1 hu).1; omega
    rw [addr_add, World.cell?_drewN, ((Below.refl w.heap.size w).alloc (Nat.le_refl _) o1).cell (p := ⟨b, o + j, none⟩) (by show b < _; omega)]
    exact hcell j u (by rw [← hu, List.getElem?_take, if_pos hj])))
  have HY := Lib.hid (fun n o1 => load_arr (W := (w.alloc o1).drewN n) (ad := ⟨0, 0, none⟩) (xs := magB) rfl (fun j u hu => by
    rw [addr_add, Nat.zero_add, World.cell?_drewN]
    exact hM.alloc o1 j u hu))
  have HZ := Lib.hid (fun W => neq_magic (l.take 7) h7 W)
  have HQ := Lib.hid (show (!(l.take 7 == magB)) = true by simp [hne])
  have hat : ∀ W, (Instr.arrayAt 148 (.slice (some ⟨b, o, none⟩) l.length c)).run Tryz.prog W = .ok (.pointer (some ⟨b, o, none⟩)) W := fun W => run_arrayAt W 148 _ 7 _ l.length c Tryz.underlying148 (by omega)
  clear hcell hr hM hne h7 h
  generalize takeE l = e at *
  generalize takeH l = hv at *
  generalize l.length = n at *
  generalize l.take 7 = xs at *
  go_enter Tryz.func47, Tryz.ntmps47
  go_wp2
  refine wp_region_quiet_lit (by kernel_rfl) (by kernel_rfl) ?_
  repeat (first
    | go_big_quiet_step (fail)
    | (go_big_quiet_want; refine quiet_load _ _ rfl ⟨b, o, none⟩ rfl (arrV xs) (by rintro _ ⟨k, rfl⟩; exact HX.out _ _) ?_; dsimp only [Act.put]; simp only [List.setIfInBounds_toArray, List.set_cons_succ, List.set_cons_zero]; go_big_quiet_on)
    | (go_big_quiet_want; refine quiet_load _ _ rfl ⟨0, 0, none⟩ rfl (arrV magB) (by rintro _ ⟨k, rfl⟩; exact HY.out _ _) ?_; dsimp only [Act.put]; simp only [List.setIfInBounds_toArray, List.set_cons_succ, List.set_cons_zero]; go_big_quiet_on)
    | (go_big_quiet_want; refine quiet_neq _ _ _ _ rfl _ _ rfl rfl Tryz.eqGuardType148 true (by intro W; exact (HZ.out W).trans (by rw [HQ.out])) ?_; dsimp only [Act.put]; simp only [List.setIfInBounds_toArray, List.set_cons_succ, List.set_cons_zero]; go_big_quiet_on))
  refine wpQuiet_nil ?_
  rintro _ ⟨nq, rfl⟩
  go_wp2
  exact ret_head (H := w.heap.size) (cs := #[.int .i64 0, .int .i64 0, .int .u64 0, .int .i64 0, .int .i64 0]) Tryz.results47 (none_box w nq) rfl (by rfl) rfl ⟨by rw [HE.out, HH.out]; rfl, none_below w nq⟩

theorem numT_lt8 (l : List UInt8) (f : Nat) : numT l f 8 < two64 := by
  have h := leNat_lt (cutT l f 8)
  have h2 : (cutT l f 8).length ≤ 8 := by simp [cutT]; omega
  have h3 : (256 : Nat) ^ (cutT l f 8).length ≤ 256 ^ 8 := Nat.pow_le_pow_right (by decide) h2
  have h4 : (256 : Nat) ^ 8 = 18446744073709551616 := rfl
  unfold numT two64
  omega

/-- A cursor over a header's bytes, behind Seek. -/
theorem seek_16 {w : World} {g : Nat} {v : Value} {l : List UInt8} (hl : l.length = 64) (h : Cur w g v l 0 0) :
    Calls Tryz.prog 82 #[.pointer (some ⟨g, 0, none⟩), .int .u64 16] w fun r w' => r = .returned (.tuple #[]) ∧ Cur w' g v l 16 0 ∧ w.grownBy w' (some g) := by
  have h' := seek_cur h 16 (by unfold two64; omega) (by omega)
  have e1 : seekAt l 0 0 16 = 16 := by simp [seekAt, hl]
  have e2 : seekErr l 0 16 = 0 := by simp [seekErr, hl]
  rwa [e1, e2] at h'

set_option maxHeartbeats 1600000 in
set_option maxRecDepth 10000 in
theorem take_head {w : World} {B : Nat} {A : Option Addr} {l : List UInt8} (hr : Rd w B A l) (hB : B ≤ w.heap.size) (c : Nat) (hc : l.length ≤ c) (hM : Mg w) (h : 64 ≤ l.length) (hl : l.length ≤ 140737488355328) (hne : l.take 7 = magB) :
    Calls Tryz.prog 47 #[.slice A l.length c] w (TakeIs (takeH l) (takeE l) w) := by
  have hd : decide ((l.length : Int) < 64) = false := by simp; omega
  obtain ⟨b, o, rfl, hb, hcell⟩ := hr (by omega)
  have h7 : (l.take 7).length = 7 := by simp; omega
  have HX := Lib.hid (fun n o1 => load_arr (W := (w.alloc o1).drewN n) (ad := ⟨b, o, none⟩) h7 (fun j u hu => by
    have hj : j < 7 := by have := (List.getElem?_eq_some_iff.1 hu).1; omega
    rw [addr_add, World.cell?_drewN, ((Below.refl w.heap.size w).alloc (Nat.le_refl _) o1).cell (p := ⟨b, o + j, none⟩) (by show b < _; omega)]
    exact hcell j u (by rw [← hu, List.getElem?_take, if_pos hj])))
  have HY := Lib.hid (fun n o1 => load_arr (W := (w.alloc o1).drewN n) (ad := ⟨0, 0, none⟩) (xs := magB) rfl (fun j u hu => by
    rw [addr_add, Nat.zero_add, World.cell?_drewN]
    exact hM.alloc o1 j u hu))
  have HZ := Lib.hid (fun W => neq_magic (l.take 7) h7 W)
  have HQ := Lib.hid (show (!(l.take 7 == magB)) = false by simp [hne])
  have hat : ∀ W, (Instr.arrayAt 148 (.slice (some ⟨b, o, none⟩) l.length c)).run Tryz.prog W = .ok (.pointer (some ⟨b, o, none⟩)) W := fun W => run_arrayAt W 148 _ 7 _ l.length c Tryz.underlying148 (by omega)
  have hmf : ∀ (fn : Fn) (first cap : Array Value) (W : World), (Instr.makeFunc fn first cap).run Tryz.prog W = .ok (.func fn first cap) W := fun _ _ _ _ => rfl
  have h64 : (l.take 64).length = 64 := by simp; omega
  have hrd : ∀ n o1, Rd ((w.alloc o1).drewN n) w.heap.size (some ⟨b, o, none⟩) (l.take 64) := fun n o1 _ =>
    ⟨b, o, rfl, by omega, fun j u hu => by
      have hj : j < 64 := by have := (List.getElem?_eq_some_iff.1 hu).1; omega
      rw [World.cell?_drewN, ((Below.refl w.heap.size w).alloc (Nat.le_refl _) o1).cell (p := ⟨b, o + j, none⟩) (by show b < _; omega)]
      exact hcell j u (by rw [← hu, List.getElem?_take, if_pos hj])⟩
  have HN := Lib.hid (fun n o1 => new_any c (hrd n o1) (by simp) (by omega))
  rw [h64] at HN
  have HS := Lib.hid (fun W g v hC => seek_16 (w := W) (g := g) (v := v) h64 hC)
  have HU := Lib.hid (fun W g v hC => numbers_any (w := W) (g := g) (v := v) h64 hC)
  have HE := Lib.hid (show takeE l = if (fastT (l.take 64) && rightOf (numT (l.take 64) 16 2 : Int) (numT (l.take 64) 18 2 : Int) (numT (l.take 64) 40 8) (numT (l.take 64) 60 2 : Int) (numT (l.take 64) 62 2 : Int) l.length) = true then 0 else 21 by
    unfold takeE; rw [if_pos ⟨h, hne⟩])
  have HH := Lib.hid (show takeH l = if takeE l = 0 then hdV (numT (l.take 64) 16 2 : Int) (numT (l.take 64) 18 2 : Int) (numT (l.take 64) 40 8) (numT (l.take 64) 60 2 : Int) (numT (l.take 64) 62 2 : Int) else hdV 0 0 0 0 0 from rfl)
  have ho : numT (l.take 64) 40 8 < two64 := numT_lt8 _ _
  have HK := Lib.hid ho
  clear hcell hr hM hne h7 hrd h64 ho
  rw [hdrT] at HU
  generalize takeE l = e at *
  generalize takeH l = hv at *
  generalize fastT (l.take 64) = fast at *
  generalize numT (l.take 64) 16 2 = n0 at *
  generalize numT (l.take 64) 18 2 = n1 at *
  generalize numT (l.take 64) 40 8 = n2 at *
  generalize numT (l.take 64) 60 2 = n3 at *
  generalize numT (l.take 64) 62 2 = n4 at *
  have HR := Lib.hid (fun W => eright_any n0 n1 n2 n3 n4 l.length W HK.out (by omega))
  generalize rightOf n0 n1 n2 n3 n4 l.length = rt at *
  generalize l.length = n at *
  generalize l.take 7 = xs at *
  generalize l.take 64 = l64 at *
  have hnc : (64 : Nat) ≤ c := by omega
  clear hc hl
  go_enter Tryz.func47, Tryz.ntmps47
  go_wp2
  refine wp_region_quiet_lit (by kernel_rfl) (by kernel_rfl) ?_
  repeat (first
    | go_big_quiet_step (fail)
    | (go_big_quiet_want; refine quiet_load _ _ rfl ⟨b, o, none⟩ rfl (arrV xs) (by rintro _ ⟨k, rfl⟩; exact HX.out _ _) ?_; dsimp only [Act.put]; simp only [List.setIfInBounds_toArray, List.set_cons_succ, List.set_cons_zero]; go_big_quiet_on)
    | (go_big_quiet_want; refine quiet_load _ _ rfl ⟨0, 0, none⟩ rfl (arrV magB) (by rintro _ ⟨k, rfl⟩; exact HY.out _ _) ?_; dsimp only [Act.put]; simp only [List.setIfInBounds_toArray, List.set_cons_succ, List.set_cons_zero]; go_big_quiet_on)
    | (go_big_quiet_want; refine quiet_neq _ _ _ _ rfl _ _ rfl rfl Tryz.eqGuardType148 false (by intro W; exact (HZ.out W).trans (by rw [HQ.out])) ?_; dsimp only [Act.put]; simp only [List.setIfInBounds_toArray, List.set_cons_succ, List.set_cons_zero]; go_big_quiet_on))
  refine wpQuiet_nil ?_
  rintro _ ⟨nq, rfl⟩
  clear HX HY HZ HQ hat
  go_wp2_with fail
  refine (HN.out nq _).mono ?_
  rintro r w1 ⟨g, v, rfl, hMd, hB1⟩
  have hgs : w.heap.size < g := by have := hMd.2.1; simp at this; omega
  have Z1 : Box w1 w.heap.size 55 #[.int .i64 0, .int .i64 0, .int .u64 0, .int .i64 0, .int .i64 0] := ((Box.new w _ _).drewN nq).below hB1 (by simp)
  have Y1 : Below w.heap.size w w1 := (below_drewN ((Below.refl w.heap.size w).alloc (Nat.le_refl _) _) nq).trans (hB1.mono (by simp))
  have HC1 := Lib.hid hMd.1
  have HZ1 := Lib.hid Z1
  have HY1 := Lib.hid Y1
  clear hMd Z1 Y1 hB1
  go_wp2_with fail
  refine (HS.out _ _ _ HC1.out).mono ?_
  rintro r w2 ⟨rfl, hC2, hG2⟩
  have HC2 := Lib.hid hC2
  have HZ2 := Lib.hid (HZ1.out.grown hG2 (by simp; omega))
  have HY2 := Lib.hid (HY1.out.trans (below_of_only (B := w.heap.size) hG2 HY1.out.size (by rintro k hk; injection hk with hk; omega)))
  clear hC2 hG2 HC1 HZ1 HY1 HS HN
  go_wp2_with fail
  refine (HU.out _ _ _ HC2.out).mono ?_
  rintro r w3 ⟨rfl, hG3⟩
  have HZ3 := Lib.hid (HZ2.out.grown hG3 (by simp; omega))
  have HY3 := Lib.hid (HY2.out.trans (below_of_only (B := w.heap.size) hG3 HY2.out.size (by rintro k hk; injection hk with hk; omega)))
  have hlt : w.heap.size < w3.heap.size := HZ3.out.lt
  clear hG3 HC2 HZ2 HY2 HU hgs
  have c0 := HZ3.out.cell 0
  have c1 := HZ3.out.cell 1
  have c2 := HZ3.out.cell 2
  have c3 := HZ3.out.cell 3
  have c4 := HZ3.out.cell 4
  simp at c0 c1 c2 c3 c4
  have f0 := HZ3.out.free 0
  have f1 := HZ3.out.free 1
  have f2 := HZ3.out.free 2
  have f3 := HZ3.out.free 3
  have f4 := HZ3.out.free 4
  cases fast
  · have HE' := Lib.hid (show e = 21 by rw [HE.out]; rfl)
    have hb6 := five_box HZ3.out (.int .i64 0) (.int .i64 0) (.int .u64 0) (.int .i64 0) (.int .i64 0)
    have HZ6 := Lib.hid (hb6.below ((Below.refl _ _).alloc (Nat.le_refl _) (.cells #[.int .i64 n0, .int .i64 n1, .int .u64 n2, .int .i64 n3, .int .i64 n4] 55)) hb6.lt)
    have HY6 := Lib.hid ((five_below HY3.out (Nat.le_refl _) (.int .i64 0) (.int .i64 0) (.int .u64 0) (.int .i64 0) (.int .i64 0)).alloc (Nat.le_of_lt hb6.lt) (.cells #[.int .i64 n0, .int .i64 n1, .int .u64 n2, .int .i64 n3, .int .i64 n4] 55))
    clear HR hb6
    go_wp2
    refine ret_head Tryz.results47 HZ6.out rfl (by rfl) rfl ?_
    refine ⟨?_, HY6.out⟩
    rw [HH.out, HE'.out]
    rfl
  · go_wp2_with fail
    refine (HR.out _).mono ?_
    rintro r w4 ⟨rfl, hB4⟩
    clear c0 c1 c2 c3 c4 f0 f1 f2 f3 f4
    have HZ4 := Lib.hid ((HZ3.out.below ((Below.refl _ _).alloc (Nat.le_refl _) (.cells #[.int .i64 n0, .int .i64 n1, .int .u64 n2, .int .i64 n3, .int .i64 n4] 55)) hlt).below hB4 (by simp; omega))
    have HD4 := Lib.hid ((Box.new w3 55 #[.int .i64 n0, .int .i64 n1, .int .u64 n2, .int .i64 n3, .int .i64 n4]).below hB4 (by simp))
    have HY4 := Lib.hid ((HY3.out.alloc HY3.out.size (.cells #[.int .i64 n0, .int .i64 n1, .int .u64 n2, .int .i64 n3, .int .i64 n4] 55)).trans (hB4.mono (by simp; omega)))
    clear hB4
    have c0 := HZ4.out.cell 0
    have c1 := HZ4.out.cell 1
    have c2 := HZ4.out.cell 2
    have c3 := HZ4.out.cell 3
    have c4 := HZ4.out.cell 4
    have d0 := HD4.out.cell 0
    have d1 := HD4.out.cell 1
    have d2 := HD4.out.cell 2
    have d3 := HD4.out.cell 3
    have d4 := HD4.out.cell 4
    simp at c0 c1 c2 c3 c4 d0 d1 d2 d3 d4
    have f0 := HZ4.out.free 0
    have f1 := HZ4.out.free 1
    have f2 := HZ4.out.free 2
    have f3 := HZ4.out.free 3
    have f4 := HZ4.out.free 4
    cases rt
    · have HE' := Lib.hid (show e = 21 by rw [HE.out]; rfl)
      have HZ6 := Lib.hid (five_box HZ4.out (.int .i64 0) (.int .i64 0) (.int .u64 0) (.int .i64 0) (.int .i64 0))
      have HY6 := Lib.hid (five_below HY4.out (Nat.le_refl _) (.int .i64 0) (.int .i64 0) (.int .u64 0) (.int .i64 0) (.int .i64 0))
      go_wp2
      refine ret_head Tryz.results47 HZ6.out rfl (by rfl) rfl ?_
      refine ⟨?_, HY6.out⟩
      rw [HH.out, HE'.out]
      rfl
    · have HE' := Lib.hid (show e = 0 by rw [HE.out]; rfl)
      have HZ6 := Lib.hid (five_box HZ4.out (.int .i64 n0) (.int .i64 n1) (.int .u64 n2) (.int .i64 n3) (.int .i64 n4))
      have HY6 := Lib.hid (five_below HY4.out (Nat.le_refl _) (.int .i64 n0) (.int .i64 n1) (.int .u64 n2) (.int .i64 n3) (.int .i64 n4))
      go_wp2
      refine ret_head Tryz.results47 HZ6.out rfl (by rfl) rfl ?_
      refine ⟨?_, HY6.out⟩
      rw [HH.out, HE'.out]
      rfl

/-- Take: which header a file's bytes begin with, or why none. -/
theorem take_any {w : World} {B : Nat} {A : Option Addr} {l : List UInt8} (hr : Rd w B A l) (hB : B ≤ w.heap.size) (c : Nat) (hc : l.length ≤ c) (hM : Mg w) (hl : l.length ≤ 140737488355328) :
    Calls Tryz.prog 47 #[.slice A l.length c] w (TakeIs (takeH l) (takeE l) w) := by
  by_cases h : 64 ≤ l.length
  · by_cases h7 : l.take 7 = magB
    · exact take_head hr hB c hc hM h hl h7
    · exact take_other hr hB c hM h h7
  · exact take_short c (by omega)

end Go.Proofs.YtldmjnbmjfnfeaaGreatDoor
