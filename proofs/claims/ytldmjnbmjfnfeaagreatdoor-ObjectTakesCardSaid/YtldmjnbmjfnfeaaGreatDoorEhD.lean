/-
  A header's numbers, read by a cursor's methods that are handed on as values.
-/
import Derived.Test.YtldmjnbmjfnfeaaGreatDoorPut
import Derived.Test.YtldmjnbmjfnfeaaGreatDoorEhC
import Derived.Test.YtldmjnbmjfnfeaaGreatDoorEhA
import Derived.Laws.ResultCell
namespace Go.Proofs.YtldmjnbmjfnfeaaGreatDoor
open Go Go.RowKit

/-- A cursor's method over a cursor, as a value. -/
abbrev methV (f g : Nat) : Value := .func (.func f) #[.pointer (some ⟨g, 0, none⟩)] #[]

theorem got_in {l : List UInt8} {a n : Nat} (h : a + n ≤ l.length) : nextGot l a 0 n = cutT l a n ∧ nextAt l a 0 n = a + n ∧ nextErr l a 0 n = 0 := by
  have h' : n ≤ l.length - a := by omega
  simp [nextGot, nextAt, nextErr, cutT, h']

theorem h16 {w : World} {g : Nat} {v : Value} {l : List UInt8} (a : Nat) (hl : l.length = 64) (ha : a + 2 ≤ 64) (h : Cur w g v l a 0) :
    Calls Tryz.prog 84 #[.pointer (some ⟨g, 0, none⟩)] w fun r w' => r = .returned (.int .u64 (numT l a 2 : Int)) ∧ Cur w' g v l (a + 2) 0 ∧ w.grownBy w' (some g) := by
  have := u16_cur h (by omega)
  obtain ⟨e1, e2, e3⟩ := got_in (l := l) (a := a) (n := 2) (by omega)
  rwa [e1, e2, e3] at this
theorem h32 {w : World} {g : Nat} {v : Value} {l : List UInt8} (a : Nat) (hl : l.length = 64) (ha : a + 4 ≤ 64) (h : Cur w g v l a 0) :
    Calls Tryz.prog 85 #[.pointer (some ⟨g, 0, none⟩)] w fun r w' => r = .returned (.int .u64 (numT l a 4 : Int)) ∧ Cur w' g v l (a + 4) 0 ∧ w.grownBy w' (some g) := by
  have := u32_cur h (by omega)
  obtain ⟨e1, e2, e3⟩ := got_in (l := l) (a := a) (n := 4) (by omega)
  rwa [e1, e2, e3] at this
theorem h64 {w : World} {g : Nat} {v : Value} {l : List UInt8} (a : Nat) (hl : l.length = 64) (ha : a + 8 ≤ 64) (h : Cur w g v l a 0) :
    Calls Tryz.prog 86 #[.pointer (some ⟨g, 0, none⟩)] w fun r w' => r = .returned (.int .u64 (numT l a 8 : Int)) ∧ Cur w' g v l (a + 8) 0 ∧ w.grownBy w' (some g) := by
  have := u64_cur h (by omega)
  obtain ⟨e1, e2, e3⟩ := got_in (l := l) (a := a) (n := 8) (by omega)
  rwa [e1, e2, e3] at this

/-- A cursor, a header in memory beside it, and what has not turned since w0. -/
def St (w0 w : World) (g : Nat) (v : Value) (l : List UInt8) (a : Nat) (H : Nat) (cs : Array Value) : Prop :=
  Cur w g v l a 0 ∧ Box w H 55 cs ∧ w0.grownBy w (some g)

section
variable {w0 w w' : World} {g : Nat} {v : Value} {l : List UInt8} {a b H : Nat} {cs : Array Value}
theorem St.call (h : St w0 w g v l a H cs) (hne : g ≠ H) (hC : Cur w' g v l b 0) (hG : w.grownBy w' (some g)) : St w0 w' g v l b H cs :=
  ⟨hC, h.2.1.grown hG (by simpa using fun e => hne e.symm), h.2.2.trans hG⟩
theorem St.set (h : St w0 w g v l a H cs) (hne : g ≠ H) (hH : w0.heap.size ≤ H) (i : Nat) (u : Value) : St w0 (w.setCell ⟨H, i, none⟩ u) g v l a H (cs.setIfInBounds i u) :=
  have G : w.grownBy (w.setCell ⟨H, i, none⟩ u) (some H) := only_set (only_refl w (some H)) i u
  ⟨h.1.grown G (by simpa using hne) (.inr (own_other h.1.2.1 h.2.1 (by decide))), h.2.1.set i u, only_trans h.2.2 G (.inr fun x hx => by injection hx with hx; omega)⟩

theorem St.u16 (h : St w0 w g v l a H cs) (hne : g ≠ H) (hl : l.length = 64) (ha : a + 2 ≤ 64) :
    Calls Tryz.prog 84 #[.pointer (some ⟨g, 0, none⟩)] w fun r w' => r = .returned (.int .u64 (numT l a 2 : Int)) ∧ St w0 w' g v l (a + 2) H cs :=
  (h16 a hl ha h.1).mono fun _ _ ⟨h1, h2, h3⟩ => ⟨h1, h.call hne h2 h3⟩
theorem St.u32 (h : St w0 w g v l a H cs) (hne : g ≠ H) (hl : l.length = 64) (ha : a + 4 ≤ 64) :
    Calls Tryz.prog 85 #[.pointer (some ⟨g, 0, none⟩)] w fun r w' => r = .returned (.int .u64 (numT l a 4 : Int)) ∧ St w0 w' g v l (a + 4) H cs :=
  (h32 a hl ha h.1).mono fun _ _ ⟨h1, h2, h3⟩ => ⟨h1, h.call hne h2 h3⟩
theorem St.u64 (h : St w0 w g v l a H cs) (hne : g ≠ H) (hl : l.length = 64) (ha : a + 8 ≤ 64) :
    Calls Tryz.prog 86 #[.pointer (some ⟨g, 0, none⟩)] w fun r w' => r = .returned (.int .u64 (numT l a 8 : Int)) ∧ St w0 w' g v l (a + 8) H cs :=
  (h64 a hl ha h.1).mono fun _ _ ⟨h1, h2, h3⟩ => ⟨h1, h.call hne h2 h3⟩
end

theorem numT_lt2 (l : List UInt8) (f : Nat) : (numT l f 2 : Int) ≤ 65535 := by
  have h := leNat_lt (cutT l f 2)
  have h2 : (cutT l f 2).length ≤ 2 := by simp [cutT]; omega
  have h3 : (256 : Nat) ^ (cutT l f 2).length ≤ 256 ^ 2 := Nat.pow_le_pow_right (by decide) h2
  have h4 : (256 : Nat) ^ 2 = 65536 := rfl
  unfold numT
  omega

/-- Whether the numbers that stand fast are what they have to be. -/
def fastT (l : List UInt8) : Bool := decide (numT l 20 4 = 1) && decide (numT l 52 2 = 64) && decide (numT l 56 2 = 0) && decide (numT l 58 2 = 64)
/-- The header that some bytes are. -/
def hdrT (l : List UInt8) : Value := hdV (numT l 16 2 : Int) (numT l 18 2 : Int) (numT l 40 8) (numT l 60 2 : Int) (numT l 62 2 : Int)
def NumbersAre (w : World) (g : Nat) (x : Value) (b : Bool) (r : Ending) (w' : World) : Prop :=
  r = .returned (.tuple #[x, .bool b]) ∧ w.grownBy w' (some g)

/-- Behind a return: a struct in its cell, and a value beside it. -/
theorem ret_head {fn : Func} {p u : Tmp} (hres : fn.results = #[.cell p 55, .tmp u]) {R : Ending → World → Prop} {a : Act} {W : World} {H : Nat} {cs : Array Value} (hB : Box W H 55 cs) (hcs : cs.size = 5)
    (hp : a.tmps.getD p undef = .pointer (some ⟨H, 0, none⟩)) (hd : a.defers = []) (h : R (.returned (.tuple #[.agg cs, a.tmps.getD u undef])) W) : bodyPost Tryz.prog fn R .ret a W := by
  refine bodyPost_ret (v := .tuple #[.agg cs, a.tmps.getD u undef]) ?_ hd h
  have hl := run_loadVar_row (P := Tryz.prog) W H 55 55 cs (0, 0) _ hB Tryz.underlying55 rfl (by rw [hcs]; kernel_rfl)
  rw [results_cell_tmp hres, hp]
  simp [asAddr, hl, Result.andThen]

theorem fast_ways {f : Bool} {a b c d : Nat} (h : f = (decide (a = 1) && decide (b = 64) && decide (c = 0) && decide (d = 64))) :
    (f = true ∧ ((a : Int) == 1) = true ∧ ((b : Int) == 64) = true ∧ ((c : Int) == 0) = true ∧ ((d : Int) == 64) = true) ∨ (f = false ∧ ((a : Int) == 1) = false) ∨
    (f = false ∧ ((a : Int) == 1) = true ∧ ((b : Int) == 64) = false) ∨ (f = false ∧ ((a : Int) == 1) = true ∧ ((b : Int) == 64) = true ∧ ((c : Int) == 0) = false) ∨
    (f = false ∧ ((a : Int) == 1) = true ∧ ((b : Int) == 64) = true ∧ ((c : Int) == 0) = true ∧ ((d : Int) == 64) = false) := by
  subst h
  by_cases h1 : a = 1
  · by_cases h2 : b = 64
    · by_cases h3 : c = 0
      · by_cases h4 : d = 64
        · simp [h1, h2, h3, h4]
        · have : ((d : Int) == 64) = false := by simp; omega
          simp [h1, h2, h3, h4, this]
      · have : ((c : Int) == 0) = false := by simp; omega
        simp [h1, h2, h3, this]
    · have : ((b : Int) == 64) = false := by simp; omega
      simp [h1, h2, this]
  · have : ((a : Int) == 1) = false := by simp; omega
    simp [h1, this]

set_option maxHeartbeats 1600000 in
set_option maxRecDepth 10000 in
theorem numbers_any {w : World} {g : Nat} {v : Value} {l : List UInt8} (hl : l.length = 64) (h : Cur w g v l 16 0) :
    Calls Tryz.prog 83 #[methV 84 g, methV 85 g, methV 86 g] w (NumbersAre w g (hdrT l) (fastT l)) := by
  have hne : g ≠ w.heap.size := by have := h.1.lt; omega
  have hs : w.heap.size ≤ w.heap.size := Nat.le_refl _
  have HS0 := Lib.hid (show St w (w.alloc (.cells #[.int .i64 0, .int .i64 0, .int .u64 0, .int .i64 0, .int .i64 0] 55)) g v l 16 w.heap.size #[.int .i64 0, .int .i64 0, .int .u64 0, .int .i64 0, .int .i64 0] from
    ⟨h.below ((Below.refl _ _).alloc (Nat.le_refl _) _), Box.new _ _ _, only_below ((Below.refl _ _).alloc (Nat.le_refl _) _) _⟩)
  have C0 := Lib.hid (fun W cs (hS : St w W g v l 16 w.heap.size cs) => hS.u16 hne hl (by decide))
  have C1 := Lib.hid (fun W cs (hS : St w W g v l 18 w.heap.size cs) => hS.u16 hne hl (by decide))
  have C2 := Lib.hid (fun W cs (hS : St w W g v l 20 w.heap.size cs) => hS.u32 hne hl (by decide))
  have C3 := Lib.hid (fun W cs (hS : St w W g v l 24 w.heap.size cs) => hS.u64 hne hl (by decide))
  have C4 := Lib.hid (fun W cs (hS : St w W g v l 32 w.heap.size cs) => hS.u64 hne hl (by decide))
  have C5 := Lib.hid (fun W cs (hS : St w W g v l 40 w.heap.size cs) => hS.u64 hne hl (by decide))
  have C6 := Lib.hid (fun W cs (hS : St w W g v l 48 w.heap.size cs) => hS.u32 hne hl (by decide))
  have C7 := Lib.hid (fun W cs (hS : St w W g v l 52 w.heap.size cs) => hS.u16 hne hl (by decide))
  have C8 := Lib.hid (fun W cs (hS : St w W g v l 54 w.heap.size cs) => hS.u16 hne hl (by decide))
  have C9 := Lib.hid (fun W cs (hS : St w W g v l 56 w.heap.size cs) => hS.u16 hne hl (by decide))
  have C10 := Lib.hid (fun W cs (hS : St w W g v l 58 w.heap.size cs) => hS.u16 hne hl (by decide))
  have C11 := Lib.hid (fun W cs (hS : St w W g v l 60 w.heap.size cs) => hS.u16 hne hl (by decide))
  have C12 := Lib.hid (fun W cs (hS : St w W g v l 62 w.heap.size cs) => hS.u16 hne hl (by decide))
  have N0 := numT_lt2 l 16
  have N1 := numT_lt2 l 18
  have N11 := numT_lt2 l 60
  have N12 := numT_lt2 l 62
  have HF := Lib.hid (show fastT l = (decide (numT l 20 4 = 1) && decide (numT l 52 2 = 64) && decide (numT l 56 2 = 0) && decide (numT l 58 2 = 64)) from rfl)
  generalize fastT l = fast at *
  have HX := Lib.hid (show hdrT l = hdV (numT l 16 2 : Int) (numT l 18 2 : Int) (numT l 40 8) (numT l 60 2 : Int) (numT l 62 2 : Int) from rfl)
  generalize hdrT l = head at *
  generalize numT l 16 2 = n0 at *
  generalize numT l 18 2 = n1 at *
  generalize numT l 20 4 = n2 at *
  generalize numT l 24 8 = n3 at *
  generalize numT l 32 8 = n4 at *
  generalize numT l 40 8 = n5 at *
  generalize numT l 48 4 = n6 at *
  generalize numT l 52 2 = n7 at *
  generalize numT l 54 2 = n8 at *
  generalize numT l 56 2 = n9 at *
  generalize numT l 58 2 = n10 at *
  generalize numT l 60 2 = n11 at *
  generalize numT l 62 2 = n12 at *
  clear h hl
  have HN := Lib.hid hne
  have HC := Lib.hid (fast_ways HF.out)
  clear hne HF
  go_enter Tryz.func83, Tryz.ntmps83
  go_wp2_with fail
  refine (C0.out _ _ HS0.out).mono ?_
  rintro r w1 ⟨rfl, h⟩
  have c0 := h.2.1.cell 0
  have fr0 := h.2.1.free 0
  simp at c0
  have HS1 := Lib.hid (show St w _ g v l 18 w.heap.size #[.int .i64 (n0 : Int), .int .i64 0, .int .u64 0, .int .i64 0, .int .i64 0] from h.set HN.out hs 0 (.int .i64 (n0 : Int)))
  clear h C0 HS0
  go_wp2_with fail
  refine (C1.out _ _ HS1.out).mono ?_
  rintro r w2 ⟨rfl, h⟩
  have c1 := h.2.1.cell 1
  have fr1 := h.2.1.free 1
  simp at c1
  have HS2 := Lib.hid (show St w _ g v l 20 w.heap.size #[.int .i64 (n0 : Int), .int .i64 (n1 : Int), .int .u64 0, .int .i64 0, .int .i64 0] from h.set HN.out hs 1 (.int .i64 (n1 : Int)))
  clear h C1 HS1 c0 fr0
  go_wp2_with fail
  refine (C2.out _ _ HS2.out).mono ?_
  rintro r w3 ⟨rfl, h⟩
  have HS3 := Lib.hid h
  clear h C2 HS2 c1 fr1
  go_wp2_with fail
  refine (C3.out _ _ HS3.out).mono ?_
  rintro r w4 ⟨rfl, h⟩
  have HS4 := Lib.hid h
  clear h C3 HS3
  go_wp2_with fail
  refine (C4.out _ _ HS4.out).mono ?_
  rintro r w5 ⟨rfl, h⟩
  have HS5 := Lib.hid h
  clear h C4 HS4
  go_wp2_with fail
  refine (C5.out _ _ HS5.out).mono ?_
  rintro r w6 ⟨rfl, h⟩
  have c5 := h.2.1.cell 2
  have fr5 := h.2.1.free 2
  simp at c5
  have HS6 := Lib.hid (show St w _ g v l 48 w.heap.size #[.int .i64 (n0 : Int), .int .i64 (n1 : Int), .int .u64 (n5 : Int), .int .i64 0, .int .i64 0] from h.set HN.out hs 2 (.int .u64 (n5 : Int)))
  clear h C5 HS5
  go_wp2_with fail
  refine (C6.out _ _ HS6.out).mono ?_
  rintro r w7 ⟨rfl, h⟩
  have HS7 := Lib.hid h
  clear h C6 HS6 c5 fr5
  go_wp2_with fail
  refine (C7.out _ _ HS7.out).mono ?_
  rintro r w8 ⟨rfl, h⟩
  have HS8 := Lib.hid h
  clear h C7 HS7
  go_wp2_with fail
  refine (C8.out _ _ HS8.out).mono ?_
  rintro r w9 ⟨rfl, h⟩
  have HS9 := Lib.hid h
  clear h C8 HS8
  go_wp2_with fail
  refine (C9.out _ _ HS9.out).mono ?_
  rintro r w10 ⟨rfl, h⟩
  have HS10 := Lib.hid h
  clear h C9 HS9
  go_wp2_with fail
  refine (C10.out _ _ HS10.out).mono ?_
  rintro r w11 ⟨rfl, h⟩
  have HS11 := Lib.hid h
  clear h C10 HS10
  rcases HC.out with ⟨rfl, b0, b1, b2, b3⟩ | ⟨rfl, b0⟩ | ⟨rfl, b0, b1⟩ | ⟨rfl, b0, b1, b2⟩ | ⟨rfl, b0, b1, b2, b3⟩
  all_goals
    clear HC
    go_wp2_with fail
    refine (C11.out _ _ HS11.out).mono ?_
    rintro r w12 ⟨rfl, h⟩
    have c11 := h.2.1.cell 3
    have fr11 := h.2.1.free 3
    simp at c11
    have HS12 := Lib.hid (show St w _ g v l 62 w.heap.size #[.int .i64 (n0 : Int), .int .i64 (n1 : Int), .int .u64 (n5 : Int), .int .i64 (n11 : Int), .int .i64 0] from h.set HN.out hs 3 (.int .i64 (n11 : Int)))
    clear h C11 HS11
    go_wp2_with fail
    refine (C12.out _ _ HS12.out).mono ?_
    rintro r w13 ⟨rfl, h⟩
    have c12 := h.2.1.cell 4
    have fr12 := h.2.1.free 4
    simp at c12
    have HS13 := Lib.hid (show St w _ g v l 64 w.heap.size #[.int .i64 (n0 : Int), .int .i64 (n1 : Int), .int .u64 (n5 : Int), .int .i64 (n11 : Int), .int .i64 (n12 : Int)] from h.set HN.out hs 4 (.int .i64 (n12 : Int)))
    have q0 := h.2.1.cell 0
    simp at q0
    have p0 := h.2.1.free 0
    have q1 := h.2.1.cell 1
    simp at q1
    have p1 := h.2.1.free 1
    have q2 := h.2.1.cell 2
    simp at q2
    have p2 := h.2.1.free 2
    have q3 := h.2.1.cell 3
    simp at q3
    have p3 := h.2.1.free 3
    clear h C12 HS12 c11 fr11
    go_wp2_with fail
    have HS14 := (((((HS13.out.set HN.out hs 0 (.int .i64 (n0 : Int))).set HN.out hs 1 (.int .i64 (n1 : Int))).set HN.out hs 2 (.int .u64 (n5 : Int))).set HN.out hs 3 (.int .i64 (n11 : Int))).set HN.out hs 4 (.int .i64 (n12 : Int)))
    have HB : Box _ w.heap.size 55 #[.int .i64 (n0 : Int), .int .i64 (n1 : Int), .int .u64 (n5 : Int), .int .i64 (n11 : Int), .int .i64 (n12 : Int)] := HS14.2.1
    refine ret_head Tryz.results83 HB rfl (by rfl) rfl ?_
    refine ⟨?_, HS14.2.2⟩
    rw [HX.out]
    rfl

end Go.Proofs.YtldmjnbmjfnfeaaGreatDoor
