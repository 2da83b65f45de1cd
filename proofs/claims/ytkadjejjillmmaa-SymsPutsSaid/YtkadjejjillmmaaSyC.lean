/-
  Package syms: the numbers of a symbol's entry (symbol).
-/

import Derived.Test.YtkadjejjillmmaaSyB
namespace Go.Proofs.Ytkadjejjillmmaa
open Go Go.RowKit

set_option maxHeartbeats 6400000 in
set_option maxRecDepth 10000 in
theorem symbol_any {w : World} {g : Nat} {v : Value} {l : List UInt8} {a : Nat} (hlen : l.length ≤ 140737488355328) (hin : a + 24 ≤ l.length) (h : Cur w g v l a 0) :
    Calls Try.prog 22 #[methV 23 g, methV 24 g, methV 25 g, methV 26 g] w fun r w' =>
      r = .returned (.tuple #[.int .u64 (numT l a 4 : Int), .agg #[.string ⟨#[]⟩, .int .i64 ((numT l (a + 4) 1 / 16 : Nat) : Int), .int .i64 ((numT l (a + 4) 1 % 16 : Nat) : Int), .int .i64 (numT l (a + 6) 2 : Int), .int .u64 (numT l (a + 8) 8 : Int), .int .u64 (numT l (a + 16) 8 : Int)]]) ∧
      Cur w' g v l (a + 24) 0 ∧ w.grownBy w' (some g) := by
  have hne : g ≠ w.heap.size := by have := h.1.lt; omega
  have hs : w.heap.size ≤ w.heap.size := Nat.le_refl _
  have hT : 5 ≠ 51 := by decide
  have HS0 := Lib.hid (show StY 51 w (w.alloc (.cells #[.string ⟨#[]⟩, .int .i64 0, .int .i64 0, .int .i64 0, .int .u64 0, .int .u64 0] 51)) g v l a w.heap.size #[.string ⟨#[]⟩, .int .i64 0, .int .i64 0, .int .i64 0, .int .u64 0, .int .u64 0] from
    ⟨h.below ((Below.refl _ _).alloc (Nat.le_refl _) _), Box.new _ _ _, only_below ((Below.refl _ _).alloc (Nat.le_refl _) _) _⟩)
  have C0 := Lib.hid (fun W cs (hS : StY 51 w W g v l a w.heap.size cs) => hS.u32 hne hlen (by omega))
  have C1 := Lib.hid (fun W cs (hS : StY 51 w W g v l (a + 4) w.heap.size cs) => hS.u8 hne hlen (by omega))
  have C2 := Lib.hid (fun W cs (hS : StY 51 w W g v l (a + 4 + 1) w.heap.size cs) => hS.u8 hne hlen (by omega))
  have C3 := Lib.hid (fun W cs (hS : StY 51 w W g v l (a + 6) w.heap.size cs) => hS.u16 hne hlen (by omega))
  have C4 := Lib.hid (fun W cs (hS : StY 51 w W g v l (a + 8) w.heap.size cs) => hS.u64 hne hlen (by omega))
  have C5 := Lib.hid (fun W cs (hS : StY 51 w W g v l (a + 16) w.heap.size cs) => hS.u64 hne hlen (by omega))
  have N1 := num1 l (a + 4)
  have N3 := num2 l (a + 6)
  generalize numT l a 4 = n0 at *
  generalize numT l (a + 4) 1 = n1 at *
  generalize numT l (a + 4 + 1) 1 = n2 at *
  generalize numT l (a + 6) 2 = n3 at *
  generalize numT l (a + 8) 8 = n4 at *
  generalize numT l (a + 16) 8 = n5 at *
  have e1 := shr4 n1 N1
  have e2 : (n1 : Int) / 16 = ((n1 / 16 : Nat) : Int) := by omega
  have e3 : IntKind.i64.wrap ((n1 / 16 : Nat) : Int) = ((n1 / 16 : Nat) : Int) := by rw [IntWalk.i64_in _ (by omega)]
  have e4 : IntKind.i64.wrap ((n1 % 16 : Nat) : Int) = ((n1 % 16 : Nat) : Int) := by rw [IntWalk.i64_in _ (by omega)]
  have e5 : IntKind.i64.wrap (n3 : Int) = (n3 : Int) := by rw [IntWalk.i64_in _ (by omega)]
  generalize n1 / 16 = p1 at *
  generalize n1 % 16 = p2 at *
  clear h N1 N3 hlen hin
  have HN := Lib.hid hne
  clear hne
  go_enter Try.func22, Try.ntmps22
  go_wp2_with fail
  refine (C0.out _ _ HS0.out).mono ?_
  rintro r w1 ⟨rfl, h⟩
  have HS1 := Lib.hid h
  clear h C0 HS0
  go_wp2_with fail
  refine (C1.out _ _ HS1.out).mono ?_
  rintro r w2 ⟨rfl, h⟩
  have c0 := h.2.1.cell 1
  have fr0 := h.2.1.free 1
  have c1 := h.2.1.cell 2
  have fr1 := h.2.1.free 2
  simp at c0 c1
  have HS2 := Lib.hid (show StY 51 w _ g v l (a + 4 + 1) w.heap.size #[.string ⟨#[]⟩, .int .i64 (p1 : Int), .int .i64 (p2 : Int), .int .i64 0, .int .u64 0, .int .u64 0] from (h.set hT HN.out hs 1 (.int .i64 (p1 : Int))).set hT HN.out hs 2 (.int .i64 (p2 : Int)))
  clear h C1 HS1
  go_wp2_with fail
  refine (C2.out _ _ HS2.out).mono ?_
  rintro r w3 ⟨rfl, h⟩
  have HS3 := Lib.hid (show StY 51 w w3 g v l (a + 6) w.heap.size _ from h)
  clear h C2 HS2 c0 c1 fr0 fr1
  go_wp2_with fail
  refine (C3.out _ _ HS3.out).mono ?_
  rintro r w4 ⟨rfl, h⟩
  have c0 := h.2.1.cell 3
  have fr0 := h.2.1.free 3
  simp at c0
  have HS4 := Lib.hid (show StY 51 w _ g v l (a + 8) w.heap.size #[.string ⟨#[]⟩, .int .i64 (p1 : Int), .int .i64 (p2 : Int), .int .i64 (n3 : Int), .int .u64 0, .int .u64 0] from h.set hT HN.out hs 3 (.int .i64 (n3 : Int)))
  clear h C3 HS3
  go_wp2_with fail
  refine (C4.out _ _ HS4.out).mono ?_
  rintro r w5 ⟨rfl, h⟩
  have c1 := h.2.1.cell 4
  have fr1 := h.2.1.free 4
  simp at c1
  have HS5 := Lib.hid (show StY 51 w _ g v l (a + 16) w.heap.size #[.string ⟨#[]⟩, .int .i64 (p1 : Int), .int .i64 (p2 : Int), .int .i64 (n3 : Int), .int .u64 (n4 : Int), .int .u64 0] from h.set hT HN.out hs 4 (.int .u64 (n4 : Int)))
  clear h C4 HS4 c0 fr0
  go_wp2_with fail
  refine (C5.out _ _ HS5.out).mono ?_
  rintro r w6 ⟨rfl, h⟩
  have c2 := h.2.1.cell 5
  have fr2 := h.2.1.free 5
  simp at c2
  have h6 := (show StY 51 w _ g v l (a + 24) w.heap.size #[.string ⟨#[]⟩, .int .i64 (p1 : Int), .int .i64 (p2 : Int), .int .i64 (n3 : Int), .int .u64 (n4 : Int), .int .u64 (n5 : Int)] from h.set hT HN.out hs 5 (.int .u64 (n5 : Int)))
  have HS6 := Lib.hid h6
  clear h C5 HS5 c1 fr1
  go_wp2_with fail
  clear c2 fr2
  generalize w6.setCell ⟨w.heap.size, 5, none⟩ (.int .u64 (n5 : Int)) = w7 at *
  obtain ⟨k0, k1, k2, k3, k4, k5⟩ := six_cells h6.2.1
  obtain ⟨f0, f1, f2, f3, f4, f5⟩ := six_free h6.2.1
  clear h6
  go_region
  go_wp2_with fail
  have HB := Lib.hid ((six_box (show Box w7 w.heap.size 51 _ from HS6.out.2.1) rfl (.string ⟨#[]⟩) (.int .i64 (p1 : Int)) (.int .i64 (p2 : Int)) (.int .i64 (n3 : Int)) (.int .u64 (n4 : Int)) (.int .u64 (n5 : Int))).drew)
  have HG := Lib.hid (only_drewN (six_only w7 w.heap.size (.string ⟨#[]⟩) (.int .i64 (p1 : Int)) (.int .i64 (p2 : Int)) (.int .i64 (n3 : Int)) (.int .u64 (n4 : Int)) (.int .u64 (n5 : Int))) 1)
  have HC := Lib.hid (HS6.out.1.grown HG.out (by simpa using HN.out) (.inr (own_other HS6.out.1.2.1 HS6.out.2.1 hT)))
  have HO := Lib.hid (only_trans HS6.out.2.2 HG.out (.inr fun x hx => by injection hx with hx; omega))
  clear HG HS6 k0 k1 k2 k3 k4 k5 f0 f1 f2 f3 f4 f5
  refine ret_numbox Try.underlying51 Try.results22 HB.out (by kernel_rfl) (by rfl) rfl ?_
  exact ⟨rfl, HC.out, HO.out⟩

end Go.Proofs.Ytkadjejjillmmaa
