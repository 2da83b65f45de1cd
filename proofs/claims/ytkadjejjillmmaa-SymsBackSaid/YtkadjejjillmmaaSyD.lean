/-
  Package syms: Take.
-/

import Derived.Test.YtkadjejjillmmaaSyB
import Derived.Test.YtkadjejjillmmaaCsA
import Derived.Test.YtkadjejjillmmaaCurD
import Derived.Test.YtkadjejjillmmaaSeG
namespace Go.Proofs.Ytkadjejjillmmaa
open Go Go.RowKit

set_option maxHeartbeats 6400000 in
set_option maxRecDepth 10000 in
theorem symbol_any {w : World} {g : Nat} {v : Value} {l : List UInt8} {a : Nat} (hlen : l.length ≤ 140737488355328) (hin : a + 24 ≤ l.length) (h : Cur w g v l a 0) :
    Calls Try.prog 22 #[methV 23 g, methV 24 g, methV 25 g, methV 26 g] w fun r w' =>
      r = .returned (.tuple #[.int .u64 (numT l a 4 : Int), .agg #[.string ⟨#[]⟩, .int .i64 ((numT l (a + 4) 1 / 16 : Nat) : Int), .int .i64 ((numT l (a + 4) 1 % 16 : Nat) : Int), .int .i64 (numT l (a + 6) 2 : Int), .int .u64 (numT l (a + 8) 8 : Int), .int .u64 (numT l (a + 16) 8 : Int)]]) ∧
      Cur w' g v l (a + 24) 0 ∧ w.grownBy w' (some g) := by
  have hne : g ≠ w.heap.size := by have := h.1.lt; omega
  have hs : w.heap.size ≤ w.heap.size := Nat.le_refl _
  have hT : 5 ≠ 51 := by decide
  have HS0 := Lib.hid (show StY 51 w (w.alloc (.cells #[.string ⟨#[]⟩, .int .i64 0, .int .i64 0, .int .i64 0, .int .u64 0, .int .u64 0] 51)) g v l a w.heap.size #[.string ⟨#[]⟩, .int .i64 0, .int .i64 0, .int .i64 0, .int .u64 0, .int .u64 0] from
    ⟨h.below ((Below.refl _ _).alloc (Nat.le_refl _) _), Box.new _ _ _, only_below ((Below.refl _ _).alloc (Nat.le_refl _) _) _⟩)
  have C0 := Lib.hid (fun W cs (hS : StY 51 w W g v l a w.heap.size cs) => hS.u32 hne hlen (by omega))
  have C1 := Lib.hid (fun W cs (hS : StY 51 w W g v l (a + 4) w.heap.size cs) => hS.u8 hne hlen (by omega))
  have C2 := Lib.hid (fun W cs (hS : StY 51 w W g v l (a + 4 + 1) w.heap.size cs) => hS.u8 hne hlen (by omega))
  have C3 := Lib.hid (fun W cs (hS : StY 51 w W g v l (a + 6) w.heap.size cs) => hS.u16 hne hlen (by omega))
  have C4 := Lib.hid (fun W cs (hS : StY 51 w W g v l (a + 8) w.heap.size cs) => hS.u64 hne hlen (by omega))
  have C5 := Lib.hid (fun W cs (hS : StY 51 w W g v l (a + 16) w.heap.size cs) => hS.u64 hne hlen (by omega))
  have N1 := num1 l (a + 4)
  have N3 := num2 l (a + 6)
  generalize numT l a 4 = n0 at *
  generalize numT l (a + 4) 1 = n1 at *
  generalize numT l (a + 4 + 1) 1 = n2 at *
  generalize numT l (a + 6) 2 = n3 at *
  generalize numT l (a + 8) 8 = n4 at *
  generalize numT l (a + 16) 8 = n5 at *
  have e1 := shr4 n1 N1
  have e2 : (n1 : Int) / 16 = ((n1 / 16 : Nat) : Int) := by omega
  have e3 : IntKind.i64.wrap ((n1 / 16 : Nat) : Int) = ((n1 / 16 : Nat) : Int) := by rw [IntWalk.i64_in _ (by omega)]
  have e4 : IntKind.i64.wrap ((n1 % 16 : Nat) : Int) = ((n1 % 16 : Nat) : Int) := by rw [IntWalk.i64_in _ (by omega)]
  have e5 : IntKind.i64.wrap (n3 : Int) = (n3 : Int) := by rw [IntWalk.i64_in _ (by omega)]
  generalize n1 / 16 = p1 at *
  generalize n1 % 16 = p2 at *
  clear h N1 N3 hlen hin
  have HN := Lib.hid hne
  clear hne
  go_enter Try.func22, Try.ntmps22
  go_wp2_with fail
  refine (C0.out _ _ HS0.out).mono ?_
  rintro r w1 ⟨rfl, h⟩
  have HS1 := Lib.hid h
  clear h C0 HS0
  go_wp2_with fail
  refine (C1.out _ _ HS1.out).mono ?_
  rintro r w2 ⟨rfl, h⟩
  have c0 := h.2.1.cell 1
  have fr0 := h.2.1.free 1
  have c1 := h.2.1.cell 2
  have fr1 := h.2.1.free 2
  simp at c0 c1
  have HS2 := Lib.hid (show StY 51 w _ g v l (a + 4 + 1) w.heap.size #[.string ⟨#[]⟩, .int .i64 (p1 : Int), .int .i64 (p2 : Int), .int .i64 0, .int .u64 0, .int .u64 0] from (h.set hT HN.out hs 1 (.int .i64 (p1 : Int))).set hT HN.out hs 2 (.int .i64 (p2 : Int)))
  clear h C1 HS1
  go_wp2_with fail
  refine (C2.out _ _ HS2.out).mono ?_
  rintro r w3 ⟨rfl, h⟩
  have HS3 := Lib.hid (show StY 51 w w3 g v l (a + 6) w.heap.size _ from h)
  clear h C2 HS2 c0 c1 fr0 fr1
  go_wp2_with fail
  refine (C3.out _ _ HS3.out).mono ?_
  rintro r w4 ⟨rfl, h⟩
  have c0 := h.2.1.cell 3
  have fr0 := h.2.1.free 3
  simp at c0
  have HS4 := Lib.hid (show StY 51 w _ g v l (a + 8) w.heap.size #[.string ⟨#[]⟩, .int .i64 (p1 : Int), .int .i64 (p2 : Int), .int .i64 (n3 : Int), .int .u64 0, .int .u64 0] from h.set hT HN.out hs 3 (.int .i64 (n3 : Int)))
  clear h C3 HS3
  go_wp2_with fail
  refine (C4.out _ _ HS4.out).mono ?_
  rintro r w5 ⟨rfl, h⟩
  have c1 := h.2.1.cell 4
  have fr1 := h.2.1.free 4
  simp at c1
  have HS5 := Lib.hid (show StY 51 w _ g v l (a + 16) w.heap.size #[.string ⟨#[]⟩, .int .i64 (p1 : Int), .int .i64 (p2 : Int), .int .i64 (n3 : Int), .int .u64 (n4 : Int), .int .u64 0] from h.set hT HN.out hs 4 (.int .u64 (n4 : Int)))
  clear h C4 HS4 c0 fr0
  go_wp2_with fail
  refine (C5.out _ _ HS5.out).mono ?_
  rintro r w6 ⟨rfl, h⟩
  have c2 := h.2.1.cell 5
  have fr2 := h.2.1.free 5
  simp at c2
  have h6 := (show StY 51 w _ g v l (a + 24) w.heap.size #[.string ⟨#[]⟩, .int .i64 (p1 : Int), .int .i64 (p2 : Int), .int .i64 (n3 : Int), .int .u64 (n4 : Int), .int .u64 (n5 : Int)] from h.set hT HN.out hs 5 (.int .u64 (n5 : Int)))
  have HS6 := Lib.hid h6
  clear h C5 HS5 c1 fr1
  go_wp2_with fail
  clear c2 fr2
  generalize w6.setCell ⟨w.heap.size, 5, none⟩ (.int .u64 (n5 : Int)) = w7 at *
  obtain ⟨k0, k1, k2, k3, k4, k5⟩ := six_cells h6.2.1
  obtain ⟨f0, f1, f2, f3, f4, f5⟩ := six_free h6.2.1
  clear h6
  go_region
  go_wp2_with fail
  have HB := Lib.hid ((six_box (show Box w7 w.heap.size 51 _ from HS6.out.2.1) rfl (.string ⟨#[]⟩) (.int .i64 (p1 : Int)) (.int .i64 (p2 : Int)) (.int .i64 (n3 : Int)) (.int .u64 (n4 : Int)) (.int .u64 (n5 : Int))).drew)
  have HG := Lib.hid (only_drewN (six_only w7 w.heap.size (.string ⟨#[]⟩) (.int .i64 (p1 : Int)) (.int .i64 (p2 : Int)) (.int .i64 (n3 : Int)) (.int .u64 (n4 : Int)) (.int .u64 (n5 : Int))) 1)
  have HC := Lib.hid (HS6.out.1.grown HG.out (by simpa using HN.out) (.inr (own_other HS6.out.1.2.1 HS6.out.2.1 hT)))
  have HO := Lib.hid (only_trans HS6.out.2.2 HG.out (.inr fun x hx => by injection hx with hx; omega))
  clear HG HS6 k0 k1 k2 k3 k4 k5 f0 f1 f2 f3 f4 f5
  refine ret_numbox Try.underlying51 Try.results22 HB.out (by kernel_rfl) (by rfl) rfl ?_
  exact ⟨rfl, HC.out, HO.out⟩

end Go.Proofs.Ytkadjejjillmmaa

namespace Go.Proofs.Ytkadjejjillmmaa
open Go Go.RowKit

/-- The rounds of Take: the row's first k items are there. -/
def RowTo (T : TypeId) (n : Nat) (w : World) (ge q : Nat) (C : List Value) : Prop := ∃ R : List Value, w.ownsRow ge T n (.slice (some ⟨ge, 0, none⟩) q q) q (C ++ R)
theorem RowTo.kept {T : TypeId} {n ge q : Nat} {C : List Value} {w w' : World} {row : Option Nat} (h : RowTo T n w ge q C) (hg : w.grownBy w' row) (hne : some ge ≠ row) : RowTo T n w' ge q C := by
  obtain ⟨R, hR⟩ := h
  exact ⟨R, World.ownsRow.kept (w := w) hR hg (.inr (by simpa [Value.ownBlock] using hne))⟩
theorem RowTo.below {T : TypeId} {n ge q : Nat} {C : List Value} {w w' : World} (h : RowTo T n w ge q C) (hb : Below w.heap.size w w') : RowTo T n w' ge q C := by
  obtain ⟨R, hR⟩ := h
  exact ⟨R, World.ownsRow.kept (w := w) hR (only_below hb none) (.inr (by simp [Value.ownBlock]))⟩
theorem RowTo.free {T : TypeId} {n ge q : Nat} {C : List Value} {w : World} (h : RowTo T n w ge q C) (j : Nat) (hj : j < q * n) : (∃ v, w.cell? ⟨ge, j, none⟩ = some v) ∧ w.frozen? ⟨ge, j, none⟩ = false := by
  obtain ⟨R, hR⟩ := h
  exact row_free hR j hj
theorem RowTo.store {T : TypeId} {n ge q : Nat} {C : List Value} {w : World} (h : RowTo T n w ge q C) (vs : List Value) (hl : C.length + vs.length ≤ q * n) : RowTo T n (setAll w ge C.length vs) ge q (C ++ vs) ∧ w.grownBy (setAll w ge C.length vs) (some ge) := by
  obtain ⟨R, hR⟩ := h
  have hlen := hR.1
  rw [List.length_append] at hlen
  obtain ⟨h1, h2⟩ := row_stores vs w C R hR (by omega)
  exact ⟨⟨_, h1⟩, h2⟩
theorem RowTo.done {T : TypeId} {n ge q base : Nat} {C : List Value} {w : World} (h : RowTo T n w ge q C) (hl : C.length = q * n) (hb : base ≤ ge) : w.ownsRow base T n (.slice (some ⟨ge, 0, none⟩) q q) q C := by
  obtain ⟨R, hR⟩ := h
  have hlen := hR.1
  rw [List.length_append] at hlen
  obtain rfl : R = [] := List.eq_nil_of_length_eq_zero (by omega)
  rw [List.append_nil] at hR
  exact row_base hR hb

section
variable {t ns : List UInt8}
theorem takeEY_ok {len q : Nat} {ok : Nat → Bool} {bad : Int} (h : len = 24 * q) (hq : q ≤ 400) (ho : okTo ok q = true) : takeEY len ok bad = 0 := by
  unfold takeEY
  rw [if_neg (by omega), if_neg (by omega), show len / 24 = q by omega, if_pos ho]
theorem takeEY_bad {len q : Nat} {ok : Nat → Bool} {bad : Int} (h : len = 24 * q) (hq : q ≤ 400) (ho : okTo ok q = false) : takeEY len ok bad = bad := by
  unfold takeEY
  rw [if_neg (by omega), if_neg (by omega), show len / 24 = q by omega, if_neg (by simp [ho])]
theorem takeLY_ok {α : Type} {len q : Nat} {ok : Nat → Bool} {f : Nat → α} (h : len = 24 * q) (hq : q ≤ 400) (ho : okTo ok q = true) : takeLY len ok f = listTo f q := by
  unfold takeLY
  rw [if_neg (by omega), if_neg (by omega), show len / 24 = q by omega, if_pos ho]
theorem takeLY_bad {α : Type} {len q : Nat} {ok : Nat → Bool} {f : Nat → α} (h : len = 24 * q) (hq : q ≤ 400) (ho : okTo ok q = false) : takeLY len ok f = [] := by
  unfold takeLY
  rw [if_neg (by omega), if_neg (by omega), show len / 24 = q by omega, if_neg (by simp [ho])]
theorem takeEY_odd {len : Nat} {ok : Nat → Bool} {bad : Int} (h : len % 24 ≠ 0) : takeEY len ok bad = bad := by unfold takeEY; rw [if_pos h]
theorem takeLY_odd {α : Type} {len : Nat} {ok : Nat → Bool} {f : Nat → α} (h : len % 24 ≠ 0) : takeLY len ok f = [] := by unfold takeLY; rw [if_pos h]
theorem takeEY_big {len : Nat} {ok : Nat → Bool} {bad : Int} (h : ¬ len % 24 ≠ 0) (h2 : 400 < len / 24) : takeEY len ok bad = 3 := by unfold takeEY; rw [if_neg h, if_pos h2]
theorem takeLY_big {α : Type} {len : Nat} {ok : Nat → Bool} {f : Nat → α} (h : ¬ len % 24 ≠ 0) (h2 : 400 < len / 24) : takeLY len ok f = [] := by unfold takeLY; rw [if_neg h, if_pos h2]
end
theorem below_only {B : Nat} {a b c : World} {g : Nat} (h : Below B a b) (hB : B ≤ a.heap.size) (hg : b.grownBy c (some g)) (hBg : B ≤ g) : Below B a c :=
  h.grown hg (Nat.le_trans hB h.size) (fun x hx => by injection hx with hx; omega)

end Go.Proofs.Ytkadjejjillmmaa
