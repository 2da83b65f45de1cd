/-
  Package syms: Take refused for its size.
-/
import Derived.Test.YtldmjnbmjfnfeaaGreatDoorObB
import Derived.Test.YtldmjnbmjfnfeaaGreatDoorPut
import Derived.Test.YtldmjnbmjfnfeaaGreatDoorEhE
import Derived.Test.YtldmjnbmjfnfeaaGreatDoorZeros
import Derived.Test.YtldmjnbmjfnfeaaGreatDoorPoX
import Derived.Laws.Cover3
import Derived.Test.YtldmjnbmjfnfeaaGreatDoorCsA
namespace Go.Proofs.YtldmjnbmjfnfeaaGreatDoor
open Go Go.RowKit

/-! ### count -/
theorem divI (n : Nat) : ((n : Int).tdiv 24) = ((n / 24 : Nat) : Int) := by rw [Int.tdiv_eq_ediv_of_nonneg (by omega)]; omega
theorem modI (n : Nat) : ((n : Int).tmod 24) = ((n % 24 : Nat) : Int) := by rw [Int.tmod_eq_emod_of_nonneg (by omega)]; omega

theorem count_any {w : World} (A : Option Addr) (n c : Nat) (bad : Int) (hn : n ≤ 140737488355328) :
    Calls Tryz.prog 91 #[.slice A n c, .int .i64 bad] w fun r w' =>
      r = .returned (.tuple #[.int .i64 ((if n % 24 ≠ 0 then 0 else if 400 < n / 24 then 0 else n / 24 : Nat) : Int), .int .i64 (if n % 24 ≠ 0 then bad else if 400 < n / 24 then 3 else 0)]) ∧ w = w' := by
  have hd := divI n
  have hm := modI n
  have hdl : n / 24 ≤ n := Nat.div_le_self _ _
  by_cases h1 : n % 24 = 0
  · have hn0 : ¬ (n % 24 ≠ 0) := by omega
    have hz : (((n % 24 : Nat) : Int) != 0) = false := by rw [h1]; rfl
    by_cases h2 : 400 < n / 24
    · rw [if_neg hn0, if_pos h2, if_neg hn0, if_pos h2]
      clear hn0
      generalize n / 24 = q at *
      generalize n % 24 = m at *
      have hq : decide ((400 : Int) < (q : Int)) = true := decide_eq_true (by omega)
      clear h1 h2
      go_enter Tryz.func91, Tryz.ntmps91
      go_wp2_with fail
      go_ret2
      exact ⟨rfl, rfl⟩
    · rw [if_neg hn0, if_neg h2, if_neg hn0, if_neg h2]
      clear hn0
      generalize n / 24 = q at *
      generalize n % 24 = m at *
      have hq : decide ((400 : Int) < (q : Int)) = false := decide_eq_false (by omega)
      clear h1 h2
      go_enter Tryz.func91, Tryz.ntmps91
      go_wp2_with fail
      go_ret2
      exact ⟨rfl, rfl⟩
  · rw [if_pos h1, if_pos h1]
    have hz : (((n % 24 : Nat) : Int) != 0) = true := by simp; omega
    generalize n / 24 = q at *
    generalize n % 24 = m at *
    clear h1
    go_enter Tryz.func91, Tryz.ntmps91
    go_wp2_with fail
    go_ret2
    exact ⟨rfl, rfl⟩

/-! ### A cursor, a struct in memory beside it, and what has not turned since w0 -/
def StY (T : TypeId) (w0 w : World) (g : Nat) (v : Value) (l : List UInt8) (a : Nat) (H : Nat) (cs : Array Value) : Prop :=
  Cur w g v l a 0 ∧ Box w H T cs ∧ w0.grownBy w (some g)
section
variable {T : TypeId} {w0 w w' : World} {g : Nat} {v : Value} {l : List UInt8} {a b H : Nat} {cs : Array Value}
theorem StY.call (h : StY T w0 w g v l a H cs) (hne : g ≠ H) (hC : Cur w' g v l b 0) (hG : w.grownBy w' (some g)) : StY T w0 w' g v l b H cs :=
  ⟨hC, h.2.1.grown hG (by simpa using fun e => hne e.symm), h.2.2.trans hG⟩
theorem StY.set (h : StY T w0 w g v l a H cs) (hT : 5 ≠ T) (hne : g ≠ H) (hH : w0.heap.size ≤ H) (i : Nat) (u : Value) : StY T w0 (w.setCell ⟨H, i, none⟩ u) g v l a H (cs.setIfInBounds i u) :=
  have G : w.grownBy (w.setCell ⟨H, i, none⟩ u) (some H) := only_set (only_refl w (some H)) i u
  ⟨h.1.grown G (by simpa using hne) (.inr (own_other h.1.2.1 h.2.1 hT)), h.2.1.set i u, only_trans h.2.2 G (.inr fun x hx => by injection hx with hx; omega)⟩
theorem got_inY {n : Nat} (h : a + n ≤ l.length) : nextGot l a 0 n = cutT l a n ∧ nextAt l a 0 n = a + n ∧ nextErr l a 0 n = 0 := by
  have h' : n ≤ l.length - a := by omega
  simp [nextGot, nextAt, nextErr, cutT, h']
theorem StY.u8 (h : StY T w0 w g v l a H cs) (hne : g ≠ H) (hl : l.length ≤ 140737488355328) (ha : a + 1 ≤ l.length) :
    Calls Tryz.prog 93 #[.pointer (some ⟨g, 0, none⟩)] w fun r w' => r = .returned (.int .u64 (numT l a 1 : Int)) ∧ StY T w0 w' g v l (a + 1) H cs := by
  obtain ⟨e1, e2, e3⟩ := got_inY ha
  have := u8_cur h.1 hl
  rw [e1, e2, e3] at this
  exact this.mono fun _ _ ⟨h1, h2, h3⟩ => ⟨h1, h.call hne h2 h3⟩
theorem StY.u16 (h : StY T w0 w g v l a H cs) (hne : g ≠ H) (hl : l.length ≤ 140737488355328) (ha : a + 2 ≤ l.length) :
    Calls Tryz.prog 84 #[.pointer (some ⟨g, 0, none⟩)] w fun r w' => r = .returned (.int .u64 (numT l a 2 : Int)) ∧ StY T w0 w' g v l (a + 2) H cs := by
  obtain ⟨e1, e2, e3⟩ := got_inY ha
  have := u16_cur h.1 hl
  rw [e1, e2, e3] at this
  exact this.mono fun _ _ ⟨h1, h2, h3⟩ => ⟨h1, h.call hne h2 h3⟩
theorem StY.u32 (h : StY T w0 w g v l a H cs) (hne : g ≠ H) (hl : l.length ≤ 140737488355328) (ha : a + 4 ≤ l.length) :
    Calls Tryz.prog 85 #[.pointer (some ⟨g, 0, none⟩)] w fun r w' => r = .returned (.int .u64 (numT l a 4 : Int)) ∧ StY T w0 w' g v l (a + 4) H cs := by
  obtain ⟨e1, e2, e3⟩ := got_inY ha
  have := u32_cur h.1 hl
  rw [e1, e2, e3] at this
  exact this.mono fun _ _ ⟨h1, h2, h3⟩ => ⟨h1, h.call hne h2 h3⟩
theorem StY.u64 (h : StY T w0 w g v l a H cs) (hne : g ≠ H) (hl : l.length ≤ 140737488355328) (ha : a + 8 ≤ l.length) :
    Calls Tryz.prog 86 #[.pointer (some ⟨g, 0, none⟩)] w fun r w' => r = .returned (.int .u64 (numT l a 8 : Int)) ∧ StY T w0 w' g v l (a + 8) H cs := by
  obtain ⟨e1, e2, e3⟩ := got_inY ha
  have := u64_cur h.1 hl
  rw [e1, e2, e3] at this
  exact this.mono fun _ _ ⟨h1, h2, h3⟩ => ⟨h1, h.call hne h2 h3⟩
end

/-- Behind a return: a number, and a struct in its cell. -/
theorem ret_numbox {fn : Func} {p u : Tmp} {T : TypeId} {fs : Array Field} (hT : Tryz.prog.underlying T = some (.struct fs)) (hres : fn.results = #[.tmp u, .cell p T]) {R : Ending → World → Prop} {a : Act} {W : World} {H : Nat} {cs : Array Value} (hB : Box W H T cs) (hcs : (Tryz.prog.info? T).map (·.size) = some cs.size)
    (hp : a.tmps.getD p undef = .pointer (some ⟨H, 0, none⟩)) (hd : a.defers = []) (h : R (.returned (.tuple #[a.tmps.getD u undef, .agg cs])) W) : bodyPost Tryz.prog fn R .ret a W := by
  refine bodyPost_ret (v := .tuple #[a.tmps.getD u undef, .agg cs]) ?_ hd h
  have hl := run_loadVar_row (P := Tryz.prog) W H T T cs (0, 0) _ hB hT rfl hcs
  have hp' : a.tmps[p]?.getD undef = .pointer (some ⟨H, 0, none⟩) := by simpa using hp
  simp only [results, hres]
  simp [Result.andThen, hp', asAddr, hl]

theorem shr4 (n : Nat) (h : n < 256) : bits .and .u64 (n : Int) 15 = ((n % 16 : Nat) : Int) := by
  have h7 : (BitVec.ofInt 64 15).toNat = 2 ^ 4 - 1 := by decide
  have key : (BitVec.ofInt 64 n &&& BitVec.ofInt 64 15).toNat = ((n : Int) % ((2 ^ 64 : Nat) : Int)).toNat % 2 ^ 4 := by
    rw [BitVec.toNat_and, BitVec.toNat_ofInt, h7, Nat.and_two_pow_sub_one_eq_mod]
  show IntKind.u64.wrap ((BitVec.ofInt 64 n &&& BitVec.ofInt 64 15).toNat : Nat) = ((n % 16 : Nat) : Int)
  rw [key, IntKind.wrap_u64]
  omega

set_option maxHeartbeats 1600000 in
set_option maxRecDepth 10000 in
theorem rela_any {w : World} {g : Nat} {v : Value} {l : List UInt8} {a : Nat} (hlen : l.length ≤ 140737488355328) (hin : a + 24 ≤ l.length) (h : Cur w g v l a 0) :
    Calls Tryz.prog 94 #[methV 85 g, methV 86 g] w fun r w' =>
      r = .returned (.tuple #[.agg #[.int .u64 (numT l a 8 : Int), .int .i64 (numT l (a + 12) 4 : Int), .int .i64 (numT l (a + 8) 4 : Int), .int .i64 (IntKind.i64.wrap (numT l (a + 16) 8 : Int))], .bool (decide (numT l (a + 8) 4 ≤ 2147483647) && decide (numT l (a + 12) 4 ≤ 2147483647))]) ∧
      Cur w' g v l (a + 24) 0 ∧ w.grownBy w' (some g) := by
  have hne : g ≠ w.heap.size := by have := h.1.lt; omega
  have hs : w.heap.size ≤ w.heap.size := Nat.le_refl _
  have hT : 5 ≠ 53 := by decide
  have HS0 := Lib.hid (show StY 53 w (w.alloc (.cells #[.int .u64 0, .int .i64 0, .int .i64 0, .int .i64 0] 53)) g v l a w.heap.size #[.int .u64 0, .int .i64 0, .int .i64 0, .int .i64 0] from
    ⟨h.below ((Below.refl _ _).alloc (Nat.le_refl _) _), Box.new _ _ _, only_below ((Below.refl _ _).alloc (Nat.le_refl _) _) _⟩)
  have C0 := Lib.hid (fun W cs (hS : StY 53 w W g v l a w.heap.size cs) => hS.u64 hne hlen (by omega))
  have C1 := Lib.hid (fun W cs (hS : StY 53 w W g v l (a + 8) w.heap.size cs) => hS.u32 hne hlen (by omega))
  have C2 := Lib.hid (fun W cs (hS : StY 53 w W g v l (a + 12) w.heap.size cs) => hS.u32 hne hlen (by omega))
  have C3 := Lib.hid (fun W cs (hS : StY 53 w W g v l (a + 16) w.heap.size cs) => hS.u64 hne hlen (by omega))
  have N1 := num4 l (a + 8)
  have N2 := num4 l (a + 12)
  generalize numT l a 8 = n0 at *
  generalize numT l (a + 8) 4 = n1 at *
  generalize numT l (a + 12) 4 = n2 at *
  generalize numT l (a + 16) 8 = n3 at *
  have e1 : IntKind.i64.wrap (n1 : Int) = (n1 : Int) := by rw [IntWalk.i64_in _ (by omega)]
  have e2 : IntKind.i64.wrap (n2 : Int) = (n2 : Int) := by rw [IntWalk.i64_in _ (by omega)]
  have q1 : decide ((n1 : Int) ≤ 2147483647) = decide (n1 ≤ 2147483647) := decide_eq_decide.2 (by omega)
  have q2 : decide ((n2 : Int) ≤ 2147483647) = decide (n2 ≤ 2147483647) := decide_eq_decide.2 (by omega)
  obtain ⟨b1, hb1⟩ : ∃ b, decide (n1 ≤ 2147483647) = b := ⟨_, rfl⟩
  obtain ⟨b2, hb2⟩ : ∃ b, decide (n2 ≤ 2147483647) = b := ⟨_, rfl⟩
  rw [hb1] at q1
  rw [hb2] at q2
  rw [hb1, hb2]
  generalize hy : IntKind.i64.wrap (n3 : Int) = y at *
  clear h N1 N2 hlen hin hb1 hb2
  have HN := Lib.hid hne
  clear hne
  go_enter Tryz.func94, Tryz.ntmps94
  go_wp2_with fail
  refine (C0.out _ _ HS0.out).mono ?_
  rintro r w1 ⟨rfl, h⟩
  have c0 := h.2.1.cell 0
  have fr0 := h.2.1.free 0
  simp at c0
  have HS1 := Lib.hid (show StY 53 w _ g v l (a + 8) w.heap.size #[.int .u64 (n0 : Int), .int .i64 0, .int .i64 0, .int .i64 0] from h.set hT HN.out hs 0 (.int .u64 (n0 : Int)))
  clear h C0 HS0
  go_wp2_with fail
  refine (C1.out _ _ HS1.out).mono ?_
  rintro r w2 ⟨rfl, h⟩
  have HS2 := Lib.hid (show StY 53 w w2 g v l (a + 12) w.heap.size _ from h)
  clear h C1 HS1 c0 fr0
  go_wp2_with fail
  refine (C2.out _ _ HS2.out).mono ?_
  rintro r w3 ⟨rfl, h⟩
  have c0 := h.2.1.cell 2
  have fr0 := h.2.1.free 2
  have c1 := h.2.1.cell 1
  have fr1 := h.2.1.free 1
  simp at c0 c1
  have HS3 := Lib.hid (show StY 53 w _ g v l (a + 16) w.heap.size #[.int .u64 (n0 : Int), .int .i64 (n2 : Int), .int .i64 (n1 : Int), .int .i64 0] from (h.set hT HN.out hs 2 (.int .i64 (n1 : Int))).set hT HN.out hs 1 (.int .i64 (n2 : Int)))
  clear h C2 HS2
  go_wp2_with fail
  refine (C3.out _ _ HS3.out).mono ?_
  rintro r w4 ⟨rfl, h⟩
  have c2 := h.2.1.cell 3
  have fr2 := h.2.1.free 3
  simp at c2
  have k0 := h.2.1.cell 0
  have k1 := h.2.1.cell 1
  have k2 := h.2.1.cell 2
  simp at k0 k1 k2
  obtain ⟨f0, f1, f2, -⟩ := four_free h.2.1
  have HS6 := Lib.hid (show StY 53 w _ g v l (a + 24) w.heap.size #[.int .u64 (n0 : Int), .int .i64 (n2 : Int), .int .i64 (n1 : Int), .int .i64 y] from h.set hT HN.out hs 3 (.int .i64 y))
  clear h C3 HS3 c0 fr0 c1 fr1
  cases b1
  all_goals
    go_wp2_with fail
    refine ret_two Tryz.underlying53 Tryz.results94 (four_box (show Box (w4.setCell ⟨w.heap.size, 3, none⟩ (.int .i64 y)) w.heap.size 53 _ from HS6.out.2.1) rfl _ _ _ _) (by kernel_rfl) (by rfl) rfl ?_
    exact ⟨rfl, HS6.out.1.grown (four_only _ _ _ _ _ _) (by simpa using HN.out) (.inr (own_other HS6.out.1.2.1 HS6.out.2.1 hT)), only_trans HS6.out.2.2 (four_only _ _ _ _ _ _) (.inr fun x hx => by injection hx with hx; omega)⟩

end Go.Proofs.YtldmjnbmjfnfeaaGreatDoor

namespace Go.Proofs.YtldmjnbmjfnfeaaGreatDoor
open Go Go.RowKit

set_option maxHeartbeats 6400000 in
set_option maxRecDepth 10000 in
theorem symbol_any {w : World} {g : Nat} {v : Value} {l : List UInt8} {a : Nat} (hlen : l.length ≤ 140737488355328) (hin : a + 24 ≤ l.length) (h : Cur w g v l a 0) :
    Calls Tryz.prog 92 #[methV 93 g, methV 84 g, methV 85 g, methV 86 g] w fun r w' =>
      r = .returned (.tuple #[.int .u64 (numT l a 4 : Int), .agg #[.string ⟨#[]⟩, .int .i64 ((numT l (a + 4) 1 / 16 : Nat) : Int), .int .i64 ((numT l (a + 4) 1 % 16 : Nat) : Int), .int .i64 (numT l (a + 6) 2 : Int), .int .u64 (numT l (a + 8) 8 : Int), .int .u64 (numT l (a + 16) 8 : Int)]]) ∧
      Cur w' g v l (a + 24) 0 ∧ w.grownBy w' (some g) := by
  have hne : g ≠ w.heap.size := by have := h.1.lt; omega
  have hs : w.heap.size ≤ w.heap.size := Nat.le_refl _
  have hT : 5 ≠ 51 := by decide
  have HS0 := Lib.hid (show StY 51 w (w.alloc (.cells #[.string ⟨#[]⟩, .int .i64 0, .int .i64 0, .int .i64 0, .int .u64 0, .int .u64 0] 51)) g v l a w.heap.size #[.string ⟨#[]⟩, .int .i64 0, .int .i64 0, .int .i64 0, .int .u64 0, .int .u64 0] from
    ⟨h.below ((Below.refl _ _).alloc (Nat.le_refl _) _), Box.new _ _ _, only_below ((Below.refl _ _).alloc (Nat.le_refl _) _) _⟩)
  have C0 := Lib.hid (fun W cs (hS : StY 51 w W g v l a w.heap.size cs) => hS.u32 hne hlen (by omega))
  have C1 := Lib.hid (fun W cs (hS : StY 51 w W g v l (a + 4) w.heap.size cs) => hS.u8 hne hlen (by omega))
  have C2 := Lib.hid (fun W cs (hS : StY 51 w W g v l (a + 4 + 1) w.heap.size cs) => hS.u8 hne hlen (by omega))
  have C3 := Lib.hid (fun W cs (hS : StY 51 w W g v l (a + 6) w.heap.size cs) => hS.u16 hne hlen (by omega))
  have C4 := Lib.hid (fun W cs (hS : StY 51 w W g v l (a + 8) w.heap.size cs) => hS.u64 hne hlen (by omega))
  have C5 := Lib.hid (fun W cs (hS : StY 51 w W g v l (a + 16) w.heap.size cs) => hS.u64 hne hlen (by omega))
  have N1 := num1 l (a + 4)
  have N3 := num2 l (a + 6)
  generalize numT l a 4 = n0 at *
  generalize numT l (a + 4) 1 = n1 at *
  generalize numT l (a + 4 + 1) 1 = n2 at *
  generalize numT l (a + 6) 2 = n3 at *
  generalize numT l (a + 8) 8 = n4 at *
  generalize numT l (a + 16) 8 = n5 at *
  have e1 := shr4 n1 N1
  have e2 : (n1 : Int) / 16 = ((n1 / 16 : Nat) : Int) := by omega
  have e3 : IntKind.i64.wrap ((n1 / 16 : Nat) : Int) = ((n1 / 16 : Nat) : Int) := by rw [IntWalk.i64_in _ (by omega)]
  have e4 : IntKind.i64.wrap ((n1 % 16 : Nat) : Int) = ((n1 % 16 : Nat) : Int) := by rw [IntWalk.i64_in _ (by omega)]
  have e5 : IntKind.i64.wrap (n3 : Int) = (n3 : Int) := by rw [IntWalk.i64_in _ (by omega)]
  generalize n1 / 16 = p1 at *
  generalize n1 % 16 = p2 at *
  clear h N1 N3 hlen hin
  have HN := Lib.hid hne
  clear hne
  go_enter Tryz.func92, Tryz.ntmps92
  go_wp2_with fail
  refine (C0.out _ _ HS0.out).mono ?_
  rintro r w1 ⟨rfl, h⟩
  have HS1 := Lib.hid h
  clear h C0 HS0
  go_wp2_with fail
  refine (C1.out _ _ HS1.out).mono ?_
  rintro r w2 ⟨rfl, h⟩
  have c0 := h.2.1.cell 1
  have fr0 := h.2.1.free 1
  have c1 := h.2.1.cell 2
  have fr1 := h.2.1.free 2
  simp at c0 c1
  have HS2 := Lib.hid (show StY 51 w _ g v l (a + 4 + 1) w.heap.size #[.string ⟨#[]⟩, .int .i64 (p1 : Int), .int .i64 (p2 : Int), .int .i64 0, .int .u64 0, .int .u64 0] from (h.set hT HN.out hs 1 (.int .i64 (p1 : Int))).set hT HN.out hs 2 (.int .i64 (p2 : Int)))
  clear h C1 HS1
  go_wp2_with fail
  refine (C2.out _ _ HS2.out).mono ?_
  rintro r w3 ⟨rfl, h⟩
  have HS3 := Lib.hid (show StY 51 w w3 g v l (a + 6) w.heap.size _ from h)
  clear h C2 HS2 c0 c1 fr0 fr1
  go_wp2_with fail
  refine (C3.out _ _ HS3.out).mono ?_
  rintro r w4 ⟨rfl, h⟩
  have c0 := h.2.1.cell 3
  have fr0 := h.2.1.free 3
  simp at c0
  have HS4 := Lib.hid (show StY 51 w _ g v l (a + 8) w.heap.size #[.string ⟨#[]⟩, .int .i64 (p1 : Int), .int .i64 (p2 : Int), .int .i64 (n3 : Int), .int .u64 0, .int .u64 0] from h.set hT HN.out hs 3 (.int .i64 (n3 : Int)))
  clear h C3 HS3
  go_wp2_with fail
  refine (C4.out _ _ HS4.out).mono ?_
  rintro r w5 ⟨rfl, h⟩
  have c1 := h.2.1.cell 4
  have fr1 := h.2.1.free 4
  simp at c1
  have HS5 := Lib.hid (show StY 51 w _ g v l (a + 16) w.heap.size #[.string ⟨#[]⟩, .int .i64 (p1 : Int), .int .i64 (p2 : Int), .int .i64 (n3 : Int), .int .u64 (n4 : Int), .int .u64 0] from h.set hT HN.out hs 4 (.int .u64 (n4 : Int)))
  clear h C4 HS4 c0 fr0
  go_wp2_with fail
  refine (C5.out _ _ HS5.out).mono ?_
  rintro r w6 ⟨rfl, h⟩
  have c2 := h.2.1.cell 5
  have fr2 := h.2.1.free 5
  simp at c2
  have h6 := (show StY 51 w _ g v l (a + 24) w.heap.size #[.string ⟨#[]⟩, .int .i64 (p1 : Int), .int .i64 (p2 : Int), .int .i64 (n3 : Int), .int .u64 (n4 : Int), .int .u64 (n5 : Int)] from h.set hT HN.out hs 5 (.int .u64 (n5 : Int)))
  have HS6 := Lib.hid h6
  clear h C5 HS5 c1 fr1
  go_wp2_with fail
  clear c2 fr2
  generalize w6.setCell ⟨w.heap.size, 5, none⟩ (.int .u64 (n5 : Int)) = w7 at *
  obtain ⟨k0, k1, k2, k3, k4, k5⟩ := six_cells h6.2.1
  obtain ⟨f0, f1, f2, f3, f4, f5⟩ := six_free h6.2.1
  clear h6
  go_region
  go_wp2_with fail
  have HB := Lib.hid ((six_box (show Box w7 w.heap.size 51 _ from HS6.out.2.1) rfl (.string ⟨#[]⟩) (.int .i64 (p1 : Int)) (.int .i64 (p2 : Int)) (.int .i64 (n3 : Int)) (.int .u64 (n4 : Int)) (.int .u64 (n5 : Int))).drew)
  have HG := Lib.hid (only_drewN (six_only w7 w.heap.size (.string ⟨#[]⟩) (.int .i64 (p1 : Int)) (.int .i64 (p2 : Int)) (.int .i64 (n3 : Int)) (.int .u64 (n4 : Int)) (.int .u64 (n5 : Int))) 1)
  have HC := Lib.hid (HS6.out.1.grown HG.out (by simpa using HN.out) (.inr (own_other HS6.out.1.2.1 HS6.out.2.1 hT)))
  have HO := Lib.hid (only_trans HS6.out.2.2 HG.out (.inr fun x hx => by injection hx with hx; omega))
  clear HG HS6 k0 k1 k2 k3 k4 k5 f0 f1 f2 f3 f4 f5
  refine ret_numbox Tryz.underlying51 Tryz.results92 HB.out (by kernel_rfl) (by rfl) rfl ?_
  exact ⟨rfl, HC.out, HO.out⟩

end Go.Proofs.YtldmjnbmjfnfeaaGreatDoor

namespace Go.Proofs.YtldmjnbmjfnfeaaGreatDoor
open Go Go.RowKit

/-! ### Bytes 0 up to the next multiple of 8 -/
def padN (n : Nat) : Nat := (8 - n % 8) % 8
def padB (l : List UInt8) : List UInt8 := l ++ List.replicate (padN l.length) 0
theorem padN_lt (n : Nat) : padN n < 8 := Nat.mod_lt _ (by decide)
theorem padB_length (l : List UInt8) : (padB l).length = l.length + padN l.length := by simp [padB]

section
variable {P : Program}
theorem run_append_no_zeros (w : World) (base : Nat) (t tn ty : TypeId) (i : TypeInfo) (kn kq : IntKind) (ht : P.underlying t = some (.slice 5)) (htn : P.underlying tn = some (.int kn)) (hi : P.info? 5 = some i) (hz : i.zero = some (.int .u8 0))
    (hy : i.bytes = 1) (v : Value) (l : List UInt8) (hown : Own w base v l) :
    (Builtin.append_ #[t, tn] ty #[v, .int kq 0]).run P w = .ok v w := by
  have hw : IntKind.i64.wrap (0 : Int) = 0 := by rw [IntKind.wrap_i64]; omega
  rcases hown.2 with ⟨rfl, h00⟩ | ⟨g, cap, cur, rfl, hbg, hg, hnc, hcm, hcs, htake⟩
  · simp [Builtin.append_, run_underlying ht, run_underlying htn, sizeOf, typeInfo, zeroValue, hi, hz, hy, asInt, asIntOf, hw]
  · simp [Builtin.append_, run_underlying ht, run_underlying htn, sizeOf, typeInfo, zeroValue, hi, hz, hy, asInt, asIntOf, hw, hnc, storeCells]
theorem wpList_append_no_zeros {w : World} {ops : Array Oper} {rest : List Oper} {o : Oper} {a : Act} {Q : Exit → Act → World → Prop} (hgd : o.guard = none) (s x : Operand) (t tn : TypeId)
    (ho : o.op = .call { callee := .builtin .append, args := #[s, x], argTypes := #[t, tn] })
    (base : Nat) (i : TypeInfo) (kn kq : IntKind) (ht : P.underlying t = some (.slice 5)) (htn : P.underlying tn = some (.int kn)) (hi : P.info? 5 = some i) (hz : i.zero = some (.int .u8 0)) (hy : i.bytes = 1)
    (v : Value) (l : List UInt8) (hv : a.eval s = v) (hown : Own w base v l) (z : Int) (hx : a.eval x = .int kq z) (hzn : z = 0)
    (h : wpList P ops Q rest (a.put o.dst v) w) :
    wpList P ops Q (o :: rest) a w := by
  subst hzn
  refine wpList_plain hgd fun K hK => ?_
  have hrun := run_append_no_zeros (P := P) w base t tn o.type i kn kq ht htn hi hz hy v l hown
  unfold Oper.wp execOp
  simp only [ho, resolve, invoke, builtin, Sem.run_bind, Sem.run_pure, Result.andThen_ok, List.map_toArray, List.map_cons, List.map_nil, hv, hx, hrun]
  exact hK _ _ h
end

theorem i64_and7 (n : Int) : bits .and .i64 n 7 = n % 8 := by
  have h7 : (BitVec.ofInt 64 7).toNat = 2 ^ 3 - 1 := by decide
  have key : (BitVec.ofInt 64 n &&& BitVec.ofInt 64 7).toNat = (n % ((2 ^ 64 : Nat) : Int)).toNat % 2 ^ 3 := by
    rw [BitVec.toNat_and, BitVec.toNat_ofInt, h7, Nat.and_two_pow_sub_one_eq_mod]
  show IntKind.i64.wrap ((BitVec.ofInt 64 n &&& BitVec.ofInt 64 7).toNat : Nat) = n % 8
  rw [key, IntKind.wrap_i64]
  omega
theorem pad_and (n : Nat) : bits .and .i64 (-(n : Int)) 7 = (padN n : Int) := by
  rw [i64_and7]
  unfold padN
  omega

set_option maxRecDepth 10000 in
theorem fill_any {w : World} {base : Nat} {v : Value} {l : List UInt8} (hown : Own w base v l) (hbase : base ≤ w.heap.size) (hlen : l.length ≤ 140737488355000) :
    Calls Tryz.prog 108 #[v] w fun r w' => ∃ v', r = .returned v' ∧ Laid w w' base v v' (padB l) := by
  obtain ⟨i0, hi, hz0, hz1, hz2⟩ := info_parts u8_info
  obtain ⟨A, c, rfl, _, _, _⟩ := own_slice hown
  have HO := Lib.hid hown
  have hp := pad_and l.length
  have HP := Lib.hid (padN_lt l.length)
  have hlen2 : l.length + padN l.length ≤ 140737488355328 := by have := padN_lt l.length; omega
  have hpb : padB l = l ++ List.replicate (padN l.length) 0 := rfl
  clear hown
  by_cases h0 : padN l.length = 0
  · rw [h0, List.replicate_zero, List.append_nil] at hpb
    rw [h0] at hp
    rw [hpb]
    clear hpb h0 HP hlen2
    go_enter Tryz.func108, Tryz.ntmps108
    go_wp2_with (at_builtin; refine wpList_append_no_zeros (by rfl) (.tmp 3) (.tmp 7) _ _ (by rfl) base i0 .i64 .i64 Tryz.underlying22 Tryz.underlying3 hi hz0 hz2 (.slice A l.length c) l (by rfl) HO.out _ (by rfl) (by first | rfl | exact hp) ?_)
    go_ret
    exact ⟨_, rfl, Laid.refl HO.out⟩
  · rw [hpb]
    clear hpb
    go_enter Tryz.func108, Tryz.ntmps108
    go_wp2_with (at_builtin; refine wpList_append_zeros (by rfl) (.tmp 3) (.tmp 7) _ _ (by rfl) base i0 .i64 .i64 Tryz.underlying22 Tryz.underlying3 hi hz0 hz1 hz2 (.slice A l.length c) l (by rfl) HO.out (padN l.length) _ (by rfl) (by first | rfl | exact hp) (by omega) hlen2 hbase ?_; intro v1 w1 hown1 hg1 hat1 _)
    go_ret
    exact ⟨_, rfl, Laid.of_append (Below.refl _ _) hown1 hg1 hat1⟩

/-! ### Copies -/
theorem own_empty (w : World) (base : Nat) (hb : base ≤ w.heap.size) (e : TypeId) (size : Nat) : (w.alloc (.cells #[] e)).ownsRow base e size (.slice (some ⟨w.heap.size, 0, none⟩) 0 0) 0 [] :=
  ⟨by simp, .inr ⟨w.heap.size, 0, #[], rfl, hb, heap_alloc_new w _, Nat.le_refl _, Nat.zero_le _, by simp, by simp⟩⟩

theorem eql_nil {t e : TypeId} (h : Tryz.prog.underlying t = some (.slice e)) (A : Option Addr) (n c : Nat) (W : World) : (binOp .eql t (.slice A n c) (.slice none 0 0)).run Tryz.prog W = .ok (.bool A.isNone) W := by
  simp only [binOp]
  simp [run_equal_slice_nil W t e A n c h]

set_option maxRecDepth 10000 in
theorem bclone_any {w : World} {B : Nat} {A : Option Addr} {l : List UInt8} (hr : Rd w B A l) (hB : B ≤ w.heap.size) (c : Nat) (hl : l.length ≤ 140737488355328) :
    Calls Tryz.prog 118 #[.slice A l.length c] w fun r w' => ∃ v', r = .returned v' ∧ Own w' w.heap.size v' l ∧ Below w.heap.size w w' := by
  obtain ⟨i0, hi, hz0, hz1, hz2⟩ := info_parts u8_info
  rcases A with _ | ad
  · have hl0 : l = [] := by
      rcases l with _ | ⟨x, r⟩
      · rfl
      · obtain ⟨b, o, e, _⟩ := hr (by simp)
        cases e
    subst hl0
    have hE := eql_nil Tryz.underlying22 none
    go_enter Tryz.func118, Tryz.ntmps118
    go_wp2_with fail
    go_ret
    exact ⟨_, rfl, World.ownsRow_nil _ _ _ _, Below.refl _ _⟩
  · have HR := Lib.hid (((hr.more hB).alloc (Nat.le_refl _) (.cells #[] 5)))
    have HO := Lib.hid (own_empty w w.heap.size (Nat.le_refl _) 5 1)
    have hbs : w.heap.size ≤ (w.alloc (.cells #[] 5)).heap.size := by simp
    have hsum : ([] : List UInt8).length + l.length ≤ 140737488355328 := by simpa using hl
    have HB := Lib.hid ((Below.refl w.heap.size w).alloc (Nat.le_refl _) (.cells #[] 5))
    have hE := eql_nil Tryz.underlying22 (some ad)
    clear hr hB hl
    go_enter Tryz.func118, Tryz.ntmps118
    go_wp2_with (at_builtin; refine wpList_append_bytes (by rfl) (.tmp 5) (.tmp 6) _ (by rfl) w.heap.size i0 Tryz.underlying22 hi hz0 hz1 hz2 (.slice (some ⟨w.heap.size, 0, none⟩) 0 0) [] (by rfl) HO.out w.heap.size (some ad) l.length c l rfl (by rfl) HR.out hsum hbs ?_; intro v1 w1 hown1 hg1 hat1)
    go_ret
    exact ⟨_, rfl, hown1, HB.out.grown hg1 (by simp) (by simp [Value.ownBlock])⟩

def cellsL (L : List Lay) : List Value := L.flatMap Lay.cells
theorem cellsL_length (L : List Lay) : (cellsL L).length = L.length * 9 := by
  induction L with
  | nil => rfl
  | cons x L ih =>
    have : (cellsL (x :: L)).length = 9 + (cellsL L).length := by simp [cellsL, Lay.cells]; omega
    rw [this, ih, List.length_cons]
    omega
theorem cellsL_at : ∀ (L : List Lay) (i : Nat) (x : Lay) (j : Nat) (v : Value), L[i]? = some x → x.cells[j]? = some v → (cellsL L)[i * 9 + j]? = some v
  | [], _, _, _, _, h, _ => by simp at h
  | y :: L, 0, x, j, v, h, hv => by
    simp at h
    subst h
    have hj : j < y.cells.length := (List.getElem?_eq_some_iff.1 hv).1
    rw [show cellsL (y :: L) = y.cells ++ cellsL L from rfl, Nat.zero_mul, Nat.zero_add, List.getElem?_append_left hj]
    exact hv
  | y :: L, i + 1, x, j, v, h, hv => by
    have ih := cellsL_at L i x j v (by simpa using h) hv
    have h9 : y.cells.length = 9 := rfl
    rw [show cellsL (y :: L) = y.cells ++ cellsL L from rfl, List.getElem?_append_right (by omega), h9, show (i + 1) * 9 + j - 9 = i * 9 + j by omega]
    exact ih
theorem cellsL_get (L : List Lay) (k : Nat) (v : Value) (h : (cellsL L)[k]? = some v) : ∃ x, L[k / 9]? = some x ∧ x.cells[k % 9]? = some v := by
  have hk : k < L.length * 9 := by rw [← cellsL_length]; exact (List.getElem?_eq_some_iff.1 h).1
  have hx : L[k / 9]? = some (L[k / 9]'(by omega)) := List.getElem?_eq_getElem _
  have hj : (L[k / 9]'(by omega)).cells[k % 9]? = some ((L[k / 9]'(by omega)).cells[k % 9]'(by show k % 9 < 9; omega)) := List.getElem?_eq_getElem _
  have h2 := cellsL_at L _ _ _ _ hx hj
  rw [show k / 9 * 9 + k % 9 = k by omega, h] at h2
  injection h2 with h2
  exact ⟨_, hx, by rw [hj, h2]⟩
theorem cellsL_append (L M : List Lay) : cellsL (L ++ M) = cellsL L ++ cellsL M := by simp [cellsL]
theorem cells_one (x : Lay) : ∀ u ∈ x.cells, u.oneCell' = true := by
  intro u hu
  simp only [Lay.cells, Lay.dv, List.mem_cons, List.not_mem_nil, or_false] at hu
  rcases hu with rfl | rfl | rfl | rfl | rfl | rfl | rfl | rfl | rfl <;> rfl

/-- A row of sections of the call's own. -/
abbrev OwnL (w : World) (base : Nat) (v : Value) (L : List Lay) : Prop := w.ownsRow base 39 9 v L.length (cellsL L)
theorem sect_info : (Tryz.prog.info? 39).map (fun i => (i.zero, i.size, i.bytes)) = some (some (.agg #[.string ⟨#[]⟩, .int .i64 0, .int .u64 0, .int .u64 0, .slice none 0 0, .int .i64 0, .int .i64 0, .int .i64 0, .int .i64 0]), 9, 96) := by kernel_rfl

/-- A row of the call's own, as sections that lie. -/
theorem ownl_secs {w : World} {base : Nat} {v : Value} {L : List Lay} (h : OwnL w base v L) (hok : ∀ x ∈ L, x.Ok w w.heap.size) : ∃ A c, v = .slice A L.length c ∧ L.length ≤ c ∧ c ≤ maxLen ∧ Secs w w.heap.size A L := by
  rcases h.2 with ⟨rfl, h0⟩ | ⟨g, cap, cur, rfl, hb, hg, hnc, hcm, hcs, htake⟩
  · rw [h0]
    exact ⟨none, 0, rfl, Nat.le_refl _, Nat.zero_le _, ⟨fun hl => by omega, hok⟩⟩
  · have hlt : g < w.heap.size := by
      rcases Nat.lt_or_ge g w.heap.size with h1 | h1
      · exact h1
      · rw [Array.getElem?_eq_none h1] at hg; cases hg
    refine ⟨some ⟨g, 0, none⟩, cap, rfl, hnc, hcm, ⟨fun _ => ⟨g, 0, rfl, hlt, fun i x hx j u hu => ?_⟩, hok⟩⟩
    have hc := cellsL_at L i x j u hx hu
    have hil := (List.getElem?_eq_some_iff.1 hx).1
    have hjl : j < 9 := (List.getElem?_eq_some_iff.1 hu).1
    have h1 := World.ownsRow.cellAt (g := g) (cap := cap) h (i * 9 + j) (by omega)
    rw [Nat.zero_add, h1, hc]

set_option maxRecDepth 10000 in
theorem sclone_any {w : World} {a : Option Addr} {L : List Lay} (h : Secs w w.heap.size a L) (c : Nat) (h0 : 0 < L.length) (hl : L.length ≤ 100000) :
    Calls Tryz.prog 57 #[.slice a L.length c] w fun r w' => ∃ v', r = .returned v' ∧ OwnL w' w.heap.size v' L ∧ Below w.heap.size w w' := by
  obtain ⟨i0, hi, hz0, hz1, hz2⟩ := info_parts sect_info
  obtain ⟨b, o, rfl, hb, hc⟩ := h.row h0
  have HC := Lib.hid (show ∀ j u, (cellsL L)[j]? = some u → (w.alloc (.cells #[] 39)).cell? ((⟨b, o, none⟩ : Addr).add j) = some u from fun j u hu => by
    obtain ⟨x, hx, hv⟩ := cellsL_get L j u hu
    rw [addr_add, ((Below.refl w.heap.size w).alloc (Nat.le_refl _) (.cells #[] 39)).cell (p := ⟨b, o + j, none⟩) hb]
    have := hc _ x hx _ u hv
    rwa [show o + j / 9 * 9 + j % 9 = o + j by omega] at this)
  have HO := Lib.hid (own_empty w w.heap.size (Nat.le_refl _) 39 9)
  have h1 : ∀ u ∈ cellsL L, u.oneCell' = true := fun u hu => by
    obtain ⟨x, _, hx⟩ := List.mem_flatMap.1 hu
    exact cells_one x u hx
  have H1 := Lib.hid h1
  have HLN := Lib.hid (show (cellsL L).length = L.length * 9 from cellsL_length L)
  have hbs : w.heap.size ≤ (w.alloc (.cells #[] 39)).heap.size := by simp
  have HB := Lib.hid ((Below.refl w.heap.size w).alloc (Nat.le_refl _) (.cells #[] 39))
  have hm1 : 0 + L.length ≤ maxLen := by unfold maxLen; omega
  have hm2 : (0 + L.length) * 96 ≤ 140737488355328 := by omega

  have hE := eql_nil Tryz.underlying24 (some ⟨b, o, none⟩)
  clear hc h hb h1
  generalize hN : L.length = N at *
  have HN := Lib.hid hN
  clear hN
  go_enter Tryz.func57, Tryz.ntmps57
  go_wp2_with (at_builtin; refine wpList_append_lies _ (by rfl) (.tmp 5) (.tmp 6) _ (by rfl) w.heap.size 39 i0 _ 9 96 Tryz.underlying24 hi hz0 hz1 hz2 (by rfl) (by decide) (.slice (some ⟨w.heap.size, 0, none⟩) 0 0) 0 [] (by rfl) HO.out ⟨b, o, none⟩ N c (cellsL L) (by rfl) HLN.out HC.out H1.out h0 hm1 hm2 hbs _ rfl ?_; intro g cap w1 hown1 hg1 hat1 hlt1)
  go_ret
  rw [Nat.zero_add, List.nil_append] at hown1
  exact ⟨_, rfl, by rw [OwnL, HN.out]; exact hown1, HB.out.grown hg1 (by simp) (by simp [Value.ownBlock])⟩

end Go.Proofs.YtldmjnbmjfnfeaaGreatDoor

namespace Go.Proofs.YtldmjnbmjfnfeaaGreatDoor
open Go Go.RowKit

/-- The texts of the table and the places, name by name. -/
def gat (ns : List (List UInt8)) : List (List UInt8) × List Nat := ns.foldl (fun p t => ((addT p.1 t).1, p.2 ++ [(addT p.1 t).2.1])) ([], [])
theorem gat_next (ns : List (List UInt8)) (t : List UInt8) : gat (ns ++ [t]) = ((addT (gat ns).1 t).1, (gat ns).2 ++ [(addT (gat ns).1 t).2.1]) := by
  unfold gat
  rw [List.foldl_append]
  rfl
theorem gat_take {ns : List (List UInt8)} {k : Nat} {t : List UInt8} (h : ns[k]? = some t) : gat (ns.take (k + 1)) = ((addT (gat (ns.take k)).1 t).1, (gat (ns.take k)).2 ++ [(addT (gat (ns.take k)).1 t).2.1]) := by
  rw [List.take_add_one, h]
  exact gat_next _ _
theorem gat_length (ns : List (List UInt8)) (k : Nat) (hk : k ≤ ns.length) : (gat (ns.take k)).2.length = k := by
  induction k with
  | zero => rfl
  | succ k ih =>
    have h : ns[k]? = some (ns[k]'(by omega)) := List.getElem?_eq_getElem _
    rw [gat_take h]
    simp [ih (by omega)]

/-- The names of sections. -/
def namesL (L : List Lay) : List (List UInt8) := L.map fun x => x.s.name
theorem namesL_get {L : List Lay} {k : Nat} {x : Lay} (h : L[k]? = some x) : (namesL L)[k]? = some x.s.name := by simp [namesL, h]

theorem row_below {w w' : World} {base : Nat} {e : TypeId} {size n : Nat} {v : Value} {xs : List Value} (h : w.ownsRow base e size v n xs) (hb : Below w.heap.size w w') : w'.ownsRow base e size v n xs :=
  row_only h (Only.below (base := 0) (bad := fun _ => False) hb (Nat.zero_le _)) (fun _ _ x => x)
theorem row_base {w : World} {base base' : Nat} {e : TypeId} {size n : Nat} {v : Value} {xs : List Value} (h : w.ownsRow base e size v n xs) (hb : base' ≤ base) : w.ownsRow base' e size v n xs :=
  ⟨h.1, h.2.imp id fun ⟨g, cap, cur, p, q, r⟩ => ⟨g, cap, cur, p, Nat.le_trans hb q, r⟩⟩

set_option maxRecDepth 10000 in
set_option maxHeartbeats 1600000 in
theorem gather_any {w : World} {a : Option Addr} {L : List Lay} (h : Secs w w.heap.size a L) (c : Nat) (hl : L.length ≤ 100000) :
    Calls Tryz.prog 107 #[.slice a L.length c] w fun r w' => ∃ u v, r = .returned (.tuple #[u, v]) ∧ OwnU w' w.heap.size u (gat (namesL L)).2 ∧ Own w' w.heap.size v (putsT (gat (namesL L)).1) ∧ Below w.heap.size w w' := by
  obtain ⟨i0, hi, hz0, hz1, hz2⟩ := info_parts u64_info
  have HH := Lib.hid h
  generalize hN : L.length = N at *
  have HN := Lib.hid hN
  clear h hN
  have HNW := Lib.hid (fun W => pnew_any W)
  go_enter Tryz.func107, Tryz.ntmps107
  go_wp2_with (go_at_call 101; refine (HNW.out _).mono ?_; rintro r w1 ⟨g, mb, rfl, hp1, hb1⟩)
  have HP1 := Lib.hid hp1
  have HB1 := Lib.hid hb1
  clear hp1 hb1 HNW
  go_loopw [2, 12] (fun u i wr => ∃ k : Nat, k ≤ N ∧ i = .int .i64 k ∧ OwnU wr w.heap.size u (gat ((namesL L).take k)).2 ∧ (∃ v, PoolAt wr w.heap.size g mb v (gat ((namesL L).take k)).1) ∧ Below w.heap.size w wr) (fun _ i _ => N - (intOf i).toNat)
  case atStart => exact ⟨0, Nat.zero_le _, rfl, World.ownsRow_nil _ _ _ _, ⟨_, HP1.out⟩, HB1.out⟩
  case round =>
    obtain ⟨k, hk, rfl, hO, ⟨v, hP⟩, hB⟩ := hrel
    by_cases hlt : k < N
    · obtain ⟨x, hx⟩ : ∃ x, L[k]? = some x := ⟨L[k]'(by rw [HN.out]; exact hlt), List.getElem?_eq_getElem _⟩
      obtain ⟨b, o, rfl, hb, c0, c1, c2, c3, c4, c5, c6, c7, c8⟩ := (HH.out.below hB).at_ hx
      have hnl := ((HH.out.below hB).get hx).fits.name
      have HNX := Lib.hid (gat_take (namesL_get hx))
      have hgl := gat_length (namesL L) k (by rw [namesL, List.length_map, HN.out]; omega)
      generalize hnk1 : gat ((namesL L).take (k + 1)) = nk1 at *
      generalize (namesL L).take k = nk at *
      generalize hls : (gat nk).1 = ls at *
      generalize hats : (gat nk).2 = ats at *
      have HK1 := Lib.hid hnk1
      have HG1 := Lib.hid (show nk1.1 = (addT ls x.s.name).1 by rw [HNX.out])
      have HG2 := Lib.hid (show nk1.2 = ats ++ [(addT ls x.s.name).2.1] by rw [HNX.out])
      have hb0 : Below wr.heap.size wr (wr.alloc (.cells #[.string ⟨x.s.name.toArray⟩, .int .i64 x.s.kind, .int .u64 (x.s.flags : Int), .int .u64 (x.s.addr : Int), .slice x.A x.s.data.length x.c, .int .i64 x.s.link, .int .i64 x.s.inf, .int .i64 x.s.algn, .int .i64 x.s.ent] 39)) := (Below.refl _ _).alloc (Nat.le_refl _) _
      have HA := Lib.hid (add_at (hP.below hb0) x.s.name (by omega))
      have HO0 := Lib.hid (row_below hO hb0)
      have HB0 := Lib.hid (hB.trans (hb0.mono hB.size))
      have hww := hB.size
      rw [hgl] at HO0
      have h63 : k + 1 ≤ maxLen := by unfold maxLen; omega
      have hby : (k + 1) * 8 ≤ 140737488355328 := by omega
      have H63 := Lib.hid h63
      have HBY := Lib.hid hby
      have HGL := Lib.hid hgl
      clear hx hO hP hB hb0 HNX hnk1 hls hats hnl h63 hby hgl
      generalize (addT ls x.s.name).1 = ls1 at *
      generalize (addT ls x.s.name).2.1 = p at *
      generalize (addT ls x.s.name).2.2 = e at *
      generalize x.A = dA at *
      generalize x.s.data.length = dn at *
      generalize x.c = dc at *
      generalize ByteArray.mk x.s.name.toArray = sb at *
      generalize x.s.kind = i1 at *
      generalize x.s.link = i2 at *
      generalize x.s.inf = i3 at *
      generalize x.s.algn = i4 at *
      generalize x.s.ent = i5 at *
      generalize x.s.flags = n1 at *
      generalize x.s.addr = n2 at *
      go_wp2_with (first
        | (go_at_call 102; refine HA.out.mono ?_; rintro r w2 ⟨rfl, hp2, ho2⟩; have HP2 := Lib.hid hp2; have HO2 := Lib.hid ho2; have HR2 := Lib.hid (row_only HO0.out ho2 (by intro cs f hh; rcases hh with hh | hh <;> revert hh <;> decide)); have hs2 := ho2.1.size; clear hp2 ho2 HA)
        | (at_builtin; refine wpList_append_own_at _ (by rfl) (.tmp 23) (.tmp 25) _ (by rfl) w.heap.size 37 i0 (.int .u64 0) 1 8 Tryz.underlying106 hi hz0 hz1 hz2 rfl (by decide) u2 k (placeV ats) (by rfl) (HR2.out.alloc _) ⟨w2.heap.size, 0, none⟩ 1 1 [.int .u64 (p : Int)] (by rfl) rfl (cell_one_new _ _ _) (by simp [Value.oneCell']) H63.out HBY.out (by have := HO2.out.1.size; simp at *; omega) ?_; intro v4 w4 hown4 hg4 hn4 hat4; clear hn4 hat4))
      have ho4 := row_turns (HR2.out.alloc (.cells #[.int .u64 (p : Int)] 37)) hg4 (by have := HO2.out.1.size; simp at *; omega)
      have HB2 := Lib.hid (HB0.out.trans HO2.out.1)
      have HL := Lib.hid (show Only w.heap.size (CellsOf 37) w2 w4 from (Only.below ((Below.refl _ _).alloc (Nat.le_refl _) _) HB2.out.size).trans ho4)
      have HOW4 := Lib.hid (show OwnU w4 w.heap.size v4 (ats ++ [p]) by rw [OwnU, placeV_append, List.length_append, HGL.out]; exact hown4)
      clear hown4 hg4 ho4
      go_roundw
      case rel =>
        refine ⟨k + 1, by omega, by go_num, by rw [HK1.out, HG2.out]; exact HOW4.out, ?_, HB2.out.trans HL.out.1⟩
        rw [HK1.out, HG1.out]
        obtain ⟨v', hv'⟩ := HP2.out
        exact ⟨v', hv'.rows HL.out (by decide) (by decide)⟩
      case measure => simp [intOf]; omega
    · have hkn : (namesL L).take k = namesL L := by rw [List.take_of_length_le]; simp [namesL, HN.out]; omega
      rw [hkn] at hO hP
      have HY := Lib.hid (bytes_at hP)
      have HO := Lib.hid hO
      have HB := Lib.hid hB
      have hgl := gat_length (namesL L) N (by rw [namesL, List.length_map, HN.out]; omega)
      obtain ⟨A, cap, rfl, _⟩ := ownu_at hO
      clear hO hP hB hkn hgl
      generalize (gat (namesL L)).2.length = q at *
      go_wp2_with (go_at_call 103; refine HY.out.mono ?_; rintro r w2 ⟨v2, rfl, hown2, hb2⟩)
      go_ret2
      exact ⟨_, _, rfl, row_below HO.out hb2, own_up hown2 HB.out.size, HB.out.trans (hb2.mono HB.out.size)⟩

end Go.Proofs.YtldmjnbmjfnfeaaGreatDoor

namespace Go.Proofs.YtldmjnbmjfnfeaaGreatDoor
open Go Go.RowKit

/-- The rounds of Take: the row's first k items are there. -/
def RowTo (T : TypeId) (n : Nat) (w : World) (ge q : Nat) (C : List Value) : Prop := ∃ R : List Value, w.ownsRow ge T n (.slice (some ⟨ge, 0, none⟩) q q) q (C ++ R)
theorem RowTo.kept {T : TypeId} {n ge q : Nat} {C : List Value} {w w' : World} {row : Option Nat} (h : RowTo T n w ge q C) (hg : w.grownBy w' row) (hne : some ge ≠ row) : RowTo T n w' ge q C := by
  obtain ⟨R, hR⟩ := h
  exact ⟨R, World.ownsRow.kept (w := w) hR hg (.inr (by simpa [Value.ownBlock] using hne))⟩
theorem RowTo.below {T : TypeId} {n ge q : Nat} {C : List Value} {w w' : World} (h : RowTo T n w ge q C) (hb : Below w.heap.size w w') : RowTo T n w' ge q C := by
  obtain ⟨R, hR⟩ := h
  exact ⟨R, World.ownsRow.kept (w := w) hR (only_below hb none) (.inr (by simp [Value.ownBlock]))⟩
theorem RowTo.free {T : TypeId} {n ge q : Nat} {C : List Value} {w : World} (h : RowTo T n w ge q C) (j : Nat) (hj : j < q * n) : (∃ v, w.cell? ⟨ge, j, none⟩ = some v) ∧ w.frozen? ⟨ge, j, none⟩ = false := by
  obtain ⟨R, hR⟩ := h
  exact row_free hR j hj
theorem RowTo.store {T : TypeId} {n ge q : Nat} {C : List Value} {w : World} (h : RowTo T n w ge q C) (vs : List Value) (hl : C.length + vs.length ≤ q * n) : RowTo T n (setAll w ge C.length vs) ge q (C ++ vs) ∧ w.grownBy (setAll w ge C.length vs) (some ge) := by
  obtain ⟨R, hR⟩ := h
  have hlen := hR.1
  rw [List.length_append] at hlen
  obtain ⟨h1, h2⟩ := row_stores vs w C R hR (by omega)
  exact ⟨⟨_, h1⟩, h2⟩
theorem RowTo.done {T : TypeId} {n ge q base : Nat} {C : List Value} {w : World} (h : RowTo T n w ge q C) (hl : C.length = q * n) (hb : base ≤ ge) : w.ownsRow base T n (.slice (some ⟨ge, 0, none⟩) q q) q C := by
  obtain ⟨R, hR⟩ := h
  have hlen := hR.1
  rw [List.length_append] at hlen
  obtain rfl : R = [] := List.eq_nil_of_length_eq_zero (by omega)
  rw [List.append_nil] at hR
  exact row_base hR hb

section
variable {t ns : List UInt8}
theorem takeEY_ok {len q : Nat} {ok : Nat → Bool} {bad : Int} (h : len = 24 * q) (hq : q ≤ 400) (ho : okTo ok q = true) : takeEY len ok bad = 0 := by
  unfold takeEY
  rw [if_neg (by omega), if_neg (by omega), show len / 24 = q by omega, if_pos ho]
theorem takeEY_bad {len q : Nat} {ok : Nat → Bool} {bad : Int} (h : len = 24 * q) (hq : q ≤ 400) (ho : okTo ok q = false) : takeEY len ok bad = bad := by
  unfold takeEY
  rw [if_neg (by omega), if_neg (by omega), show len / 24 = q by omega, if_neg (by simp [ho])]
theorem takeLY_ok {α : Type} {len q : Nat} {ok : Nat → Bool} {f : Nat → α} (h : len = 24 * q) (hq : q ≤ 400) (ho : okTo ok q = true) : takeLY len ok f = listTo f q := by
  unfold takeLY
  rw [if_neg (by omega), if_neg (by omega), show len / 24 = q by omega, if_pos ho]
theorem takeLY_bad {α : Type} {len q : Nat} {ok : Nat → Bool} {f : Nat → α} (h : len = 24 * q) (hq : q ≤ 400) (ho : okTo ok q = false) : takeLY len ok f = [] := by
  unfold takeLY
  rw [if_neg (by omega), if_neg (by omega), show len / 24 = q by omega, if_neg (by simp [ho])]
theorem takeEY_odd {len : Nat} {ok : Nat → Bool} {bad : Int} (h : len % 24 ≠ 0) : takeEY len ok bad = bad := by unfold takeEY; rw [if_pos h]
theorem takeLY_odd {α : Type} {len : Nat} {ok : Nat → Bool} {f : Nat → α} (h : len % 24 ≠ 0) : takeLY len ok f = [] := by unfold takeLY; rw [if_pos h]
theorem takeEY_big {len : Nat} {ok : Nat → Bool} {bad : Int} (h : ¬ len % 24 ≠ 0) (h2 : 400 < len / 24) : takeEY len ok bad = 3 := by unfold takeEY; rw [if_neg h, if_pos h2]
theorem takeLY_big {α : Type} {len : Nat} {ok : Nat → Bool} {f : Nat → α} (h : ¬ len % 24 ≠ 0) (h2 : 400 < len / 24) : takeLY len ok f = [] := by unfold takeLY; rw [if_neg h, if_pos h2]
end
theorem below_only {B : Nat} {a b c : World} {g : Nat} (h : Below B a b) (hB : B ≤ a.heap.size) (hg : b.grownBy c (some g)) (hBg : B ≤ g) : Below B a c :=
  h.grown hg (Nat.le_trans hB h.size) (fun x hx => by injection hx with hx; omega)

end Go.Proofs.YtldmjnbmjfnfeaaGreatDoor

namespace Go.Proofs.YtldmjnbmjfnfeaaGreatDoor
open Go Go.RowKit

set_option maxRecDepth 10000 in
set_option maxHeartbeats 800000 in
theorem ytake_odd {w : World} (A A' : Option Addr) (n n' c c' : Nat) (hl : n ≤ 1000000) (h : n % 24 ≠ 0) :
    Calls Tryz.prog 50 #[.slice A n c, .slice A' n' c'] w fun r w' => r = .returned (.tuple #[.slice none 0 0, .int .i64 23]) ∧ w = w' := by
  have hC := fun W => count_any (w := W) A n c 23 (by omega)
  rw [if_pos h, if_pos h] at hC
  clear h
  go_enter Tryz.func50, Tryz.ntmps50
  go_wp2_with (go_at_call 91; refine (hC _).mono ?_; rintro r w1 ⟨rfl, rfl⟩)
  go_ret2
  exact ⟨rfl, rfl⟩

theorem ytake_big {w : World} (A A' : Option Addr) (n n' c c' : Nat) (hl : n ≤ 1000000) (h : ¬ n % 24 ≠ 0) (h2 : 400 < n / 24) :
    Calls Tryz.prog 50 #[.slice A n c, .slice A' n' c'] w fun r w' => r = .returned (.tuple #[.slice none 0 0, .int .i64 3]) ∧ w = w' := by
  have hC := fun W => count_any (w := W) A n c 23 (by omega)
  rw [if_neg h, if_pos h2, if_neg h, if_pos h2] at hC
  clear h h2
  go_enter Tryz.func50, Tryz.ntmps50
  go_wp2_with (go_at_call 91; refine (hC _).mono ?_; rintro r w1 ⟨rfl, rfl⟩)
  go_ret2
  exact ⟨rfl, rfl⟩

/-- What is refused, or nothing. -/
def errOf (b : Bool) (bad : Int) : Int := match b with | true => 0 | false => bad
theorem sym_set {W : World} {ge k : Nat} (v0 v1 v2 v3 v4 v5 : Value) : setAll W ge (k * 6) [v0, v1, v2, v3, v4, v5] = (((((W.setCell ⟨ge, k * 6, none⟩ v0).setCell ⟨ge, k * 6 + 1, none⟩ v1).setCell ⟨ge, k * 6 + 2, none⟩ v2).setCell ⟨ge, k * 6 + 3, none⟩ v3).setCell ⟨ge, k * 6 + 4, none⟩ v4).setCell ⟨ge, k * 6 + 5, none⟩ v5 := rfl
theorem RowTo.lt {T : TypeId} {n ge q : Nat} {C : List Value} {w : World} (h : RowTo T n w ge q C) : ge < w.heap.size := by
  obtain ⟨R, hR⟩ := h
  exact (hR.lt ge rfl).2
/-- A round's end: an item stored into the row. -/
theorem take_step {T : TypeId} {n k ge q H gc a : Nat} {C vs : List Value} {w w5 : World} {vc : Value} {t : List UInt8} {cs : Array Value} (hT : T ≠ 190) (hT2 : 5 ≠ T) (hR : RowTo T n w5 ge q C) (hX : Box w5 H T cs) (hC : Cur w5 gc vc t a 0) (hB : Below w.heap.size w w5)
    (hgh : ge ≠ H) (hgc : gc ≠ ge) (hvc : vc.ownBlock ≠ some ge) (hl : C.length = k * n) (hvl : vs.length = n) (hk : k < q) (h1 : w.heap.size ≤ H) (h2 : w.heap.size ≤ ge) (i : Nat) (u : Value) :
    RowTo T n (setAll (w5.setCell ⟨H, i, none⟩ u) ge (k * n) vs) ge q (C ++ vs) ∧ Cur (setAll (w5.setCell ⟨H, i, none⟩ u) ge (k * n) vs) gc vc t a 0 ∧ Below w.heap.size w (setAll (w5.setCell ⟨H, i, none⟩ u) ge (k * n) vs) := by
  have hg : w5.grownBy (w5.setCell ⟨H, i, none⟩ u) (some H) := only_set (only_refl _ _) i u
  have hne : gc ≠ H := fun e => (hX.other hC.1 hT) e.symm
  have hR6 : RowTo T n _ ge q C := hR.kept hg (by simpa using hgh)
  have hC6 := hC.grown hg (by simpa using hne) (.inr (own_other hC.2.1 hX hT2))
  have hB6 := below_only hB (Nat.le_refl _) hg h1
  have hle : (k + 1) * n ≤ q * n := Nat.mul_le_mul_right n hk
  rw [Nat.add_mul] at hle
  obtain ⟨s1, s2⟩ := hR6.store vs (by rw [hl, hvl]; omega)
  rw [hl] at s1 s2
  exact ⟨s1, hC6.grown s2 (by simpa using hgc) (.inr hvc), below_only hB6 (Nat.le_refl _) s2 h2⟩
theorem rel_set {W : World} {ge k : Nat} (v0 v1 v2 v3 : Value) : setAll W ge (k * 4) [v0, v1, v2, v3] = (((W.setCell ⟨ge, k * 4, none⟩ v0).setCell ⟨ge, k * 4 + 1, none⟩ v1).setCell ⟨ge, k * 4 + 2, none⟩ v2).setCell ⟨ge, k * 4 + 3, none⟩ v3 := rfl

set_option maxRecDepth 10000 in
set_option maxHeartbeats 1600000 in
theorem ytake_even {w : World} {A A' : Option Addr} {t ns : List UInt8} {n q : Nat} (hn : t.length = n) (hlq : n = 24 * q) (hq4 : q ≤ 400) (hr : Rd w w.heap.size A t) (hr' : Rd w w.heap.size A' ns) (c c' : Nat) (hlc' : ns.length ≤ c') (hl' : ns.length ≤ 1000000) :
    Calls Tryz.prog 50 #[.slice A n c, .slice A' ns.length c'] w fun r w' => ∃ u, r = .returned (.tuple #[u, .int .i64 (errOf (okTo (okK t ns) q) 23)]) ∧ (okTo (okK t ns) q = true → OwnY w' w.heap.size u (listTo (symK t ns) q)) ∧ (okTo (okK t ns) q = false → u = .slice none 0 0) ∧ Below w.heap.size w w' := by
  have hC := fun W => count_any (w := W) A n c 23 (by omega)
  rw [if_neg (by omega), if_neg (by omega), if_neg (by omega), if_neg (by omega), show n / 24 = q by omega] at hC
  obtain ⟨i1, hj, hy0, hy1, hy2⟩ := info_parts sym_info
  have HN := Lib.hid (fun W (hW : W = w) => (by
    have := new_any (w := W) c (hW ▸ hr) (Nat.le_of_eq (by rw [hW])) (by omega)
    rwa [hn] at this : Calls Tryz.prog 81 #[.slice A n c] W fun r w' => ∃ g v, r = .returned (.pointer (some ⟨g, 0, none⟩)) ∧ Made W.heap.size w' g v t 0 ∧ Below W.heap.size W w'))
  have HA := Lib.hid (fun (W : World) (hW : Below w.heap.size w W) (off : Nat) (ho : off < two64) => at_any (hr'.below hW) hW.size c' hlc' (by omega) off ho)
  have hm1 : i1.bytes * q ≤ 281474976710656 := by rw [hy2]; omega
  have hm2 : q ≤ maxLen := by unfold maxLen; omega
  have HLQ := Lib.hid (show t.length = 24 * q by omega)
  have HQ4 := Lib.hid hq4
  clear hr hr' hl' hlc' hn hlq hq4
  generalize hn' : ns.length = n' at *
  clear hn'
  go_enter Tryz.func50, Tryz.ntmps50
  go_wp2_with (first
    | (go_at_call 91; refine (hC _).mono ?_; rintro r w1 ⟨rfl, rfl⟩)
    | (go_at_call 81; refine (HN.out _ rfl).mono ?_; rintro r w1 ⟨gc, vc, rfl, hM1, hb1⟩; have HM1 := Lib.hid hM1; have HB1 := Lib.hid hb1; clear hM1 hb1)
    | (at_make; refine wpList_make_full _ rfl _ _ 25 rfl w1.heap.size 51 i1 _ 6 Tryz.underlying25 hj hy0 hy1 .i64 .i64 (q : Int) (q : Int) q rfl rfl rfl rfl hm1 hm2 (Nat.le_refl _) ?_; intro w2 hown2 hg2))
  have hmf : ∀ (fn : Fn) (first cap : Array Value) (W : World), (Instr.makeFunc fn first cap).run Tryz.prog W = .ok (.func fn first cap) W := fun _ _ _ _ => rfl
  have hC1 := HM1.out.1
  have hgc : w.heap.size ≤ gc := HM1.out.2.1
  have hgl : gc < w1.heap.size := hC1.1.lt
  have hvc : vc.ownBlock ≠ some w1.heap.size := fun e => by have := (own_ge hC1.2.1 _ e).2; omega
  have hb12 : Below w1.heap.size w1 w2 := below_of_only hg2 (Nat.le_refl _) (by simp)
  have HC2 := Lib.hid (hC1.below hb12)
  have HW2 := Lib.hid (show RowTo 51 6 w2 w1.heap.size q (cellsF Sym.cells (listTo (symK t ns) 0)) from ⟨_, hown2⟩)
  have HB2 := Lib.hid (HB1.out.trans (hb12.mono HB1.out.size))
  have hbg : w.heap.size ≤ w1.heap.size := HB1.out.size
  clear hC hC1 HN HM1 HB1 hown2 hg2 hb12 hm1 hm2 hj hy0 hy1 hy2
  generalize w1.heap.size = ge at *
  have hgcne : gc ≠ ge := by omega
  have hgcne' : ge ≠ gc := by omega
  go_loopw [29] (fun i wr => ∃ k : Nat, k ≤ q ∧ i = .int .i64 k ∧ Hid (okTo (okK t ns) k = true) ∧ RowTo 51 6 wr ge q (cellsF Sym.cells (listTo (symK t ns) k)) ∧ Cur wr gc vc t (24 * k) 0 ∧ Below w.heap.size w wr) (fun i _ => q - (intOf i).toNat)
  case atStart => exact ⟨0, Nat.zero_le _, rfl, Lib.hid rfl, HW2.out, HC2.out, HB2.out⟩
  case round =>
    obtain ⟨k, hk, rfl, HOK, hR, hC, hB⟩ := hrel
    clear HC2 HW2
    by_cases hlt : k < q
    · have HLT := Lib.hid hlt
      have HS := Lib.hid (symbol_any (a := 24 * k) (by rw [HLQ.out]; have := HQ4.out; omega) (by rw [HLQ.out]; omega) hC)
      have HR := Lib.hid hR
      have HB := Lib.hid hB
      have hn4 := num4 t (24 * k)
      have hn2 := num2 t (24 * k + 6)
      have HK := Lib.hid (show symK t ns k = ⟨(atT ns (numT t (24 * k) 4)).1, ((numT t (24 * k + 4) 1 / 16 : Nat) : Int), ((numT t (24 * k + 4) 1 % 16 : Nat) : Int), (numT t (24 * k + 6) 2 : Int), numT t (24 * k + 8) 8, numT t (24 * k + 16) 8⟩ from rfl)
      have HO := Lib.hid (show okK t ns k = (decide ((atT ns (numT t (24 * k) 4)).2 = 0) && decide (numT t (24 * k + 6) 2 ≤ 65534)) from rfl)
      clear hR hC hB
      generalize numT t (24 * k) 4 = m0 at *
      generalize numT t (24 * k + 4) 1 / 16 = m1 at *
      generalize numT t (24 * k + 4) 1 % 16 = m2 at *
      generalize numT t (24 * k + 6) 2 = m3 at *
      generalize numT t (24 * k + 8) 8 = m4 at *
      generalize numT t (24 * k + 16) 8 = m5 at *
      obtain ⟨nm, hnm⟩ : ∃ x, (atT ns m0).1 = x := ⟨_, rfl⟩
      obtain ⟨ev, hev⟩ : ∃ x, (atT ns m0).2 = x := ⟨_, rfl⟩
      have HAm := Lib.hid (fun (W : World) (hW : Below w.heap.size w W) => HA.out W hW m0 (by unfold two64; omega))
      rw [hnm, hev] at HAm
      rw [hnm] at HK
      rw [hev] at HO
      clear hnm hev HA
      have FB := Lib.hid (fun (w4 : World) (hC4 : Cur w4 gc vc t (24 * k + 24) 0) (hG4 : wr.grownBy w4 (some gc)) => (by
        have hB4 : Below w.heap.size w w4 := below_only HB.out (Nat.le_refl _) hG4 hgc
        have hA4 : Below w4.heap.size w4 (w4.alloc (.cells #[.string ⟨#[]⟩, .int .i64 (m1 : Int), .int .i64 (m2 : Int), .int .i64 (m3 : Int), .int .u64 (m4 : Int), .int .u64 (m5 : Int)] 51)) := (Below.refl _ _).alloc (Nat.le_refl _) _
        have hR4 : RowTo 51 6 w4 ge q _ := HR.out.kept hG4 (by simpa using hgcne')
        refine ⟨hB4.trans (hA4.mono hB4.size), fun w5 hb5 => ?_⟩
        have hX5 := (Box.new w4 51 #[.string ⟨#[]⟩, .int .i64 (m1 : Int), .int .i64 (m2 : Int), .int .i64 (m3 : Int), .int .u64 (m4 : Int), .int .u64 (m5 : Int)]).below hb5 (by simp)
        have hb45 : Below w4.heap.size w4 w5 := hA4.trans (hb5.mono hA4.size)
        exact ⟨hX5, hC4.below hb45, hR4.below hb45, hB4.trans (hb45.mono hB4.size)⟩ :
        Below w.heap.size w (w4.alloc (.cells #[.string ⟨#[]⟩, .int .i64 (m1 : Int), .int .i64 (m2 : Int), .int .i64 (m3 : Int), .int .u64 (m4 : Int), .int .u64 (m5 : Int)] 51)) ∧
        ∀ w5, Below (w4.alloc (.cells #[.string ⟨#[]⟩, .int .i64 (m1 : Int), .int .i64 (m2 : Int), .int .i64 (m3 : Int), .int .u64 (m4 : Int), .int .u64 (m5 : Int)] 51)).heap.size (w4.alloc (.cells #[.string ⟨#[]⟩, .int .i64 (m1 : Int), .int .i64 (m2 : Int), .int .i64 (m3 : Int), .int .u64 (m4 : Int), .int .u64 (m5 : Int)] 51)) w5 →
          Box w5 w4.heap.size 51 #[.string ⟨#[]⟩, .int .i64 (m1 : Int), .int .i64 (m2 : Int), .int .i64 (m3 : Int), .int .u64 (m4 : Int), .int .u64 (m5 : Int)] ∧ Cur w5 gc vc t (24 * k + 24) 0 ∧ RowTo 51 6 w5 ge q (cellsF Sym.cells (listTo (symK t ns) k)) ∧ Below w.heap.size w w5))
      have hclen : (cellsF Sym.cells (listTo (symK t ns) k)).length = k * 6 := by rw [cellsF_length sym_six, listTo_length]
      have HCL := Lib.hid hclen
      clear hclen
      by_cases he : ev = 0
      · have q0 : (ev != 0) = false := by simp [he]
        rw [decide_eq_true he, Bool.true_and] at HO
        clear he
        by_cases h5 : m3 ≤ 65534
        · have q1 : decide ((65534 : Int) < (m3 : Int)) = false := decide_eq_false (by omega)
          rw [decide_eq_true h5] at HO
          clear h5
          go_wp2_with (first
            | (go_at_call 92; refine HS.out.mono ?_; rintro r w4 ⟨rfl, hC4, hG4⟩; (obtain ⟨hb4, hf4⟩ := FB.out w4 hC4 hG4); have HHLT := Lib.hid (show ge < w4.heap.size from Nat.lt_of_lt_of_le HR.out.lt hG4.size); clear hC4 hG4)
            | (go_at_call 90; refine (HAm.out _ hb4).mono ?_; rintro r w5 ⟨rfl, hb5⟩; (obtain ⟨hX5, hC5, hR5, hB5⟩ := hf4 _ hb5); have HX5 := Lib.hid hX5; have HC5 := Lib.hid hC5; have HR5 := Lib.hid hR5; have HB5 := Lib.hid hB5; (obtain ⟨k0, k1, k2, k3, k4, k5⟩ := six_cells hX5); (obtain ⟨f0, f1, f2, f3, f4, f5⟩ := six_free hX5); (obtain ⟨⟨y0, g0⟩, z0⟩ := hR5.free (k * 6) (by omega)); (obtain ⟨⟨y1, g1⟩, z1⟩ := hR5.free (k * 6 + 1) (by omega)); (obtain ⟨⟨y2, g2⟩, z2⟩ := hR5.free (k * 6 + 2) (by omega)); (obtain ⟨⟨y3, g3⟩, z3⟩ := hR5.free (k * 6 + 3) (by omega)); (obtain ⟨⟨y4, g4⟩, z4⟩ := hR5.free (k * 6 + 4) (by omega)); (obtain ⟨⟨y5, g5⟩, z5⟩ := hR5.free (k * 6 + 5) (by omega)); have hgh1 : ge ≠ w4.heap.size := (by have := HHLT.out; omega); have hgh2 : w4.heap.size ≠ ge := (by have := HHLT.out; omega); clear hX5 hC5 hR5 hB5 hb5 hf4 hb4))
          obtain ⟨e1, e2, e3⟩ := take_step (vs := [.string ⟨nm.toArray⟩, .int .i64 (m1 : Int), .int .i64 (m2 : Int), .int .i64 (m3 : Int), .int .u64 (m4 : Int), .int .u64 (m5 : Int)]) (by decide) (by decide) HR5.out HX5.out HC5.out HB5.out hgh1 hgcne hvc HCL.out rfl hlt (by have := HHLT.out; omega) hbg 0 (.string ⟨nm.toArray⟩)
          rw [sym_set] at e1 e2 e3
          have E1 := Lib.hid e1
          have E2 := Lib.hid e2
          have E3 := Lib.hid e3
          clear e1 e2 e3 k0 k1 k2 k3 k4 k5 f0 f1 f2 f3 f4 f5 g0 g1 g2 g3 g4 g5 z0 z1 z2 z3 z4 z5 HX5 HC5 HR5 HB5
          go_roundw
          case rel =>
            refine ⟨k + 1, by have := HLT.out; omega, by (have h1 := HLT.out; have h2 := HQ4.out; have h3 : wrap64 ((k : Int) + 1) = (k : Int) + 1 := (by unfold wrap64; omega); rw [h3]; rfl), Lib.hid (by rw [okTo_next, HOK.out, HO.out]; rfl), ?_, E2.out, E3.out⟩
            rw [listTo_next, cellsF_append, cellsF_one, HK.out]
            exact E1.out
          case measure => have h1 := HLT.out; have h2 := HQ4.out; have h3 : wrap64 ((k : Int) + 1) = (k : Int) + 1 := (by unfold wrap64; omega); rw [h3]; simp [intOf]; omega
        · have q1 : decide ((65534 : Int) < (m3 : Int)) = true := decide_eq_true (by omega)
          rw [decide_eq_false h5] at HO
          have HF := Lib.hid (okTo_more hlt (show okK t ns k = false by rw [HO.out]))
          clear h5
          go_wp2_with (first
            | (go_at_call 92; refine HS.out.mono ?_; rintro r w4 ⟨rfl, hC4, hG4⟩; (obtain ⟨hb4, hf4⟩ := FB.out w4 hC4 hG4); clear hC4 hG4)
            | (go_at_call 90; refine (HAm.out _ hb4).mono ?_; rintro r w5 ⟨rfl, hb5⟩; (obtain ⟨hX5, hC5, hR5, hB5⟩ := hf4 _ hb5); have HB5 := Lib.hid hB5; (obtain ⟨k0, k1, k2, k3, k4, k5⟩ := six_cells hX5); clear hX5 hC5 hR5 hB5 hb5 hf4 hb4))
          go_ret2
          exact ⟨_, by rw [HF.out]; rfl, fun h => absurd (HF.out.symm.trans h) (by decide), fun _ => rfl, HB5.out⟩
      · have q0 : (ev != 0) = true := by simpa using he
        rw [decide_eq_false he, Bool.false_and] at HO
        have HF := Lib.hid (okTo_more hlt (show okK t ns k = false by rw [HO.out]))
        clear he
        go_wp2_with (first
          | (go_at_call 92; refine HS.out.mono ?_; rintro r w4 ⟨rfl, hC4, hG4⟩; (obtain ⟨hb4, hf4⟩ := FB.out w4 hC4 hG4); clear hC4 hG4)
          | (go_at_call 90; refine (HAm.out _ hb4).mono ?_; rintro r w5 ⟨rfl, hb5⟩; (obtain ⟨hX5, hC5, hR5, hB5⟩ := hf4 _ hb5); have HB5 := Lib.hid hB5; clear hX5 hC5 hR5 hB5 hb5 hf4 hb4))
        go_ret2
        exact ⟨_, by rw [HF.out]; rfl, fun h => absurd (HF.out.symm.trans h) (by decide), fun _ => rfl, HB5.out⟩
    · have hkq : k = q := by omega
      subst hkq
      have HD := Lib.hid (show OwnY wr w.heap.size (.slice (some ⟨ge, 0, none⟩) k k) (listTo (symK t ns) k) by
        rw [OwnY, listTo_length]
        exact hR.done (by rw [cellsF_length sym_six, listTo_length]) hbg)
      have HB := Lib.hid hB
      clear hR hC hB
      go_wp2_with fail
      go_ret2
      exact ⟨_, by rw [HOK.out]; rfl, fun _ => HD.out, fun h => absurd (HOK.out.symm.trans h) (by decide), HB.out⟩

/-- Take, of whatever bytes. -/
theorem ytake_any {w : World} {A A' : Option Addr} {t ns : List UInt8} (hr : Rd w w.heap.size A t) (hr' : Rd w w.heap.size A' ns) (c c' : Nat) (hlc' : ns.length ≤ c') (hl : t.length ≤ 1000000) (hl' : ns.length ≤ 1000000) :
    Calls Tryz.prog 50 #[.slice A t.length c, .slice A' ns.length c'] w fun r w' => ∃ u, r = .returned (.tuple #[u, .int .i64 (takeEY t.length (okK t ns) 23)]) ∧ OwnY w' w.heap.size u (takeLY t.length (okK t ns) (symK t ns)) ∧ Below w.heap.size w w' := by
  by_cases h1 : t.length % 24 ≠ 0
  · rw [takeEY_odd h1, takeLY_odd h1]
    exact (ytake_odd A A' _ _ c c' hl h1).mono fun r w' ⟨e, hw⟩ => ⟨_, e, World.ownsRow_nil _ _ _ _, hw ▸ Below.refl _ _⟩
  · by_cases h2 : 400 < t.length / 24
    · rw [takeEY_big h1 h2, takeLY_big h1 h2]
      exact (ytake_big A A' _ _ c c' hl h1 h2).mono fun r w' ⟨e, hw⟩ => ⟨_, e, World.ownsRow_nil _ _ _ _, hw ▸ Below.refl _ _⟩
    · have hq : t.length = 24 * (t.length / 24) := by omega
      refine (ytake_even rfl hq (by omega) hr hr' c c' hlc' hl').mono fun r w' ⟨u, e, g1, g2, hb⟩ => ⟨u, ?_, ?_, hb⟩
      · rw [e]
        cases ho : okTo (okK t ns) (t.length / 24) with
        | true => rw [takeEY_ok hq (by omega) ho]; rfl
        | false => rw [takeEY_bad hq (by omega) ho]; rfl
      · cases ho : okTo (okK t ns) (t.length / 24) with
        | true => rw [takeLY_ok hq (by omega) ho]; exact g1 ho
        | false => rw [takeLY_bad hq (by omega) ho, g2 ho]; exact World.ownsRow_nil _ _ _ _

end Go.Proofs.YtldmjnbmjfnfeaaGreatDoor
