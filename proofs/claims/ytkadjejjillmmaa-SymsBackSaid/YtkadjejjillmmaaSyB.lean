/-
  Package syms: count; the numbers of an entry by a cursor's methods that are handed on as values (symbol, rela).
-/

import Derived.Test.YtkadjejjillmmaaSyA
import Derived.Test.YtkadjejjillmmaaPut
import Derived.Test.YtkadjejjillmmaaEhD
namespace Go.Proofs.Ytkadjejjillmmaa
open Go Go.RowKit

/-! ### count -/
theorem divI (n : Nat) : ((n : Int).tdiv 24) = ((n / 24 : Nat) : Int) := by rw [Int.tdiv_eq_ediv_of_nonneg (by omega)]; omega
theorem modI (n : Nat) : ((n : Int).tmod 24) = ((n % 24 : Nat) : Int) := by rw [Int.tmod_eq_emod_of_nonneg (by omega)]; omega

theorem count_any {w : World} (A : Option Addr) (n c : Nat) (bad : Int) (hn : n ≤ 140737488355328) :
    Calls Try.prog 20 #[.slice A n c, .int .i64 bad] w fun r w' =>
      r = .returned (.tuple #[.int .i64 ((if n % 24 ≠ 0 then 0 else if 400 < n / 24 then 0 else n / 24 : Nat) : Int), .int .i64 (if n % 24 ≠ 0 then bad else if 400 < n / 24 then 3 else 0)]) ∧ w = w' := by
  have hd := divI n
  have hm := modI n
  have hdl : n / 24 ≤ n := Nat.div_le_self _ _
  by_cases h1 : n % 24 = 0
  · have hn0 : ¬ (n % 24 ≠ 0) := by omega
    have hz : (((n % 24 : Nat) : Int) != 0) = false := by rw [h1]; rfl
    by_cases h2 : 400 < n / 24
    · rw [if_neg hn0, if_pos h2, if_neg hn0, if_pos h2]
      clear hn0
      generalize n / 24 = q at *
      generalize n % 24 = m at *
      have hq : decide ((400 : Int) < (q : Int)) = true := decide_eq_true (by omega)
      clear h1 h2
      go_enter Try.func20, Try.ntmps20
      go_wp2_with fail
      go_ret2
      exact ⟨rfl, rfl⟩
    · rw [if_neg hn0, if_neg h2, if_neg hn0, if_neg h2]
      clear hn0
      generalize n / 24 = q at *
      generalize n % 24 = m at *
      have hq : decide ((400 : Int) < (q : Int)) = false := decide_eq_false (by omega)
      clear h1 h2
      go_enter Try.func20, Try.ntmps20
      go_wp2_with fail
      go_ret2
      exact ⟨rfl, rfl⟩
  · rw [if_pos h1, if_pos h1]
    have hz : (((n % 24 : Nat) : Int) != 0) = true := by simp; omega
    generalize n / 24 = q at *
    generalize n % 24 = m at *
    clear h1
    go_enter Try.func20, Try.ntmps20
    go_wp2_with fail
    go_ret2
    exact ⟨rfl, rfl⟩

/-! ### A cursor, a struct in memory beside it, and what has not turned since w0 -/
def StY (T : TypeId) (w0 w : World) (g : Nat) (v : Value) (l : List UInt8) (a : Nat) (H : Nat) (cs : Array Value) : Prop :=
  Cur w g v l a 0 ∧ Box w H T cs ∧ w0.grownBy w (some g)
section
variable {T : TypeId} {w0 w w' : World} {g : Nat} {v : Value} {l : List UInt8} {a b H : Nat} {cs : Array Value}
theorem StY.call (h : StY T w0 w g v l a H cs) (hne : g ≠ H) (hC : Cur w' g v l b 0) (hG : w.grownBy w' (some g)) : StY T w0 w' g v l b H cs :=
  ⟨hC, h.2.1.grown hG (by simpa using fun e => hne e.symm), h.2.2.trans hG⟩
theorem StY.set (h : StY T w0 w g v l a H cs) (hT : 5 ≠ T) (hne : g ≠ H) (hH : w0.heap.size ≤ H) (i : Nat) (u : Value) : StY T w0 (w.setCell ⟨H, i, none⟩ u) g v l a H (cs.setIfInBounds i u) :=
  have G : w.grownBy (w.setCell ⟨H, i, none⟩ u) (some H) := only_set (only_refl w (some H)) i u
  ⟨h.1.grown G (by simpa using hne) (.inr (own_other h.1.2.1 h.2.1 hT)), h.2.1.set i u, only_trans h.2.2 G (.inr fun x hx => by injection hx with hx; omega)⟩
theorem got_inY {n : Nat} (h : a + n ≤ l.length) : nextGot l a 0 n = cutT l a n ∧ nextAt l a 0 n = a + n ∧ nextErr l a 0 n = 0 := by
  have h' : n ≤ l.length - a := by omega
  simp [nextGot, nextAt, nextErr, cutT, h']
theorem StY.u8 (h : StY T w0 w g v l a H cs) (hne : g ≠ H) (hl : l.length ≤ 140737488355328) (ha : a + 1 ≤ l.length) :
    Calls Try.prog 23 #[.pointer (some ⟨g, 0, none⟩)] w fun r w' => r = .returned (.int .u64 (numT l a 1 : Int)) ∧ StY T w0 w' g v l (a + 1) H cs := by
  obtain ⟨e1, e2, e3⟩ := got_inY ha
  have := u8_cur h.1 hl
  rw [e1, e2, e3] at this
  exact this.mono fun _ _ ⟨h1, h2, h3⟩ => ⟨h1, h.call hne h2 h3⟩
theorem StY.u16 (h : StY T w0 w g v l a H cs) (hne : g ≠ H) (hl : l.length ≤ 140737488355328) (ha : a + 2 ≤ l.length) :
    Calls Try.prog 24 #[.pointer (some ⟨g, 0, none⟩)] w fun r w' => r = .returned (.int .u64 (numT l a 2 : Int)) ∧ StY T w0 w' g v l (a + 2) H cs := by
  obtain ⟨e1, e2, e3⟩ := got_inY ha
  have := u16_cur h.1 hl
  rw [e1, e2, e3] at this
  exact this.mono fun _ _ ⟨h1, h2, h3⟩ => ⟨h1, h.call hne h2 h3⟩
theorem StY.u32 (h : StY T w0 w g v l a H cs) (hne : g ≠ H) (hl : l.length ≤ 140737488355328) (ha : a + 4 ≤ l.length) :
    Calls Try.prog 25 #[.pointer (some ⟨g, 0, none⟩)] w fun r w' => r = .returned (.int .u64 (numT l a 4 : Int)) ∧ StY T w0 w' g v l (a + 4) H cs := by
  obtain ⟨e1, e2, e3⟩ := got_inY ha
  have := u32_cur h.1 hl
  rw [e1, e2, e3] at this
  exact this.mono fun _ _ ⟨h1, h2, h3⟩ => ⟨h1, h.call hne h2 h3⟩
theorem StY.u64 (h : StY T w0 w g v l a H cs) (hne : g ≠ H) (hl : l.length ≤ 140737488355328) (ha : a + 8 ≤ l.length) :
    Calls Try.prog 26 #[.pointer (some ⟨g, 0, none⟩)] w fun r w' => r = .returned (.int .u64 (numT l a 8 : Int)) ∧ StY T w0 w' g v l (a + 8) H cs := by
  obtain ⟨e1, e2, e3⟩ := got_inY ha
  have := u64_cur h.1 hl
  rw [e1, e2, e3] at this
  exact this.mono fun _ _ ⟨h1, h2, h3⟩ => ⟨h1, h.call hne h2 h3⟩
end

/-- Behind a return: a number, and a struct in its cell. -/
theorem ret_numbox {fn : Func} {p u : Tmp} {T : TypeId} {fs : Array Field} (hT : Try.prog.underlying T = some (.struct fs)) (hres : fn.results = #[.tmp u, .cell p T]) {R : Ending → World → Prop} {a : Act} {W : World} {H : Nat} {cs : Array Value} (hB : Box W H T cs) (hcs : (Try.prog.info? T).map (·.size) = some cs.size)
    (hp : a.tmps.getD p undef = .pointer (some ⟨H, 0, none⟩)) (hd : a.defers = []) (h : R (.returned (.tuple #[a.tmps.getD u undef, .agg cs])) W) : bodyPost Try.prog fn R .ret a W := by
  refine bodyPost_ret (v := .tuple #[a.tmps.getD u undef, .agg cs]) ?_ hd h
  have hl := run_loadVar_row (P := Try.prog) W H T T cs (0, 0) _ hB hT rfl hcs
  have hp' : a.tmps[p]?.getD undef = .pointer (some ⟨H, 0, none⟩) := by simpa using hp
  simp only [results, hres]
  simp [Result.andThen, hp', asAddr, hl]

theorem shr4 (n : Nat) (h : n < 256) : bits .and .u64 (n : Int) 15 = ((n % 16 : Nat) : Int) := by
  have h7 : (BitVec.ofInt 64 15).toNat = 2 ^ 4 - 1 := by decide
  have key : (BitVec.ofInt 64 n &&& BitVec.ofInt 64 15).toNat = ((n : Int) % ((2 ^ 64 : Nat) : Int)).toNat % 2 ^ 4 := by
    rw [BitVec.toNat_and, BitVec.toNat_ofInt, h7, Nat.and_two_pow_sub_one_eq_mod]
  show IntKind.u64.wrap ((BitVec.ofInt 64 n &&& BitVec.ofInt 64 15).toNat : Nat) = ((n % 16 : Nat) : Int)
  rw [key, IntKind.wrap_u64]
  omega

set_option maxHeartbeats 1600000 in
set_option maxRecDepth 10000 in
theorem rela_any {w : World} {g : Nat} {v : Value} {l : List UInt8} {a : Nat} (hlen : l.length ≤ 140737488355328) (hin : a + 24 ≤ l.length) (h : Cur w g v l a 0) :
    Calls Try.prog 30 #[methV 25 g, methV 26 g] w fun r w' =>
      r = .returned (.tuple #[.agg #[.int .u64 (numT l a 8 : Int), .int .i64 (numT l (a + 12) 4 : Int), .int .i64 (numT l (a + 8) 4 : Int), .int .i64 (IntKind.i64.wrap (numT l (a + 16) 8 : Int))], .bool (decide (numT l (a + 8) 4 ≤ 2147483647) && decide (numT l (a + 12) 4 ≤ 2147483647))]) ∧
      Cur w' g v l (a + 24) 0 ∧ w.grownBy w' (some g) := by
  have hne : g ≠ w.heap.size := by have := h.1.lt; omega
  have hs : w.heap.size ≤ w.heap.size := Nat.le_refl _
  have hT : 5 ≠ 48 := by decide
  have HS0 := Lib.hid (show StY 48 w (w.alloc (.cells #[.int .u64 0, .int .i64 0, .int .i64 0, .int .i64 0] 48)) g v l a w.heap.size #[.int .u64 0, .int .i64 0, .int .i64 0, .int .i64 0] from
    ⟨h.below ((Below.refl _ _).alloc (Nat.le_refl _) _), Box.new _ _ _, only_below ((Below.refl _ _).alloc (Nat.le_refl _) _) _⟩)
  have C0 := Lib.hid (fun W cs (hS : StY 48 w W g v l a w.heap.size cs) => hS.u64 hne hlen (by omega))
  have C1 := Lib.hid (fun W cs (hS : StY 48 w W g v l (a + 8) w.heap.size cs) => hS.u32 hne hlen (by omega))
  have C2 := Lib.hid (fun W cs (hS : StY 48 w W g v l (a + 12) w.heap.size cs) => hS.u32 hne hlen (by omega))
  have C3 := Lib.hid (fun W cs (hS : StY 48 w W g v l (a + 16) w.heap.size cs) => hS.u64 hne hlen (by omega))
  have N1 := num4 l (a + 8)
  have N2 := num4 l (a + 12)
  generalize numT l a 8 = n0 at *
  generalize numT l (a + 8) 4 = n1 at *
  generalize numT l (a + 12) 4 = n2 at *
  generalize numT l (a + 16) 8 = n3 at *
  have e1 : IntKind.i64.wrap (n1 : Int) = (n1 : Int) := by rw [IntWalk.i64_in _ (by omega)]
  have e2 : IntKind.i64.wrap (n2 : Int) = (n2 : Int) := by rw [IntWalk.i64_in _ (by omega)]
  have q1 : decide ((n1 : Int) ≤ 2147483647) = decide (n1 ≤ 2147483647) := decide_eq_decide.2 (by omega)
  have q2 : decide ((n2 : Int) ≤ 2147483647) = decide (n2 ≤ 2147483647) := decide_eq_decide.2 (by omega)
  obtain ⟨b1, hb1⟩ : ∃ b, decide (n1 ≤ 2147483647) = b := ⟨_, rfl⟩
  obtain ⟨b2, hb2⟩ : ∃ b, decide (n2 ≤ 2147483647) = b := ⟨_, rfl⟩
  rw [hb1] at q1
  rw [hb2] at q2
  rw [hb1, hb2]
  generalize hy : IntKind.i64.wrap (n3 : Int) = y at *
  clear h N1 N2 hlen hin hb1 hb2
  have HN := Lib.hid hne
  clear hne
  go_enter Try.func30, Try.ntmps30
  go_wp2_with fail
  refine (C0.out _ _ HS0.out).mono ?_
  rintro r w1 ⟨rfl, h⟩
  have c0 := h.2.1.cell 0
  have fr0 := h.2.1.free 0
  simp at c0
  have HS1 := Lib.hid (show StY 48 w _ g v l (a + 8) w.heap.size #[.int .u64 (n0 : Int), .int .i64 0, .int .i64 0, .int .i64 0] from h.set hT HN.out hs 0 (.int .u64 (n0 : Int)))
  clear h C0 HS0
  go_wp2_with fail
  refine (C1.out _ _ HS1.out).mono ?_
  rintro r w2 ⟨rfl, h⟩
  have HS2 := Lib.hid (show StY 48 w w2 g v l (a + 12) w.heap.size _ from h)
  clear h C1 HS1 c0 fr0
  go_wp2_with fail
  refine (C2.out _ _ HS2.out).mono ?_
  rintro r w3 ⟨rfl, h⟩
  have c0 := h.2.1.cell 2
  have fr0 := h.2.1.free 2
  have c1 := h.2.1.cell 1
  have fr1 := h.2.1.free 1
  simp at c0 c1
  have HS3 := Lib.hid (show StY 48 w _ g v l (a + 16) w.heap.size #[.int .u64 (n0 : Int), .int .i64 (n2 : Int), .int .i64 (n1 : Int), .int .i64 0] from (h.set hT HN.out hs 2 (.int .i64 (n1 : Int))).set hT HN.out hs 1 (.int .i64 (n2 : Int)))
  clear h C2 HS2
  go_wp2_with fail
  refine (C3.out _ _ HS3.out).mono ?_
  rintro r w4 ⟨rfl, h⟩
  have c2 := h.2.1.cell 3
  have fr2 := h.2.1.free 3
  simp at c2
  have k0 := h.2.1.cell 0
  have k1 := h.2.1.cell 1
  have k2 := h.2.1.cell 2
  simp at k0 k1 k2
  obtain ⟨f0, f1, f2, -⟩ := four_free h.2.1
  have HS6 := Lib.hid (show StY 48 w _ g v l (a + 24) w.heap.size #[.int .u64 (n0 : Int), .int .i64 (n2 : Int), .int .i64 (n1 : Int), .int .i64 y] from h.set hT HN.out hs 3 (.int .i64 y))
  clear h C3 HS3 c0 fr0 c1 fr1
  cases b1
  all_goals
    go_wp2_with fail
    refine ret_two Try.underlying48 Try.results30 (four_box (show Box (w4.setCell ⟨w.heap.size, 3, none⟩ (.int .i64 y)) w.heap.size 48 _ from HS6.out.2.1) rfl _ _ _ _) (by kernel_rfl) (by rfl) rfl ?_
    exact ⟨rfl, HS6.out.1.grown (four_only _ _ _ _ _ _) (by simpa using HN.out) (.inr (own_other HS6.out.1.2.1 HS6.out.2.1 hT)), only_trans HS6.out.2.2 (four_only _ _ _ _ _ _) (.inr fun x hx => by injection hx with hx; omega)⟩

end Go.Proofs.Ytkadjejjillmmaa
