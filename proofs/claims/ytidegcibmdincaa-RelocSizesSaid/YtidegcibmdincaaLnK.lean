/-
  Package linkmap: whether a section is left out (out).
-/
import Derived.Test.YtidegcibmdincaaLnF
import Derived.Test.YtidegcibmdincaaGpN
import Derived.Test.YtidegcibmdincaaObX
namespace Go.Proofs.Ytidegcibmdincaa
open Go Go.RowKit

/-- The section that a place names. -/
def secK (O : List ObjV) (o s : Int) : Option Lay := if 0 ≤ o ∧ 0 ≤ s then (O[o.toNat]?).bind fun ob => ob.L[s.toNat]? else none
/-- Is it left out? -/
def outB (Q : List BLay) (o s : Int) : Bool := match Q[o.toNat]? with | some q => q.l.getD s.toNat false | none => false
/-- How many bytes it has. -/
def sizK (O : List ObjV) (p : Place) : Nat := match secK O p.obj p.sect with | some x => x.s.data.length | none => 0
/-- May a place be, behind others? -/
def goodP (O : List ObjV) (Q : List BLay) (P : List Place) (p : Place) : Bool :=
  match secK O p.obj p.sect with
  | none => false
  | some x => !(outB Q p.obj p.sect) && (memB x.s.flags && ((outK P p.obj p.sect).isNone && decide (p.addr < 18446744073709551615 - x.s.data.length)))
theorem secK_some {O : List ObjV} {o s : Int} {x : Lay} (h : secK O o s = some x) : ∃ (i k : Nat) (ob : ObjV), o = i ∧ s = k ∧ O[i]? = some ob ∧ ob.L[k]? = some x := by
  unfold secK at h
  split at h
  · rename_i hh
    obtain ⟨ob, h1, h2⟩ := Option.bind_eq_some_iff.1 h
    exact ⟨o.toNat, s.toNat, ob, by omega, by omega, h1, h2⟩
  · cases h

set_option maxRecDepth 10000 in
set_option maxHeartbeats 1600000 in
theorem among_any {w : World} {B : Nat} {a : Option Addr} {c : Nat} {O : List ObjV} (h : Objs w B a O) (hB : B ≤ w.heap.size) (hL : ∀ ob ∈ O, ob.L.length ≤ 100000) (o s : Int) :
    Calls Try.prog 34 #[.agg #[.int .i64 o, .int .i64 s], .slice a O.length c] w fun r w' => r = .returned (.bool (secK O o s).isSome) ∧ Below w.heap.size w w' := by
  obtain ⟨N, hN⟩ : ∃ N, O.length = N := ⟨_, rfl⟩
  generalize hw0 : w.alloc (.cells #[.int .i64 o, .int .i64 s] 80) = w0 at *
  have hb0 : Below w.heap.size w w0 := hw0 ▸ (Below.refl _ _).alloc (Nat.le_refl _) _
  have hX0 := Box.new w 80 #[.int .i64 o, .int .i64 s]
  rw [hw0] at hX0
  have x0 := hX0.cell 0
  have x1 := hX0.cell 1
  simp at x0 x1
  have HB := Lib.hid hb0
  have h0 := h.below (hb0.mono hB)
  rw [hN]
  clear hX0 hb0
  by_cases h1 : o < 0
  · rw [show secK O o s = none by unfold secK; rw [if_neg (by omega)]]
    have d1 : decide ((0 : Int) ≤ o) = false := decide_eq_false (by omega)
    clear h h0 hN hL
    go_enter Try.func34, Try.ntmps34
    go_upto_region 1 with fail
    try rw [hw0]
    clear hw0
    go_quiet (fail)
    go_wp2_with fail
    go_ret
    exact ⟨rfl, below_drewN HB.out _⟩
  · obtain ⟨i, rfl⟩ := Int.eq_ofNat_of_zero_le (by omega : 0 ≤ o)
    have d1 : decide ((0 : Int) ≤ (i : Int)) = true := decide_eq_true (by omega)
    by_cases h2 : N ≤ i
    · rw [show secK O (i : Int) s = none by unfold secK; split; rw [List.getElem?_eq_none (by simp; omega)]; rfl; rfl]
      have d2 : decide ((i : Int) < (N : Int)) = false := decide_eq_false (by omega)
      have d2n : decide (i < N) = false := decide_eq_false (by omega)
      clear h h0 hN hL
      go_enter Try.func34, Try.ntmps34
      go_upto_region 1 with fail
      try rw [hw0]
      clear hw0
      go_quiet (fail)
      go_wp2_with fail
      go_ret
      exact ⟨rfl, below_drewN HB.out _⟩
    · have d2 : decide ((i : Int) < (N : Int)) = true := decide_eq_true (by omega)
      have d2n : decide (i < N) = true := decide_eq_true (by omega)
      obtain ⟨ob, hob⟩ : ∃ ob, O[i]? = some ob := ⟨_, List.getElem?_eq_getElem (by rw [hN]; omega)⟩
      by_cases h3 : s < 0
      · rw [show secK O (i : Int) s = none by unfold secK; rw [if_neg (by omega)]]
        have d3 : decide ((0 : Int) ≤ s) = false := decide_eq_false (by omega)
        clear h h0 hN hL hob
        go_enter Try.func34, Try.ntmps34
        go_upto_region 1 with fail
        try rw [hw0]
        clear hw0
        go_quiet (fail)
        go_wp2_with fail
        go_ret
        exact ⟨rfl, below_drewN HB.out _⟩
      · obtain ⟨k, rfl⟩ := Int.eq_ofNat_of_zero_le (by omega : 0 ≤ s)
        have d3 : decide ((0 : Int) ≤ (k : Int)) = true := decide_eq_true (by omega)
        have HK := Lib.hid (show (secK O (i : Int) (k : Int)).isSome = decide (k < ob.L.length) from by
          unfold secK
          rw [if_pos (by omega)]
          simp only [Int.toNat_natCast, hob, Option.bind_some]
          rw [Bool.eq_iff_iff]
          simp)
        have hd : decide ((k : Int) < (ob.L.length : Int)) = decide (k < ob.L.length) := by rw [Bool.eq_iff_iff]; simp
        have hll := hL ob (List.mem_of_getElem? hob)
        obtain ⟨b, oo, rfl, hb, n0, n1, n2, n3, n4⟩ := h0.at_ hob
        have hin : i < N := by omega
        clear h h0 hN hL hob n0 n1 n3 n4
        generalize ob.L.length = ll at *
        go_enter Try.func34, Try.ntmps34
        go_upto_region 1 with fail
        try rw [hw0]
        clear hw0
        go_quiet (fail)
        go_wp2_with fail
        go_ret
        exact ⟨by rw [HK.out]; rfl, below_drewN HB.out _⟩

end Go.Proofs.Ytidegcibmdincaa

namespace Go.Proofs.Ytidegcibmdincaa
open Go Go.RowKit

set_option maxRecDepth 10000 in
set_option maxHeartbeats 1600000 in
theorem out_any {w : World} {B : Nat} {a : Option Addr} {c : Nat} {Q : List BLay} (h : BRows w B a Q) (hB : B ≤ w.heap.size) (i k : Nat) :
    Calls Try.prog 35 #[.agg #[.int .i64 (i : Int), .int .i64 (k : Int)], .slice a Q.length c] w fun r w' => r = .returned (.bool (outB Q (i : Int) (k : Int))) ∧ Below w.heap.size w w' := by
  obtain ⟨N, hN⟩ : ∃ N, Q.length = N := ⟨_, rfl⟩
  generalize hw0 : w.alloc (.cells #[.int .i64 (i : Int), .int .i64 (k : Int)] 80) = w0 at *
  have hb0 : Below w.heap.size w w0 := hw0 ▸ (Below.refl _ _).alloc (Nat.le_refl _) _
  have hX0 := Box.new w 80 #[.int .i64 (i : Int), .int .i64 (k : Int)]
  rw [hw0] at hX0
  have x0 := hX0.cell 0
  have x1 := hX0.cell 1
  simp at x0 x1
  have HB := Lib.hid hb0
  have h0 := h.below (hb0.mono hB)
  rw [hN]
  clear hX0 hb0
  by_cases h2 : N ≤ i
  · rw [show outB Q (i : Int) (k : Int) = false by unfold outB; rw [Int.toNat_natCast, List.getElem?_eq_none (by omega)]]
    have d2 : decide ((i : Int) < (N : Int)) = false := decide_eq_false (by omega)
    have d2n : decide (i < N) = false := decide_eq_false (by omega)
    clear h h0 hN
    go_enter Try.func35, Try.ntmps35
    go_upto_region 1 with fail
    try rw [hw0]
    clear hw0
    go_quiet (fail)
    go_wp2_with fail
    go_ret
    exact ⟨rfl, below_drewN HB.out _⟩
  · have d2 : decide ((i : Int) < (N : Int)) = true := decide_eq_true (by omega)
    have d2n : decide (i < N) = true := decide_eq_true (by omega)
    have hin : i < N := by omega
    obtain ⟨q, hq⟩ : ∃ q, Q[i]? = some q := ⟨_, List.getElem?_eq_getElem (by rw [hN]; omega)⟩
    obtain ⟨b, oo, rfl, hb, n0⟩ := h0.at_ hq
    have HE := Lib.hid (show outB Q (i : Int) (k : Int) = q.l.getD k false by unfold outB; rw [Int.toNat_natCast, hq]; simp)
    have hok := h0.ok q (List.mem_of_getElem? hq)
    obtain ⟨M, hM⟩ : ∃ M, q.l.length = M := ⟨_, rfl⟩
    by_cases h3 : M ≤ k
    · have HF := Lib.hid (show q.l.getD k false = false by rw [List.getD_eq_getElem?_getD, List.getElem?_eq_none (by omega)]; rfl)
      have d3 : decide ((k : Int) < (M : Int)) = false := decide_eq_false (by omega)
      have d3n : decide (k < M) = false := decide_eq_false (by omega)
      rw [hM] at n0
      clear h h0 hN hq hok hM
      go_enter Try.func35, Try.ntmps35
      go_upto_region 1 with fail
      try rw [hw0]
      clear hw0
      go_quiet (fail)
      go_wp2_with fail
      go_ret
      exact ⟨by rw [HE.out, HF.out]; rfl, below_drewN HB.out _⟩
    · have d3 : decide ((k : Int) < (M : Int)) = true := decide_eq_true (by omega)
      have d3n : decide (k < M) = true := decide_eq_true (by omega)
      have hkM : k < M := by omega
      obtain ⟨m, hm⟩ : ∃ m, q.l[k]? = some m := ⟨_, List.getElem?_eq_getElem (by rw [hM]; omega)⟩
      have HF := Lib.hid (show q.l.getD k false = m by rw [List.getD_eq_getElem?_getD, hm]; rfl)
      obtain ⟨b2, o2, hqa, hb2, n1⟩ := hok.at_ hm
      rw [hM, hqa] at n0
      clear h h0 hN hq hok hM hm hqa
      go_enter Try.func35, Try.ntmps35
      go_upto_region 1 with fail
      try rw [hw0]
      clear hw0
      go_quiet (fail)
      go_wp2_with fail
      go_ret
      exact ⟨by rw [HE.out, HF.out]; rfl, below_drewN HB.out _⟩

end Go.Proofs.Ytidegcibmdincaa
