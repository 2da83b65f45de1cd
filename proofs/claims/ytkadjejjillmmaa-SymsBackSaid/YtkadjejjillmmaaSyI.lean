/-
  Package syms: which symbol may not be (wrong), whether symbols may be (Right); the document's Right.
-/

import Derived.Test.YtkadjejjillmmaaSyH
import Derived.Test.YtkadjejjillmmaaCsP
import Derived.Test.YtkadjejjillmmaaSeB
namespace Go.Proofs.Ytkadjejjillmmaa
open Go Go.RowKit

/-- A number within its limit. -/
def inTo (x lim : Int) : Bool := decide (0 ≤ x) && decide (x ≤ lim)
/-- Whether a symbol may be. -/
def okY (s : Sym) : Bool := rightT s.name && (inTo s.bind 15 && (inTo s.kind 15 && inTo s.sect 65534))
def rightY (l : List Sym) : Bool := decide (l.length ≤ 400) && l.all okY

theorem beyond_any (w : World) (x lim : Int) : Calls Try.prog 57 #[.int .i64 x, .int .i64 lim] w fun r w' => r = .returned (.bool (!(inTo x lim))) ∧ w = w' := by
  have HE := Lib.hid (show inTo x lim = (decide (0 ≤ x) && decide (x ≤ lim)) from rfl)
  generalize inTo x lim = b at *
  by_cases h0 : x < 0
  · have HF := Lib.hid (show b = false by rw [HE.out, decide_eq_false (by omega), Bool.false_and])
    clear HE
    go_enter Try.func57, Try.ntmps57
    go_wp2_with fail
    go_ret
    exact ⟨by rw [HF.out]; rfl, rfl⟩
  · have HF := Lib.hid (show b = decide (x ≤ lim) by rw [HE.out, decide_eq_true (show 0 ≤ x by omega), Bool.true_and])
    have HG := Lib.hid (show decide (lim < x) = !(decide (x ≤ lim)) by rw [Bool.eq_iff_iff]; simp)
    clear HE
    go_enter Try.func57, Try.ntmps57
    go_wp2_with fail
    go_ret
    exact ⟨by rw [HF.out, ← HG.out]; rfl, rfl⟩

set_option maxRecDepth 10000 in
set_option maxHeartbeats 1600000 in
theorem ywrong_any {w : World} (nm : List UInt8) (bi ki se : Int) (va sz : Nat) :
    Calls Try.prog 39 #[.agg #[.string ⟨nm.toArray⟩, .int .i64 bi, .int .i64 ki, .int .i64 se, .int .u64 (va : Int), .int .u64 (sz : Int)]] w fun r w' => r = .returned (.bool (!(okY ⟨nm, bi, ki, se, va, sz⟩))) ∧ Below w.heap.size w w' := by
  have HO := Lib.hid (show okY ⟨nm, bi, ki, se, va, sz⟩ = (rightT nm && (inTo bi 15 && (inTo ki 15 && inTo se 65534))) from rfl)
  generalize okY ⟨nm, bi, ki, se, va, sz⟩ = ok at *
  have HR := Lib.hid (fun W => right_all nm W)
  have HB1 := Lib.hid (fun W => beyond_any W bi 15)
  have HB2 := Lib.hid (fun W => beyond_any W ki 15)
  have HB3 := Lib.hid (fun W => beyond_any W se 65534)
  have HB0 := Lib.hid (show Below w.heap.size w (w.alloc (.cells #[.string ⟨nm.toArray⟩, .int .i64 bi, .int .i64 ki, .int .i64 se, .int .u64 (va : Int), .int .u64 (sz : Int)] 51)) from (Below.refl _ _).alloc (Nat.le_refl _) _)
  have hX := Box.new w 51 #[.string ⟨nm.toArray⟩, .int .i64 bi, .int .i64 ki, .int .i64 se, .int .u64 (va : Int), .int .u64 (sz : Int)]
  generalize rightT nm = b0 at *
  generalize inTo bi 15 = b1 at *
  generalize inTo ki 15 = b2 at *
  generalize inTo se 65534 = b3 at *
  go_enter Try.func39, Try.ntmps39
  cases b0 <;> cases b1 <;> cases b2 <;> cases b3
  all_goals
    go_wp2_with (first
    | (go_at_call 51; refine (HR.out _).mono ?_; rintro r w1 ⟨rfl, rfl⟩; clear HR)
    | (go_at_call 57; refine (HB1.out _).mono ?_; rintro r w1 ⟨rfl, rfl⟩; clear HB1)
    | (go_at_call 57; refine (HB2.out _).mono ?_; rintro r w1 ⟨rfl, rfl⟩; clear HB2)
    | (go_at_call 57; refine (HB3.out _).mono ?_; rintro r w1 ⟨rfl, rfl⟩; clear HB3))
    go_ret
    exact ⟨by rw [HO.out]; rfl, HB0.out⟩

set_option maxRecDepth 10000 in
set_option maxHeartbeats 1600000 in
theorem yindex_wrong {w : World} {a : Option Addr} {L : List Sym} (h : Syms w w.heap.size a L) (c : Nat) (hl : L.length ≤ 100000) :
    Calls Try.prog 56 #[.slice a L.length c, .func (.func 39) #[] #[]] w fun r w' => ∃ k : Int, r = .returned (.int .i64 k) ∧ (decide (0 ≤ k) = !(L.all okY)) ∧ Below w.heap.size w w' := by
  obtain ⟨N, hN⟩ : ∃ N, L.length = N := ⟨_, rfl⟩
  have HH := Lib.hid h
  have HN := Lib.hid hN
  rw [hN] at hl ⊢
  clear h hN
  go_enter Try.func56, Try.ntmps56
  go_wp2_with fail
  go_loopw [8] (fun i wr => ∃ k : Nat, k ≤ N ∧ i = .int .i64 k ∧ Below w.heap.size w wr ∧ Hid ((L.take k).all okY = true)) (fun i _ => N - (intOf i).toNat)
  case atStart => exact ⟨0, Nat.zero_le _, rfl, Below.refl _ _, Lib.hid rfl⟩
  case round =>
    obtain ⟨k, hk, rfl, hB, HY⟩ := hrel
    have HB := Lib.hid hB
    by_cases hlt : k < N
    · obtain ⟨x, hx⟩ : ∃ x, L[k]? = some x := ⟨L[k]'(by rw [HN.out]; exact hlt), List.getElem?_eq_getElem _⟩
      obtain ⟨b, o, rfl, hb, c0, c1, c2, c3, c4, c5⟩ := sym_at (HH.out.below hB) hx
      have HW := Lib.hid (ywrong_any (w := wr) x.name x.bind x.kind x.sect x.value x.size)
      by_cases hst : okY x = true
      · have HF := Lib.hid (all_take okY L k x hx HY.out hst)
        rw [show okY ⟨x.name, x.bind, x.kind, x.sect, x.value, x.size⟩ = true from hst] at HW
        clear hx hst hB
        generalize ByteArray.mk x.name.toArray = sb at *
        go_wp2_with (go_at_call 39; refine HW.out.mono ?_; rintro r w1 ⟨rfl, hb1⟩)
        have HB1 := Lib.hid (HB.out.trans (hb1.mono HB.out.size))
        go_roundw
        case rel => exact ⟨k + 1, by omega, by go_num, HB1.out, HF⟩
        case measure => simp [intOf]; omega
      · have hst' : okY x = false := by simpa using hst
        have HF := Lib.hid (all_not okY L k x hx hst')
        rw [show okY ⟨x.name, x.bind, x.kind, x.sect, x.value, x.size⟩ = false from hst'] at HW
        clear hx hst hB hst'
        generalize ByteArray.mk x.name.toArray = sb at *
        go_wp2_with (go_at_call 39; refine HW.out.mono ?_; rintro r w1 ⟨rfl, hb1⟩)
        have HB1 := Lib.hid (HB.out.trans (hb1.mono HB.out.size))
        go_ret
        exact ⟨k, rfl, by rw [HF.out]; exact decide_eq_true (by omega), HB1.out⟩
    · have HF := Lib.hid (show L.all okY = true by
        have := HY.out
        rwa [List.take_of_length_le (by rw [HN.out]; omega)] at this)
      clear hB
      go_wp2_with fail
      go_ret
      exact ⟨-1, rfl, by rw [HF.out]; rfl, HB.out⟩

set_option maxRecDepth 10000 in
theorem ycontains_wrong {w : World} {a : Option Addr} {L : List Sym} (h : Syms w w.heap.size a L) (c : Nat) (hl : L.length ≤ 100000) :
    Calls Try.prog 38 #[.slice a L.length c, .func (.func 39) #[] #[]] w fun r w' => r = .returned (.bool (!(L.all okY))) ∧ Below w.heap.size w w' := by
  have HI := Lib.hid (yindex_wrong h c hl)
  clear h hl
  generalize L.all okY = ok at *
  generalize L.length = n at *
  go_enter Try.func38, Try.ntmps38
  go_wp2_with (go_at_call 56; refine HI.out.mono ?_; rintro r w1 ⟨k, rfl, hk, hb1⟩)
  go_ret
  exact ⟨by rw [← hk]; rfl, hb1⟩

set_option maxRecDepth 10000 in
theorem yright_any {w : World} {a : Option Addr} {L : List Sym} (h : Syms w w.heap.size a L) (c : Nat) (hl : L.length ≤ 100000) :
    Calls Try.prog 16 #[.slice a L.length c] w fun r w' => r = .returned (.bool (rightY L)) ∧ Below w.heap.size w w' := by
  have HI := Lib.hid (ycontains_wrong h c hl)
  have HE := Lib.hid (show rightY L = (decide (L.length ≤ 400) && L.all okY) from rfl)
  clear h hl
  generalize rightY L = rs at *
  generalize L.all okY = ok at *
  generalize L.length = n at *
  go_enter Try.func16, Try.ntmps16
  by_cases h4 : n ≤ 400
  · have hd : decide ((n : Int) ≤ 400) = true := decide_eq_true (by omega)
    rw [decide_eq_true h4, Bool.true_and] at HE
    clear h4
    go_wp2_with (go_at_call 38; refine HI.out.mono ?_; rintro r w1 ⟨rfl, hb1⟩)
    go_ret
    exact ⟨by rw [HE.out]; simp, hb1⟩
  · have hd : decide ((n : Int) ≤ 400) = false := decide_eq_false (by omega)
    rw [decide_eq_false h4, Bool.false_and] at HE
    clear h4
    go_wp2_with fail
    go_ret
    exact ⟨by rw [HE.out]; rfl, Below.refl _ _⟩

/-! ### The document's -/
theorem inTo_true {x lim : Int} (h : inTo x lim = true) : decide (x < 0) = false ∧ decide (lim < x) = false := by
  unfold inTo at h
  simp only [Bool.and_eq_true, decide_eq_true_eq] at h
  exact ⟨decide_eq_false (by omega), decide_eq_false (by omega)⟩
theorem inTo_false {x lim : Int} (h : inTo x lim = false) : decide (x < 0) = true ∨ (decide (x < 0) = false ∧ decide (lim < x) = true) := by
  unfold inTo at h
  by_cases h0 : x < 0
  · exact .inl (decide_eq_true h0)
  · refine .inr ⟨decide_eq_false h0, decide_eq_true ?_⟩
    rw [decide_eq_true (show 0 ≤ x by omega), Bool.true_and] at h
    have := of_decide_eq_false h
    omega
end Go.Proofs.Ytkadjejjillmmaa
