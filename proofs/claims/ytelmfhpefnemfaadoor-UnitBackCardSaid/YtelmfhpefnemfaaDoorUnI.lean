/-
  Package unit: Of, and the document's; the law's told.
-/
import Derived.Test.YtelmfhpefnemfaaDoorUnG
import Derived.Test.YtelmfhpefnemfaaDoorUnH
namespace Go.Proofs.YtelmfhpefnemfaaDoor
open Go Go.RowKit

/-- Whether a place is one of a unit's entries; of which unit it is. -/
def inU (x : UHd) (off : Nat) : Bool := decide (x.first ≤ off) && decide (off < x.stop)
def findU : List UHd → Nat → Nat → Int
  | [], _, _ => -1
  | x :: L, off, i => match inU x off with | true => (i : Int) | false => findU L off (i + 1)
theorem drop_atU {L : List UHd} {k : Nat} {x : UHd} (h : L[k]? = some x) : L.drop k = x :: L.drop (k + 1) := by
  obtain ⟨hk, rfl⟩ := List.getElem?_eq_some_iff.1 h
  exact List.drop_eq_getElem_cons hk

set_option maxRecDepth 10000 in
theorem of1_unit {w : World} {gp : Nat} {off : Nat} (hc : w.cell? ⟨gp, 0, none⟩ = some (.int .u64 (off : Int))) (x : UHd) :
    Calls Tryd.prog 55 #[.agg #[.int .i64 x.kind, .bool x.wide, .int .u64 (x.ab : Int), .int .u64 (x.sig : Int), .int .u64 (x.ty : Int), .int .u64 (x.off : Int), .int .u64 (x.first : Int), .int .u64 (x.stop : Int)], .pointer (some ⟨gp, 0, none⟩)] w fun r w' => r = .returned (.bool (inU x off)) ∧ Below w.heap.size w w' := by
  have H := Lib.hid (show inU x off = (decide (x.first ≤ off) && decide (off < x.stop)) from rfl)
  have hb1 : Below w.heap.size w (w.alloc (.cells #[.int .i64 x.kind, .bool x.wide, .int .u64 (x.ab : Int), .int .u64 (x.sig : Int), .int .u64 (x.ty : Int), .int .u64 (x.off : Int), .int .u64 (x.first : Int), .int .u64 (x.stop : Int)] 82)) := (Below.refl _ _).alloc (Nat.le_refl _) _
  have hlt := World.block_lt_of_cell? w _ hc
  have hc1 := (hb1.cell (p := ⟨gp, 0, none⟩) hlt).trans hc
  have hX := Box.new w 82 #[.int .i64 x.kind, .bool x.wide, .int .u64 (x.ab : Int), .int .u64 (x.sig : Int), .int .u64 (x.ty : Int), .int .u64 (x.off : Int), .int .u64 (x.first : Int), .int .u64 (x.stop : Int)]
  have HB := Lib.hid hb1
  generalize inU x off = b at *
  go_enter Tryd.func55, Tryd.ntmps55
  go_upto_region 1 with fail
  generalize w.alloc (.cells #[.int .i64 x.kind, .bool x.wide, .int .u64 (x.ab : Int), .int .u64 (x.sig : Int), .int .u64 (x.ty : Int), .int .u64 (x.off : Int), .int .u64 (x.first : Int), .int .u64 (x.stop : Int)] 82) = w1 at *
  obtain ⟨y0, y1, y2, y3, y4, y5, y6, y7⟩ := eight_cells hX
  clear hX hb1 hc
  generalize x.first = f at *
  generalize x.stop = s at *
  by_cases h1 : f ≤ off
  · have d : decide ((f : Int) ≤ (off : Int)) = true := by simp; omega
    have d' : decide (f ≤ off) = true := by simpa using h1
    by_cases h2 : off < s
    · have e : decide ((off : Int) < (s : Int)) = true := by simp; omega
      have e' : decide (off < s) = true := by simpa using h2
      have HH := Lib.hid (show b = true by rw [H.out, d', e']; rfl)
      clear h1 h2
      go_wp2
      go_ret
      exact ⟨by rw [HH.out]; rfl, HB.out⟩
    · have e : decide ((off : Int) < (s : Int)) = false := by simp; omega
      have e' : decide (off < s) = false := by simpa using h2
      have HH := Lib.hid (show b = false by rw [H.out, d', e']; rfl)
      clear h1 h2
      go_wp2
      go_ret
      exact ⟨by rw [HH.out]; rfl, HB.out⟩
  · have d : decide ((f : Int) ≤ (off : Int)) = false := by simp; omega
    have d' : decide (f ≤ off) = false := by simpa using h1
    have HH := Lib.hid (show b = false by rw [H.out, d']; rfl)
    clear h1
    go_wp2
    go_ret
    exact ⟨by rw [HH.out]; rfl, HB.out⟩

set_option maxRecDepth 10000 in
set_option maxHeartbeats 1600000 in
theorem index_unit {w : World} {B : Nat} {A : Option Addr} {L : List UHd} (h : Row 8 UHd.cells w B A L) (hB : B ≤ w.heap.size) (c : Nat) {gp off : Nat} (hc : w.cell? ⟨gp, 0, none⟩ = some (.int .u64 (off : Int))) (hl : L.length ≤ 100000) :
    Calls Tryd.prog 54 #[.slice A L.length c, .func (.func 55) #[] #[.pointer (some ⟨gp, 0, none⟩)]] w fun r w' => r = .returned (.int .i64 (findU L off 0)) ∧ Below w.heap.size w w' := by
  have HH := Lib.hid h
  have HC := Lib.hid hc
  have hlt := World.block_lt_of_cell? w _ hc
  obtain ⟨R, hR⟩ : ∃ R, findU L off 0 = R := ⟨_, rfl⟩
  have HR := Lib.hid hR
  rw [hR]
  generalize hN : L.length = N at *
  have HN := Lib.hid hN
  clear h hc hN hR
  go_enter Tryd.func54, Tryd.ntmps54
  go_wp2_with fail
  go_loopg [8] N (fun gk i wr => ∃ k : Nat, k ≤ N ∧ gk = N - k ∧ i = .int .i64 k ∧ Hid (R = findU (L.drop k) off k) ∧ Hid (Below w.heap.size w wr))
  case atStart => exact ⟨0, Nat.zero_le _, rfl, rfl, Lib.hid (by rw [← HR.out]; rfl), Lib.hid (Below.refl _ _)⟩
  case round =>
    obtain ⟨k, hk, rfl, rfl, HF, HB⟩ := hrel
    clear HR
    by_cases hlt2 : k < N
    · have HLT := Lib.hid hlt2
      obtain ⟨x, hx⟩ : ∃ x, L[k]? = some x := ⟨L[k]'(by rw [HN.out]; exact hlt2), List.getElem?_eq_getElem _⟩
      obtain ⟨b, o, rfl, hb, c0, c1, c2, c3, c4, c5, c6, c7⟩ := uhd_at (HH.out.below (HB.out.mono hB)) hx
      have HD := Lib.hid (show R = match inU x off with | true => (k : Int) | false => findU (L.drop (k + 1)) off (k + 1) by rw [HF.out, drop_atU hx]; rfl)
      have HX := Lib.hid (of1_unit ((HB.out.cell (p := ⟨gp, 0, none⟩) hlt).trans HC.out) x)
      clear HF hx hb
      generalize inU x off = q at *
      cases q with
      | true =>
        go_wp2_with (go_at_call 55; refine HX.out.mono ?_; rintro r w2 ⟨rfl, hb2⟩; have HB2 := Lib.hid (HB.out.trans (hb2.mono HB.out.size)); clear hb2)
        (try rw [Exit.noGoto_ret])
        go_ret
        exact ⟨by rw [HD.out]; rfl, HB2.out⟩
      | false =>
        go_wp2_with (go_at_call 55; refine HX.out.mono ?_; rintro r w2 ⟨rfl, hb2⟩; have HB2 := Lib.hid (HB.out.trans (hb2.mono HB.out.size)); clear hb2)
        go_roundg (N - (k + 1))
        case measure => have := HLT.out; omega
        case rel => exact ⟨k + 1, HLT.out, rfl, by go_num, Lib.hid HD.out, HB2⟩
    · have HD := Lib.hid (show R = -1 by rw [HF.out, List.drop_eq_nil_of_le (by rw [HN.out]; omega)]; rfl)
      go_wp2_with fail
      go_ret
      exact ⟨by rw [HD.out]; rfl, HB.out⟩

theorem of_unit {w : World} {B : Nat} {A : Option Addr} {L : List UHd} (h : Row 8 UHd.cells w B A L) (hB : B ≤ w.heap.size) (c : Nat) (off : Nat) (hl : L.length ≤ 100000) :
    Calls Tryd.prog 31 #[.slice A L.length c, .int .u64 (off : Int)] w fun r w' => r = .returned (.int .i64 (findU L off 0)) ∧ Below w.heap.size w w' := by
  have hmf : ∀ (fn : Fn) (first cap : Array Value) (W : World), (Instr.makeFunc fn first cap).run Tryd.prog W = .ok (.func fn first cap) W := fun _ _ _ _ => rfl
  have hb1 : Below w.heap.size w (w.alloc (.cells #[.int .u64 (off : Int)] 41)) := (Below.refl _ _).alloc (Nat.le_refl _) _
  have hX : (w.alloc (.cells #[.int .u64 (off : Int)] 41)).cell? ⟨w.heap.size, 0, none⟩ = some (.int .u64 (off : Int)) := by
    rw [(Box.new w 41 #[.int .u64 (off : Int)]).cell]
    rfl
  have HI := Lib.hid (index_unit (h.below (hb1.mono hB)) (Nat.le_trans hB hb1.size) c hX hl)
  have HB := Lib.hid hb1
  clear h hl hb1
  generalize L.length = N at *
  generalize findU L off 0 = R at *
  go_enter Tryd.func31, Tryd.ntmps31
  go_wp2_with (go_at_call 54; refine HI.out.mono ?_; rintro r w2 ⟨rfl, hb2⟩; have HB2 := Lib.hid (HB.out.trans (hb2.mono HB.out.size)); clear hb2)
  go_ret
  exact ⟨rfl, HB2.out⟩

end Go.Proofs.YtelmfhpefnemfaaDoor
