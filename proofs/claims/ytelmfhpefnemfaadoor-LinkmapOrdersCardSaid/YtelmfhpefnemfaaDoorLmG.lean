/-
  The document's Ranges and Same: the same ranges, the same maps.
-/
import Derived.Test.YtelmfhpefnemfaaDoorSyI
import Derived.Test.YtelmfhpefnemfaaDoorGpG
import Derived.Deep.Cut
namespace Go.Proofs.YtelmfhpefnemfaaDoor
open Go Go.RowKit

set_option maxRecDepth 10000 in
set_option maxHeartbeats 1600000 in
theorem rranges_any {w : World} {B : Nat} {a a' : Option Addr} {L M : List Span} (h : Row 2 Span.cells w B a L) (h' : Row 2 Span.cells w B a' M) (hB : B ≤ w.heap.size) (c c' : Nat) (hl : L.length ≤ 100000) :
    Calls Tryd.prog 23 #[.slice a L.length c, .slice a' M.length c'] w fun r w' => r = .returned (.bool (alikeL sameG L M)) ∧ Below w.heap.size w w' := by
  by_cases hlen : L.length = M.length
  · have HS := Lib.hid (show alikeL sameG L M = (L.zip M).all (fun p => sameG p.1 p.2) by unfold alikeL; rw [decide_eq_true hlen, Bool.true_and])
    have HH := Lib.hid h
    have HM := Lib.hid h'
    rw [← hlen]
    generalize hN : L.length = N at *
    have HN := Lib.hid hN
    have HN' := Lib.hid hlen
    generalize alikeL sameG L M = sa at *
    have q : ((N : Int) != (N : Int)) = false := by simp
    clear h h' hN hlen
    go_enter Tryd.func23, Tryd.ntmps23
    go_wp2_with fail
    clear q
    go_loopw [5] (fun i wr => ∃ k : Nat, k ≤ N ∧ i = .int .i64 k ∧ Below w.heap.size w wr ∧ Hid (((L.zip M).take k).all (fun p => sameG p.1 p.2) = true)) (fun i _ => N - (intOf i).toNat)
    case atStart => exact ⟨0, Nat.zero_le _, rfl, Below.refl _ _, Lib.hid rfl⟩
    case round =>
      obtain ⟨k, hk, rfl, hBl, HA⟩ := hrel
      by_cases hlt : k < N
      · obtain ⟨x, hx⟩ : ∃ x, L[k]? = some x := ⟨L[k]'(by rw [HN.out]; exact hlt), List.getElem?_eq_getElem _⟩
        obtain ⟨y, hy⟩ : ∃ y, M[k]? = some y := ⟨M[k]'(by rw [← HN'.out]; exact hlt), List.getElem?_eq_getElem _⟩
        have hx1 := (HH.out.below (hBl.mono hB))
        have hy1 := (HM.out.below (hBl.mono hB))
        obtain ⟨b, o, rfl, hb, c0, c1⟩ := span_at hx1 hx
        obtain ⟨b', o', rfl, hb', e0, e1⟩ := span_at hy1 hy
        have hz := zip_get hx hy
        have HT := Lib.hid (fun (e : sameG x y = true) => all_take (fun p : Span × Span => sameG p.1 p.2) _ k _ hz HA.out e)
        have HF := Lib.hid (fun (e : sameG x y = false) => all_not (fun p : Span × Span => sameG p.1 p.2) _ k _ hz e)
        have hq := fun W => neq_span x y W
        rw [show Value.agg x.cells.toArray = .agg #[.int .u64 (x.lo : Int), .int .u64 (x.hi : Int)] from rfl,
          show Value.agg y.cells.toArray = .agg #[.int .u64 (y.lo : Int), .int .u64 (y.hi : Int)] from rfl] at hq
        have HBl := Lib.hid hBl
        have HLT := Lib.hid hlt
        clear hx hy hx1 hy1 hz hBl HA hb hb'
        generalize sameG x y = ss at *
        generalize x.lo = x1 at *
        generalize x.hi = x2 at *
        generalize y.lo = y1 at *
        generalize y.hi = y2 at *
        cases ss with
        | false =>
          have HZ := Lib.hid (HF.out rfl)
          go_wp2_with fail
          go_region
          all_goals go_wp2
          all_goals go_ret
          all_goals exact ⟨by rw [HS.out, HZ.out]; rfl, below_drewN HBl.out _⟩
        | true =>
          have HZ := Lib.hid (HT.out rfl)
          go_wp2_with fail
          go_region
          all_goals go_wp2
          all_goals exact ⟨⟨k + 1, HLT.out, by go_num, HBl.out.drew, HZ⟩, by have := HLT.out; simp [intOf]; omega⟩
      · have HZ := Lib.hid (show sa = true by
          rw [HS.out]
          have := HA.out
          rwa [List.take_of_length_le (by rw [List.length_zip, ← HN'.out, HN.out]; omega)] at this)
        have HBl := Lib.hid hBl
        clear hBl HA
        go_wp2_with fail
        go_ret
        exact ⟨by rw [HZ.out]; rfl, HBl.out⟩
  · have HF := Lib.hid (show alikeL sameG L M = false by unfold alikeL; rw [decide_eq_false hlen, Bool.false_and])
    have q : ((L.length : Int) != (M.length : Int)) = true := by simp; omega
    clear h h'
    generalize alikeL sameG L M = sa at *
    generalize L.length = n at *
    generalize M.length = m at *
    go_enter Tryd.func23, Tryd.ntmps23
    go_wp2_with fail
    go_ret
    exact ⟨by rw [HF.out]; rfl, Below.refl _ _⟩

end Go.Proofs.YtelmfhpefnemfaaDoor
