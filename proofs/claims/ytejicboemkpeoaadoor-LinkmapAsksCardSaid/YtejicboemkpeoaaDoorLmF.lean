/-
  The document's link map: In, Whole.
-/
import Derived.Test.YtejicboemkpeoaaDoorSyI
import Derived.Test.YtejicboemkpeoaaDoorLnK
import Derived.Deep.Cut
import Derived.Test.YtejicboemkpeoaaDoorCsQ
import Derived.Test.YtejicboemkpeoaaDoorRefR
import Derived.Test.YtejicboemkpeoaaDoorCsL
namespace Go.Proofs.YtejicboemkpeoaaDoor
open Go Go.RowKit

set_option maxRecDepth 10000 in
set_option maxHeartbeats 1600000 in
theorem rranges_any {w : World} {B : Nat} {a a' : Option Addr} {L M : List Span} (h : Row 2 Span.cells w B a L) (h' : Row 2 Span.cells w B a' M) (hB : B ≤ w.heap.size) (c c' : Nat) (hl : L.length ≤ 100000) :
    Calls Tryd.prog 19 #[.slice a L.length c, .slice a' M.length c'] w fun r w' => r = .returned (.bool (alikeL sameG L M)) ∧ Below w.heap.size w w' := by
  by_cases hlen : L.length = M.length
  · have HS := Lib.hid (show alikeL sameG L M = (L.zip M).all (fun p => sameG p.1 p.2) by unfold alikeL; rw [decide_eq_true hlen, Bool.true_and])
    have HH := Lib.hid h
    have HM := Lib.hid h'
    rw [← hlen]
    generalize hN : L.length = N at *
    have HN := Lib.hid hN
    have HN' := Lib.hid hlen
    generalize alikeL sameG L M = sa at *
    have q : ((N : Int) != (N : Int)) = false := by simp
    clear h h' hN hlen
    go_enter Tryd.func19, Tryd.ntmps19
    go_wp2_with fail
    clear q
    go_loopw [5] (fun i wr => ∃ k : Nat, k ≤ N ∧ i = .int .i64 k ∧ Below w.heap.size w wr ∧ Hid (((L.zip M).take k).all (fun p => sameG p.1 p.2) = true)) (fun i _ => N - (intOf i).toNat)
    case atStart => exact ⟨0, Nat.zero_le _, rfl, Below.refl _ _, Lib.hid rfl⟩
    case round =>
      obtain ⟨k, hk, rfl, hBl, HA⟩ := hrel
      by_cases hlt : k < N
      · obtain ⟨x, hx⟩ : ∃ x, L[k]? = some x := ⟨L[k]'(by rw [HN.out]; exact hlt), List.getElem?_eq_getElem _⟩
        obtain ⟨y, hy⟩ : ∃ y, M[k]? = some y := ⟨M[k]'(by rw [← HN'.out]; exact hlt), List.getElem?_eq_getElem _⟩
        have hx1 := (HH.out.below (hBl.mono hB))
        have hy1 := (HM.out.below (hBl.mono hB))
        obtain ⟨b, o, rfl, hb, c0, c1⟩ := span_at hx1 hx
        obtain ⟨b', o', rfl, hb', e0, e1⟩ := span_at hy1 hy
        have hz := zip_get hx hy
        have HT := Lib.hid (fun (e : sameG x y = true) => all_take (fun p : Span × Span => sameG p.1 p.2) _ k _ hz HA.out e)
        have HF := Lib.hid (fun (e : sameG x y = false) => all_not (fun p : Span × Span => sameG p.1 p.2) _ k _ hz e)
        have hq := fun W => neq_span x y W
        rw [show Value.agg x.cells.toArray = .agg #[.int .u64 (x.lo : Int), .int .u64 (x.hi : Int)] from rfl,
          show Value.agg y.cells.toArray = .agg #[.int .u64 (y.lo : Int), .int .u64 (y.hi : Int)] from rfl] at hq
        have HBl := Lib.hid hBl
        have HLT := Lib.hid hlt
        clear hx hy hx1 hy1 hz hBl HA hb hb'
        generalize sameG x y = ss at *
        generalize x.lo = x1 at *
        generalize x.hi = x2 at *
        generalize y.lo = y1 at *
        generalize y.hi = y2 at *
        cases ss with
        | false =>
          have HZ := Lib.hid (HF.out rfl)
          go_wp2_with fail
          go_region
          all_goals go_wp2
          all_goals go_ret
          all_goals exact ⟨by rw [HS.out, HZ.out]; rfl, below_drewN HBl.out _⟩
        | true =>
          have HZ := Lib.hid (HT.out rfl)
          go_wp2_with fail
          go_region
          all_goals go_wp2
          all_goals exact ⟨⟨k + 1, HLT.out, by go_num, HBl.out.drew, HZ⟩, by have := HLT.out; simp [intOf]; omega⟩
      · have HZ := Lib.hid (show sa = true by
          rw [HS.out]
          have := HA.out
          rwa [List.take_of_length_le (by rw [List.length_zip, ← HN'.out, HN.out]; omega)] at this)
        have HBl := Lib.hid hBl
        clear hBl HA
        go_wp2_with fail
        go_ret
        exact ⟨by rw [HZ.out]; rfl, HBl.out⟩
  · have HF := Lib.hid (show alikeL sameG L M = false by unfold alikeL; rw [decide_eq_false hlen, Bool.false_and])
    have q : ((L.length : Int) != (M.length : Int)) = true := by simp; omega
    clear h h'
    generalize alikeL sameG L M = sa at *
    generalize L.length = n at *
    generalize M.length = m at *
    go_enter Tryd.func19, Tryd.ntmps19
    go_wp2_with fail
    go_ret
    exact ⟨by rw [HF.out]; rfl, Below.refl _ _⟩

end Go.Proofs.YtejicboemkpeoaaDoor

namespace Go.Proofs.YtejicboemkpeoaaDoor
open Go Go.RowKit

theorem zip_at {α β : Type} {l : List α} {m : List β} {k : Nat} {x : α} {y : β} (hx : l[k]? = some x) (hy : m[k]? = some y) : (l.zip m)[k]? = some (x, y) := by rw [List.getElem?_zip_eq_some]; exact ⟨hx, hy⟩

/-- Whether a range lies in one image. -/
def wholeB (P : List Place) (S : List Nat) (lo hi : Nat) : Bool :=
  match inK P S lo with
  | none => false
  | some k => match P[k]?, S[k]? with
    | some p, some n => decide (lo < hi) && decide (hi - p.addr ≤ n)
    | _, _ => false

set_option maxRecDepth 10000 in
set_option maxHeartbeats 1600000 in
theorem rlin_any {w : World} {B g : Nat} {P : List Place} {S : List Nat} {Y : List Named} (h : LinkAt w B g P S Y) (a : Nat) (hl : P.length ≤ 1000) (hPS : S.length = P.length) (ha : a < two64) :
    Calls Tryd.prog 13 #[.pointer (some ⟨g, 0, none⟩), .int .u64 (a : Int)] w fun r w' => r = .returned (.int .i64 (inI P S a)) ∧ ∃ q, w' = w.drewN q := by
  obtain ⟨_, aP, cP, aS, cS, aY, cY, hX, hp, hs, _⟩ := h
  have c0 := hX.cell 0
  have c9 := hX.cell 1
  simp at c0 c9
  obtain ⟨N, hN⟩ : ∃ N, P.length = N := ⟨_, rfl⟩
  have HN := Lib.hid hN
  have HP := Lib.hid hp
  have HS := Lib.hid hs
  have HSN := Lib.hid (hPS.trans hN)
  rw [hN] at c0 hl
  rw [hPS, hN] at c9
  have HA := Lib.hid ha
  clear hX hp hs hN hPS ha
  go_enter Tryd.func13, Tryd.ntmps13
  go_wp2_with fail
  go_loopw [5] (fun i wr => ∃ k q : Nat, i = .int .i64 k ∧ k ≤ N ∧ wr = w.drewN q ∧ Hid (((P.zip S).take k).all (fun p => !(inQ a p)) = true)) (fun i _ => N - (intOf i).toNat)
  case atStart => exact ⟨0, 0, rfl, Nat.zero_le _, rfl, Lib.hid rfl⟩
  case round =>
    obtain ⟨k, q, rfl, hk, rfl, HT⟩ := hrel
    by_cases hlt : k < N
    · obtain ⟨p, hpk⟩ : ∃ p, P[k]? = some p := ⟨P[k]'(by rw [HN.out]; exact hlt), List.getElem?_eq_getElem _⟩
      obtain ⟨n, hnk⟩ : ∃ n, S[k]? = some n := ⟨S[k]'(by rw [HSN.out]; exact hlt), List.getElem?_eq_getElem _⟩
      obtain ⟨b, o, rfl, hb, c1, c2, c3⟩ := place_at HP.out hpk
      obtain ⟨b', o', rfl, hb', c4⟩ := size_at HS.out hnk
      have hz := zip_at hpk hnk
      obtain ⟨d, hd⟩ : ∃ d, a - p.addr = d := ⟨_, rfl⟩
      by_cases h1 : p.addr ≤ a
      · have q1 : decide (p.addr ≤ a) = true := decide_eq_true h1
        have q2 : IntKind.u64.wrap ((a : Int) - (p.addr : Int)) = (d : Int) := by rw [IntWalk.u64_in _ (by have := HA.out; unfold two64 at this; omega)]; omega
        by_cases h2 : d < n
        · have q3 : decide (d < n) = true := decide_eq_true h2
          have ho : inQ a (p, n) = true := by simp [inQ, h1, hd, h2]
          have HF := Lib.hid (firstK_take (p := inQ a) (P.zip S) 0 k (p, n) hz HT.out ho)
          have HI := Lib.hid (show inI P S a = (k : Int) by unfold inI inK; rw [HF.out]; simp)
          clear hpk hnk hz h1 h2 ho HF HT hd c1 c2
          generalize p.addr = pa at *
          go_wp2_with fail
          go_quiet (fail)
          go_wp2
          go_ret
          exact ⟨by rw [HI.out]; rfl, _, World.drewN_drewN _ _ _⟩
        · have q3 : decide (d < n) = false := decide_eq_false h2
          have HT1 := Lib.hid (all_next (q := fun p => !(inQ a p)) HT.out hz (by simp [inQ, hd, h2]))
          clear hpk hnk hz h1 h2 HT hd c1 c2
          generalize p.addr = pa at *
          go_wp2_with fail
          go_quiet (fail)
          go_wp2
          exact ⟨⟨k + 1, _, by go_num, by omega, rfl, HT1⟩, by simp [intOf]; omega⟩
      · have q1 : decide (p.addr ≤ a) = false := decide_eq_false h1
        have HT1 := Lib.hid (all_next (q := fun p => !(inQ a p)) HT.out hz (by simp [inQ, h1]))
        clear hpk hnk hz h1 HT hd c1 c2
        generalize p.addr = pa at *
        go_wp2_with fail
        go_quiet (fail)
        go_wp2
        exact ⟨⟨k + 1, _, by go_num, by omega, rfl, HT1⟩, by simp [intOf]; omega⟩
    · have HF := Lib.hid (show inI P S a = -1 by
        have h := firstK_none (p := inQ a) (P.zip S) 0 (by
          have := HT.out
          rwa [List.take_of_length_le (by rw [List.length_zip, HSN.out, HN.out]; omega)] at this)
        unfold inI inK
        rw [h])
      clear HT
      go_wp2_with fail
      go_ret
      exact ⟨by rw [HF.out]; rfl, _, rfl⟩

set_option maxRecDepth 10000 in
set_option maxHeartbeats 1600000 in
theorem rlwhole_any {w : World} {g : Nat} {P : List Place} {S : List Nat} {Y : List Named} (h : LinkAt w w.heap.size g P S Y) (lo hi : Nat) (hl : P.length ≤ 1000) (hPS : S.length = P.length) (ha : lo < two64) (hb : hi < two64) (hlo : ∀ p ∈ P, p.addr < two64) :
    Calls Tryd.prog 16 #[.pointer (some ⟨g, 0, none⟩), .agg #[.int .u64 (lo : Int), .int .u64 (hi : Int)]] w fun r w' => r = .returned (.bool (wholeB P S lo hi)) ∧ Below w.heap.size w w' := by
  have hb2 : Below w.heap.size w (w.alloc (.cells #[.int .u64 (lo : Int), .int .u64 (hi : Int)] 58)) := (Below.refl _ _).alloc (Nat.le_refl _) _
  have hX2 := Box.new w 58 #[.int .u64 (lo : Int), .int .u64 (hi : Int)]
  have h2 := h.up hb2
  obtain ⟨w2, hw2⟩ : ∃ w2, w.alloc (.cells #[.int .u64 (lo : Int), .int .u64 (hi : Int)] 58) = w2 := ⟨_, rfl⟩
  rw [hw2] at hb2 hX2 h2
  have HW2 := Lib.hid hw2
  have HB2 := Lib.hid hb2
  have HI := Lib.hid (rlin_any h2 lo hl hPS ha)
  have d0 := hX2.cell 0
  have d1 := hX2.cell 1
  simp at d0 d1
  obtain ⟨_, aP, cP, aS, cS, aY, cY, hX, hp, hs, _⟩ := h2
  have c0 := hX.cell 0
  have c9 := hX.cell 1
  simp at c0 c9
  obtain ⟨N, hN⟩ : ∃ N, P.length = N := ⟨_, rfl⟩
  rw [hN] at c0
  rw [hPS, hN] at c9
  have HL := Lib.hid hl
  have HN := Lib.hid hN
  have HLO := Lib.hid hlo
  have HHI := Lib.hid hb
  clear hw2 hb2 hX2 hX h hN hl
  rcases hk : inK P S lo with _ | k
  · have HK : inI P S lo = -1 := by unfold inI; rw [hk]
    have HQ := Lib.hid (show wholeB P S lo hi = false by unfold wholeB; rw [hk])
    rw [HK] at HI
    clear hk HK hp hs
    go_enter Tryd.func16, Tryd.ntmps16
    go_upto_region 1 with fail
    rw [HW2.out]
    go_wp2_with (go_at_call 13; refine HI.out.mono ?_; rintro r w3 ⟨rfl, q, rfl⟩)
    go_quiet (fail)
    go_wp2
    go_ret
    exact ⟨by rw [HQ.out]; rfl, below_drewN (below_drewN HB2.out _) _⟩
  · have HK : inI P S lo = (k : Int) := by unfold inI; rw [hk]
    obtain ⟨⟨p, n⟩, hz, hq, -⟩ := firstK_some (i := 0) (k := k) (by rw [Nat.zero_add]; exact hk)
    obtain ⟨hpk, hnk⟩ := List.getElem?_zip_eq_some.1 hz
    obtain ⟨b, o, rfl, hb1, c1, c2, c3⟩ := place_at hp hpk
    obtain ⟨b', o', rfl, hb', c4⟩ := size_at hs hnk
    have hkN : k < N := by have := (List.getElem?_eq_some_iff.1 hpk).1; have := HN.out; omega
    have HQ := Lib.hid (show wholeB P S lo hi = (decide (lo < hi) && decide (hi - p.addr ≤ n)) by unfold wholeB; rw [hk]; simp [hpk, hnk])
    have hin : p.addr ≤ lo := by simp [inQ] at hq; exact hq.1
    obtain ⟨d, hd⟩ : ∃ d, hi - p.addr = d := ⟨_, rfl⟩
    rw [HK] at HI
    have hk0 : (0 : Int) ≤ (k : Int) := by omega
    have hL := HL.out
    by_cases h1 : lo < hi
    · have q1 : decide (lo < hi) = true := decide_eq_true h1
      have q2 : IntKind.u64.wrap ((hi : Int) - (p.addr : Int)) = (d : Int) := by rw [IntWalk.u64_in _ (by have := HHI.out; unfold two64 at this; omega)]; omega
      have HQ2 := Lib.hid (show wholeB P S lo hi = decide (d ≤ n) by rw [HQ.out, q1, hd]; rfl)
      clear hk HK hp hs hz hq hpk hnk hd HQ hin h1 c1 c2 hPS
      generalize p.addr = pa at *
      generalize wholeB P S lo hi = wb at *
      go_enter Tryd.func16, Tryd.ntmps16
      go_upto_region 1 with fail
      rw [HW2.out]
      go_wp2_with (go_at_call 13; refine HI.out.mono ?_; rintro r w3 ⟨rfl, q, rfl⟩)
      go_quiet (fail)
      go_wp2
      go_ret
      exact ⟨by rw [HQ2.out]; rfl, below_drewN (below_drewN HB2.out _) _⟩
    · have q1 : decide (lo < hi) = false := decide_eq_false h1
      have HQ2 := Lib.hid (show wholeB P S lo hi = false by rw [HQ.out, q1]; rfl)
      clear hk HK hp hs hz hq hpk hnk hd HQ hin h1 c1 c2 hPS
      generalize p.addr = pa at *
      generalize wholeB P S lo hi = wb at *
      go_enter Tryd.func16, Tryd.ntmps16
      go_upto_region 1 with fail
      rw [HW2.out]
      go_wp2_with (go_at_call 13; refine HI.out.mono ?_; rintro r w3 ⟨rfl, q, rfl⟩)
      go_quiet (fail)
      go_wp2
      go_ret
      exact ⟨by rw [HQ2.out]; rfl, below_drewN (below_drewN HB2.out _) _⟩

end Go.Proofs.YtejicboemkpeoaaDoor
