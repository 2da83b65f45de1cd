/-
  Package syms: TakeRelas.
-/

import Derived.Test.YtkadjejjillmmaaSyDa
namespace Go.Proofs.Ytkadjejjillmmaa
open Go Go.RowKit

theorem yrel_odd {w : World} (A : Option Addr) (n c : Nat) (hl : n ≤ 1000000) (h : n % 24 ≠ 0) :
    Calls Try.prog 9 #[.slice A n c] w fun r w' => r = .returned (.tuple #[.slice none 0 0, .int .i64 24]) ∧ w = w' := by
  have hC := fun W => count_any (w := W) A n c 24 (by omega)
  rw [if_pos h, if_pos h] at hC
  clear h
  go_enter Try.func9, Try.ntmps9
  go_wp2_with (go_at_call 20; refine (hC _).mono ?_; rintro r w1 ⟨rfl, rfl⟩)
  go_ret2
  exact ⟨rfl, rfl⟩

theorem yrel_big {w : World} (A : Option Addr) (n c : Nat) (hl : n ≤ 1000000) (h : ¬ n % 24 ≠ 0) (h2 : 400 < n / 24) :
    Calls Try.prog 9 #[.slice A n c] w fun r w' => r = .returned (.tuple #[.slice none 0 0, .int .i64 3]) ∧ w = w' := by
  have hC := fun W => count_any (w := W) A n c 24 (by omega)
  rw [if_neg h, if_pos h2, if_neg h, if_pos h2] at hC
  clear h h2
  go_enter Try.func9, Try.ntmps9
  go_wp2_with (go_at_call 20; refine (hC _).mono ?_; rintro r w1 ⟨rfl, rfl⟩)
  go_ret2
  exact ⟨rfl, rfl⟩

/-- A round's end: an item stored into the row, nothing stored ahead of it. -/
theorem take_stepR {T : TypeId} {n k ge q gc a : Nat} {C vs : List Value} {w w5 : World} {vc : Value} {t : List UInt8} (hR : RowTo T n w5 ge q C) (hC : Cur w5 gc vc t a 0) (hB : Below w.heap.size w w5)
    (hgc : gc ≠ ge) (hvc : vc.ownBlock ≠ some ge) (hl : C.length = k * n) (hvl : vs.length = n) (hk : k < q) (h2 : w.heap.size ≤ ge) :
    RowTo T n (setAll w5 ge (k * n) vs) ge q (C ++ vs) ∧ Cur (setAll w5 ge (k * n) vs) gc vc t a 0 ∧ Below w.heap.size w (setAll w5 ge (k * n) vs) := by
  have hle : (k + 1) * n ≤ q * n := Nat.mul_le_mul_right n hk
  rw [Nat.add_mul] at hle
  obtain ⟨s1, s2⟩ := hR.store vs (by rw [hl, hvl]; omega)
  rw [hl] at s1 s2
  exact ⟨s1, hC.grown s2 (by simpa using hgc) (.inr hvc), below_only hB (Nat.le_refl _) s2 h2⟩

set_option maxRecDepth 10000 in
set_option maxHeartbeats 1600000 in
theorem yrel_even {w : World} {A : Option Addr} {t : List UInt8} {n q : Nat} (hn : t.length = n) (hlq : n = 24 * q) (hq4 : q ≤ 400) (hr : Rd w w.heap.size A t) (c : Nat) :
    Calls Try.prog 9 #[.slice A n c] w fun r w' => ∃ u, r = .returned (.tuple #[u, .int .i64 (errOf (okTo (okR t) q) 24)]) ∧ (okTo (okR t) q = true → OwnR w' w.heap.size u (listTo (relK t) q)) ∧ (okTo (okR t) q = false → u = .slice none 0 0) ∧ Below w.heap.size w w' := by
  have hC := fun W => count_any (w := W) A n c 24 (by omega)
  rw [if_neg (by omega), if_neg (by omega), if_neg (by omega), if_neg (by omega), show n / 24 = q by omega] at hC
  obtain ⟨i1, hj, hy0, hy1, hy2⟩ := info_parts rel_info
  have HN := Lib.hid (fun W (hW : W = w) => (by
    have := new_any (w := W) c (hW ▸ hr) (Nat.le_of_eq (by rw [hW])) (by omega)
    rwa [hn] at this : Calls Try.prog 21 #[.slice A n c] W fun r w' => ∃ g v, r = .returned (.pointer (some ⟨g, 0, none⟩)) ∧ Made W.heap.size w' g v t 0 ∧ Below W.heap.size W w'))
  have hm1 : i1.bytes * q ≤ 281474976710656 := by rw [hy2]; omega
  have hm2 : q ≤ maxLen := by unfold maxLen; omega
  have HLQ := Lib.hid (show t.length = 24 * q by omega)
  have HQ4 := Lib.hid hq4
  clear hr hn hlq hq4
  go_enter Try.func9, Try.ntmps9
  go_wp2_with (first
    | (go_at_call 20; refine (hC _).mono ?_; rintro r w1 ⟨rfl, rfl⟩)
    | (go_at_call 21; refine (HN.out _ rfl).mono ?_; rintro r w1 ⟨gc, vc, rfl, hM1, hb1⟩; have HM1 := Lib.hid hM1; have HB1 := Lib.hid hb1; clear hM1 hb1)
    | (at_make; refine wpList_make_full _ rfl _ _ 30 rfl w1.heap.size 48 i1 _ 4 Try.underlying30 hj hy0 hy1 .i64 .i64 (q : Int) (q : Int) q rfl rfl rfl rfl hm1 hm2 (Nat.le_refl _) ?_; intro w2 hown2 hg2))
  have hmf : ∀ (fn : Fn) (first cap : Array Value) (W : World), (Instr.makeFunc fn first cap).run Try.prog W = .ok (.func fn first cap) W := fun _ _ _ _ => rfl
  have hC1 := HM1.out.1
  have hgc : w.heap.size ≤ gc := HM1.out.2.1
  have hgl : gc < w1.heap.size := hC1.1.lt
  have hvc : vc.ownBlock ≠ some w1.heap.size := fun e => by have := (own_ge hC1.2.1 _ e).2; omega
  have hb12 : Below w1.heap.size w1 w2 := below_of_only hg2 (Nat.le_refl _) (by simp)
  have HC2 := Lib.hid (hC1.below hb12)
  have HW2 := Lib.hid (show RowTo 48 4 w2 w1.heap.size q (cellsF Rel.cells (listTo (relK t) 0)) from ⟨_, hown2⟩)
  have HB2 := Lib.hid (HB1.out.trans (hb12.mono HB1.out.size))
  have hbg : w.heap.size ≤ w1.heap.size := HB1.out.size
  clear hC hC1 HN HM1 HB1 hown2 hg2 hb12 hm1 hm2 hj hy0 hy1 hy2
  generalize w1.heap.size = ge at *
  have hgcne : gc ≠ ge := by omega
  have hgcne' : ge ≠ gc := by omega
  go_loopw [25] (fun i wr => ∃ k : Nat, k ≤ q ∧ i = .int .i64 k ∧ Hid (okTo (okR t) k = true) ∧ RowTo 48 4 wr ge q (cellsF Rel.cells (listTo (relK t) k)) ∧ Cur wr gc vc t (24 * k) 0 ∧ Below w.heap.size w wr) (fun i _ => q - (intOf i).toNat)
  case atStart => exact ⟨0, Nat.zero_le _, rfl, Lib.hid rfl, HW2.out, HC2.out, HB2.out⟩
  case round =>
    obtain ⟨k, hk, rfl, HOK, hR, hC, hB⟩ := hrel
    clear HC2 HW2
    by_cases hlt : k < q
    · have HLT := Lib.hid hlt
      have HS := Lib.hid (rela_any (a := 24 * k) (by rw [HLQ.out]; have := HQ4.out; omega) (by rw [HLQ.out]; omega) hC)
      have HR := Lib.hid hR
      have HB := Lib.hid hB
      have HK := Lib.hid (show relK t k = ⟨numT t (24 * k) 8, (numT t (24 * k + 12) 4 : Int), (numT t (24 * k + 8) 4 : Int), IntKind.i64.wrap (numT t (24 * k + 16) 8 : Int)⟩ from rfl)
      have HO := Lib.hid (show okR t k = (decide (numT t (24 * k + 8) 4 ≤ 2147483647) && decide (numT t (24 * k + 12) 4 ≤ 2147483647)) from rfl)
      clear hR hC hB
      generalize (decide (numT t (24 * k + 8) 4 ≤ 2147483647) && decide (numT t (24 * k + 12) 4 ≤ 2147483647)) = ob at *
      generalize IntKind.i64.wrap (numT t (24 * k + 16) 8 : Int) = m3 at *
      generalize numT t (24 * k) 8 = m0 at *
      generalize numT t (24 * k + 8) 4 = m1 at *
      generalize numT t (24 * k + 12) 4 = m2 at *
      have FB := Lib.hid (fun (w4 : World) (hC4 : Cur w4 gc vc t (24 * k + 24) 0) (hG4 : wr.grownBy w4 (some gc)) => (⟨hC4, HR.out.kept hG4 (by simpa using hgcne'), below_only HB.out (Nat.le_refl _) hG4 hgc⟩ :
        Cur w4 gc vc t (24 * k + 24) 0 ∧ RowTo 48 4 w4 ge q (cellsF Rel.cells (listTo (relK t) k)) ∧ Below w.heap.size w w4))
      have hclen : (cellsF Rel.cells (listTo (relK t) k)).length = k * 4 := by rw [cellsF_length rel_four, listTo_length]
      have HCL := Lib.hid hclen
      clear hclen
      cases ob with
      | true =>
        go_wp2_with (first
          | (go_at_call 30; refine HS.out.mono ?_; rintro r w4 ⟨rfl, hC4, hG4⟩; (obtain ⟨hC5, hR5, hB5⟩ := FB.out w4 hC4 hG4); have HC5 := Lib.hid hC5; have HR5 := Lib.hid hR5; have HB5 := Lib.hid hB5; have hge4 := Nat.lt_of_lt_of_le HR.out.lt hG4.size; (obtain ⟨⟨y0, g0⟩, z0⟩ := hR5.free (k * 4) (by omega)); (obtain ⟨⟨y1, g1⟩, z1⟩ := hR5.free (k * 4 + 1) (by omega)); (obtain ⟨⟨y2, g2⟩, z2⟩ := hR5.free (k * 4 + 2) (by omega)); (obtain ⟨⟨y3, g3⟩, z3⟩ := hR5.free (k * 4 + 3) (by omega)); clear hC4 hG4 hC5 hR5 hB5))
        obtain ⟨e1, e2, e3⟩ := take_stepR (vs := [.int .u64 (m0 : Int), .int .i64 (m2 : Int), .int .i64 (m1 : Int), .int .i64 m3]) HR5.out HC5.out HB5.out hgcne hvc HCL.out rfl HLT.out hbg
        rw [rel_set] at e1 e2 e3
        generalize hWX : (((w4.setCell ⟨ge, k * 4, none⟩ (.int .u64 (m0 : Int))).setCell ⟨ge, k * 4 + 1, none⟩ (.int .i64 (m2 : Int))).setCell ⟨ge, k * 4 + 2, none⟩ (.int .i64 (m1 : Int))).setCell ⟨ge, k * 4 + 3, none⟩ (.int .i64 m3) = WX at *
        have hAX : Below WX.heap.size WX (WX.alloc (.cells #[.int .u64 (m0 : Int), .int .i64 (m2 : Int), .int .i64 (m1 : Int), .int .i64 m3] 48)) := (Below.refl _ _).alloc (Nat.le_refl _) _
        have E1 := Lib.hid (e1.below hAX)
        have E2 := Lib.hid (e2.below hAX)
        have E3 := Lib.hid (e3.trans (hAX.mono e3.size))
        clear hAX
        clear e1 e2 e3 g0 g1 g2 g3 z0 z1 z2 z3 HC5 HR5 HB5
        clear hWX
        go_roundw
        case rel =>
          refine ⟨k + 1, by have := HLT.out; omega, by (have h1 := HLT.out; have h2 := HQ4.out; have h3 : wrap64 ((k : Int) + 1) = (k : Int) + 1 := (by unfold wrap64; omega); rw [h3]; rfl), Lib.hid (by rw [okTo_next, HOK.out, HO.out]; rfl), ?_, E2.out, E3.out⟩
          rw [listTo_next, cellsF_append, cellsF_one, HK.out]
          exact E1.out
        case measure => have h1 := HLT.out; have h2 := HQ4.out; have h3 : wrap64 ((k : Int) + 1) = (k : Int) + 1 := (by unfold wrap64; omega); rw [h3]; simp [intOf]; omega
      | false =>
        have HF := Lib.hid (okTo_more hlt (show okR t k = false by rw [HO.out]))
        go_wp2_with (first
          | (go_at_call 30; refine HS.out.mono ?_; rintro r w4 ⟨rfl, hC4, hG4⟩; (obtain ⟨hC5, hR5, hB5⟩ := FB.out w4 hC4 hG4); have HB5 := Lib.hid hB5; clear hC4 hG4 hC5 hR5 hB5))
        go_ret2
        exact ⟨_, by rw [HF.out]; rfl, fun h => absurd (HF.out.symm.trans h) (by decide), fun _ => rfl, below_alloc_any HB5.out _⟩
    · have hkq : k = q := by omega
      subst hkq
      have HD := Lib.hid (show OwnR wr w.heap.size (.slice (some ⟨ge, 0, none⟩) k k) (listTo (relK t) k) by
        rw [OwnR, listTo_length]
        exact hR.done (by rw [cellsF_length rel_four, listTo_length]) hbg)
      have HB := Lib.hid hB
      clear hR hC hB
      go_wp2_with fail
      go_ret2
      exact ⟨_, by rw [HOK.out]; rfl, fun _ => HD.out, fun h => absurd (HOK.out.symm.trans h) (by decide), HB.out⟩

/-- TakeRelas, of whatever bytes. -/
theorem yrel_any {w : World} {A : Option Addr} {t : List UInt8} (hr : Rd w w.heap.size A t) (c : Nat) (hl : t.length ≤ 1000000) :
    Calls Try.prog 9 #[.slice A t.length c] w fun r w' => ∃ u, r = .returned (.tuple #[u, .int .i64 (takeEY t.length (okR t) 24)]) ∧ OwnR w' w.heap.size u (takeLY t.length (okR t) (relK t)) ∧ Below w.heap.size w w' := by
  by_cases h1 : t.length % 24 ≠ 0
  · rw [takeEY_odd h1, takeLY_odd h1]
    exact (yrel_odd A _ c hl h1).mono fun r w' ⟨e, hw⟩ => ⟨_, e, World.ownsRow_nil _ _ _ _, hw ▸ Below.refl _ _⟩
  · by_cases h2 : 400 < t.length / 24
    · rw [takeEY_big h1 h2, takeLY_big h1 h2]
      exact (yrel_big A _ c hl h1 h2).mono fun r w' ⟨e, hw⟩ => ⟨_, e, World.ownsRow_nil _ _ _ _, hw ▸ Below.refl _ _⟩
    · have hq : t.length = 24 * (t.length / 24) := by omega
      refine (yrel_even rfl hq (by omega) hr c).mono fun r w' ⟨u, e, g1, g2, hb⟩ => ⟨u, ?_, ?_, hb⟩
      · rw [e]
        cases ho : okTo (okR t) (t.length / 24) with
        | true => rw [takeEY_ok hq (by omega) ho]; rfl
        | false => rw [takeEY_bad hq (by omega) ho]; rfl
      · cases ho : okTo (okR t) (t.length / 24) with
        | true => rw [takeLY_ok hq (by omega) ho]; exact g1 ho
        | false => rw [takeLY_bad hq (by omega) ho, g2 ho]; exact World.ownsRow_nil _ _ _ _

end Go.Proofs.Ytkadjejjillmmaa
