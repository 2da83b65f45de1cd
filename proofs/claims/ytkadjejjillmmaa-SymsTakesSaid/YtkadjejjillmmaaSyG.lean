/-
  The document's TakeRelas.
-/

import Derived.Test.YtkadjejjillmmaaSyF
import Derived.Test.YtkadjejjillmmaaSyE
namespace Go.Proofs.Ytkadjejjillmmaa
open Go Go.RowKit

theorem ryrel_odd {w : World} (A : Option Addr) (n c : Nat) (h : n % 24 ≠ 0) :
    Calls Try.prog 10 #[.slice A n c] w fun r w' => r = .returned (.tuple #[.slice none 0 0, .int .i64 24]) ∧ w = w' := by
  have hm := modI n
  have hm' : (n : Int) % 24 = ((n % 24 : Nat) : Int) := by omega
  have hz : decide (0 < n % 24) = true := decide_eq_true (by omega)
  generalize n % 24 = m at *
  clear h
  go_enter Try.func10, Try.ntmps10
  go_wp2_with fail
  go_ret2
  exact ⟨rfl, rfl⟩
theorem ryrel_big {w : World} (A : Option Addr) (n c : Nat) (hl : n ≤ 1000000) (h : ¬ n % 24 ≠ 0) (h2 : 400 < n / 24) :
    Calls Try.prog 10 #[.slice A n c] w fun r w' => r = .returned (.tuple #[.slice none 0 0, .int .i64 3]) ∧ w = w' := by
  have hm := modI n
  have hd := divI n
  have hm' : (n : Int) % 24 = ((n % 24 : Nat) : Int) := by omega
  have hd' : (n : Int) / 24 = ((n / 24 : Nat) : Int) := by omega
  have hz : decide (0 < n % 24) = false := decide_eq_false (by omega)
  have hqb : n / 24 ≤ 1000000 := by omega
  have hq : decide ((400 : Int) < ((n / 24 : Nat) : Int)) = true := decide_eq_true (by omega)
  generalize n % 24 = m at *
  generalize n / 24 = q at *
  clear h h2
  go_enter Try.func10, Try.ntmps10
  go_wp2_with fail
  go_ret2
  exact ⟨rfl, rfl⟩

set_option maxRecDepth 10000 in
set_option maxHeartbeats 1600000 in
theorem ryrel_even {w : World} {A : Option Addr} {t : List UInt8} {n q : Nat} (hn : t.length = n) (hlq : n = 24 * q) (hq4 : q ≤ 400) (hr : Rd w w.heap.size A t) (c : Nat) (hlc : n ≤ c) (hcm : c ≤ maxLen) :
    Calls Try.prog 10 #[.slice A n c] w fun r w' => ∃ u, r = .returned (.tuple #[u, .int .i64 (errOf (okTo (okR t) q) 24)]) ∧ (okTo (okR t) q = true → OwnR w' w.heap.size u (listTo (relK t) q)) ∧ (okTo (okR t) q = false → u = .slice none 0 0) ∧ Below w.heap.size w w' := by
  have hq : decide ((400 : Int) < (q : Int)) = false := decide_eq_false (by omega)
  have hlc0 : t.length ≤ c := by omega
  have HLQ := Lib.hid (show t.length = 24 * q by omega)
  have HNQ := Lib.hid (show n = 24 * q by omega)
  have HQ4 := Lib.hid hq4
  have hm := modI n
  have hd := divI n
  rw [show n % 24 = 0 by omega] at hm
  rw [show n / 24 = q by omega] at hd
  have hm' : (n : Int) % 24 = 0 := by omega
  have hd' : (n : Int) / 24 = (q : Int) := by omega
  have hqw : wrap64 (q : Int) = (q : Int) := by unfold wrap64; omega
  obtain ⟨i1, hj, hy0, hy1, hy2⟩ := info_parts rel_info
  have hb0 : Below w.heap.size w (w.alloc (.cells #[.slice A n c, .int .i64 0, .int .i64 0] 63)) := (Below.refl _ _).alloc (Nat.le_refl _) _
  have hR0 : RR w.heap.size (w.alloc (.cells #[.slice A n c, .int .i64 0, .int .i64 0] 63)) w.heap.size (.slice A n c) t 0 0 :=
    ⟨Box.new _ _ _, ⟨A, c, by rw [hn], hlc0, hcm, hr.below hb0⟩, Nat.zero_le _, Nat.le_refl _⟩
  obtain ⟨w1, hw1⟩ : ∃ w1, w.alloc (.cells #[.slice A n c, .int .i64 0, .int .i64 0] 63) = w1 := ⟨_, rfl⟩
  have hg1 : w.heap.size < w1.heap.size := by rw [← hw1]; simp
  rw [hw1] at hb0 hR0
  have HW := Lib.hid hw1
  have HB0 := Lib.hid hb0
  have HR0 := Lib.hid hR0
  clear hr hn hlq hq4 hlc hlc0 hcm hb0 hR0 hw1
  go_enter Try.func10, Try.ntmps10
  go_wp2_with fail
  rw [HW.out]
  clear hm hd hq hm' hd' hqw
  go_loopw [5] (fun u wr => ∃ k a : Nat, k ≤ q ∧ Hid (a = 24 * k) ∧ Hid (okTo (okR t) k = true) ∧ OwnR wr w1.heap.size u (listTo (relK t) k) ∧ RR w.heap.size wr w.heap.size (.slice A n c) t a 0 ∧ Below w.heap.size w wr ∧ w1.heap.size ≤ wr.heap.size) (fun u _ => q - lenW u)
  case atStart => exact ⟨0, 0, Nat.zero_le _, Lib.hid rfl, Lib.hid rfl, World.ownsRow_nil _ _ _ _, HR0.out, HB0.out, Nat.le_refl _⟩
  case round =>
    obtain ⟨k, a, hk, HAK, HOK, hO, hR, hB, hS⟩ := hrel
    have c1 := rr_cell_at hR
    by_cases hlt : k < q
    · have HLT := Lib.hid hlt
      have hltn : a < n := by have := HAK.out; have := HNQ.out; omega
      have hlen : t.length ≤ 140737488355328 := by rw [HLQ.out]; have := HQ4.out; omega
      have hin : a + 24 ≤ t.length := by rw [HLQ.out, HAK.out]; omega
      have HU := Lib.hid (q_num hR 8 (by decide) hlen (by omega))
      have HK := Lib.hid (show relK t k = ⟨numT t a 8, (numT t (a + 12) 4 : Int), (numT t (a + 8) 4 : Int), IntKind.i64.wrap (numT t (a + 16) 8 : Int)⟩ by rw [HAK.out]; rfl)
      have HO := Lib.hid (show okR t k = (decide (numT t (a + 8) 4 ≤ 2147483647) && decide (numT t (a + 12) 4 ≤ 2147483647)) by rw [HAK.out]; rfl)
      have hn1 := num4 t (a + 8)
      have hn2 := num4 t (a + 12)
      generalize numT t a 8 = m0 at *
      have HX := Lib.hid hO
      have HB := Lib.hid hB
      have FB := Lib.hid (fun (w2 : World) (hR2 : RR w.heap.size w2 w.heap.size (.slice A n c) t (a + 8) 0) (hG2 : wr.grownBy w2 (some w.heap.size)) => (by
        have hA3 : Below w2.heap.size w2 (w2.alloc (.cells #[.int .u64 (m0 : Int), .int .i64 0, .int .i64 0, .int .i64 0] 48)) := (Below.refl _ _).alloc (Nat.le_refl _) _
        exact ⟨hR2.below hA3, Box.new _ _ _, only_trans hG2 (only_below hA3 (some w.heap.size)) (.inl rfl)⟩ :
        StQ 48 w.heap.size wr (w2.alloc (.cells #[.int .u64 (m0 : Int), .int .i64 0, .int .i64 0, .int .i64 0] 48)) w.heap.size (.slice A n c) t (a + 8) w2.heap.size #[.int .u64 (m0 : Int), .int .i64 0, .int .i64 0, .int .i64 0]))
      clear hO hB hR
      go_wp2_with fail
      refine HU.out.mono ?_
      rintro r w2 ⟨rfl, hR2, hG2⟩
      have HS3 := Lib.hid (FB.out _ hR2 hG2)
      have hS2 := hG2.size
      clear hR2 hG2 HU FB
      have hne : w.heap.size ≠ w2.heap.size := by omega
      have hBH : w.heap.size ≤ w2.heap.size := by omega
      have hwH : wr.heap.size ≤ w2.heap.size := hS2
      have hlen : t.length ≤ 140737488355328 := by rw [HLQ.out]; have := HQ4.out; omega
      have hin : a + 24 ≤ t.length := by rw [HLQ.out, HAK.out]; have := HLT.out; omega
      go_wp2_with fail
      generalize w2.heap.size = H at *
      have C1 := Lib.hid (fun W cs (hS : StQ 48 w.heap.size wr W w.heap.size (.slice A n c) t (a + 8) H cs) => hS.num hne 4 (by decide) hlen (by omega))
      have C2 := Lib.hid (fun W cs (hS : StQ 48 w.heap.size wr W w.heap.size (.slice A n c) t (a + 12) H cs) => hS.num hne 4 (by decide) hlen (by omega))
      have C3 := Lib.hid (fun W cs (hS : StQ 48 w.heap.size wr W w.heap.size (.slice A n c) t (a + 16) H cs) => hS.num hne 8 (by decide) hlen (by omega))
      clear hlen hin hS2
      generalize numT t (a + 8) 4 = m1 at *
      generalize numT t (a + 12) 4 = m2 at *
      generalize numT t (a + 16) 8 = m3 at *
      have e1 : IntKind.i64.wrap (m1 : Int) = (m1 : Int) := by rw [IntWalk.i64_in _ (by omega)]
      have e2 : IntKind.i64.wrap (m2 : Int) = (m2 : Int) := by rw [IntWalk.i64_in _ (by omega)]
      generalize hy : IntKind.i64.wrap (m3 : Int) = y at *
      refine (C1.out _ _ HS3.out).mono ?_
      rintro r w4 ⟨rfl, h⟩
      have HS4 := Lib.hid (show StQ 48 w.heap.size wr w4 w.heap.size (.slice A n c) t (a + 12) H _ from h)
      clear h C1 HS3
      go_wp2_with fail
      refine (C2.out _ _ HS4.out).mono ?_
      rintro r w5 ⟨rfl, h⟩
      have HS5 := Lib.hid (show StQ 48 w.heap.size wr w5 w.heap.size (.slice A n c) t (a + 16) H _ from h)
      clear h C2 HS4
      go_wp2_with fail
      refine (C3.out _ _ HS5.out).mono ?_
      rintro r w8 ⟨rfl, h⟩
      obtain ⟨k0, k1, k2, k3⟩ := four_cells h.2.1
      obtain ⟨f0, f1, f2, f3⟩ := four_free h.2.1
      have HS8 := Lib.hid (show StQ 48 w.heap.size wr _ w.heap.size (.slice A n c) t (a + 24) H #[.int .u64 (m0 : Int), .int .i64 0, .int .i64 0, .int .i64 y] from h.set hne hBH hwH 3 (.int .i64 y))
      clear h C3 HS5
      by_cases h5 : m1 ≤ 2147483647
      · have q1 : decide ((2147483647 : Int) < (m1 : Int)) = false := decide_eq_false (by omega)
        rw [decide_eq_true h5, Bool.true_and] at HO
        clear h5
        by_cases h6 : m2 ≤ 2147483647
        · have q2 : decide ((2147483647 : Int) < (m2 : Int)) = false := decide_eq_false (by omega)
          rw [decide_eq_true h6] at HO
          clear h6
          have HS9 := Lib.hid (show StQ 48 w.heap.size wr _ w.heap.size (.slice A n c) t (a + 24) H #[.int .u64 (m0 : Int), .int .i64 (m2 : Int), .int .i64 (m1 : Int), .int .i64 y] from (HS8.out.set hne hBH hwH 2 (.int .i64 (m1 : Int))).set hne hBH hwH 1 (.int .i64 (m2 : Int)))
          generalize hW9 : ((w8.setCell ⟨H, 3, none⟩ (.int .i64 y)).setCell ⟨H, 2, none⟩ (.int .i64 (m1 : Int))).setCell ⟨H, 1, none⟩ (.int .i64 (m2 : Int)) = w9 at *
          have HW9 := Lib.hid hW9
          have hz9 : w9.heap.size = w8.heap.size := by rw [← hW9]; simp only [heap_size_set]
          clear hW9
          have hRow := World.ownsRow.kept (w := wr) HX.out HS9.out.2.2 (block_not (fun y hy => (row_ge HX.out y hy).1) hg1)
          have hlt7 : (listTo (relK t) k).length = k := listTo_length _ _
          rw [hlt7] at hRow
          have HRW := Lib.hid hRow
          have H63 := Lib.hid (show k + 1 ≤ maxLen by have := HLT.out; have := HQ4.out; unfold maxLen; omega)
          have HBY := Lib.hid (show (k + 1) * 32 ≤ 140737488355328 by have := HLT.out; have := HQ4.out; omega)
          have HS := Lib.hid hS
          have HG9 := Lib.hid HS9.out.2.2
          clear hRow hlt7
          have HCN := Lib.hid (show ∀ j u, (Rel.cells ⟨m0, m2, m1, y⟩)[j]? = some u → (w9.alloc (.cells (Rel.cells ⟨m0, m2, m1, y⟩).toArray 48)).cell? ((⟨w8.heap.size, 0, none⟩ : Addr).add j) = some u from fun j u hj => by
            have := cells_new w9 _ 48 j u hj
            rwa [hz9] at this)
          have hbs : w1.heap.size ≤ (w9.alloc (.cells (Rel.cells ⟨m0, m2, m1, y⟩).toArray 48)).heap.size := by have := HS.out; have := HG9.out.size; simp at *; omega
          clear hz9
          have HRW' := Lib.hid (HRW.out.alloc (.cells (Rel.cells ⟨m0, m2, m1, y⟩).toArray 48))
          go_wp2_with (at_builtin; (rw [HW9.out]; refine wpList_append_own_at _ (by rfl) (.tmp 50) (.tmp 52) _ (by rfl) w1.heap.size 48 i1 _ 4 32 Try.underlying30 hj hy0 hy1 hy2 rfl (by decide) u5 k (cellsF Rel.cells (listTo (relK t) k)) (by rfl) HRW'.out ⟨w8.heap.size, 0, none⟩ 1 1 (Rel.cells ⟨m0, m2, m1, y⟩) (by rfl) rfl (HCN.out) (rel_one _) H63.out HBY.out hbs ?_; intro v4 w4 hown4 hg4 hn4 hat4; clear hn4))
          have hge := row_ge HX.out
          have hA9 : Below w9.heap.size w9 (w9.alloc (.cells (Rel.cells ⟨m0, m2, m1, y⟩).toArray 48)) := (Below.refl _ _).alloc (Nat.le_refl _) _
          have hB9 := below_only HB.out (Nat.le_refl _) HS9.out.2.2 (Nat.le_refl _)
          have hRR := (HS9.out.1.below hA9).grown hg4 (fun e => by have := (hge _ e.symm).1; omega) (fun x hx => by have := (hge x hx).1; omega)
          have hBB := (hB9.trans (hA9.mono hB9.size)).grown hg4 (Nat.le_trans hB9.size hA9.size) (fun x hx => by have := (hge x hx).1; omega)
          have hl1 := row_len hown4
          have hl2 := row_len HX.out
          rw [listTo_length] at hl2
          refine ⟨⟨k + 1, a + 24, HLT.out, Lib.hid (by rw [HAK.out]; omega), Lib.hid (by rw [okTo_next, HOK.out, HO.out]; rfl), ?_, hRR, hBB, ?_⟩, by rw [hl1, hl2]; have := HLT.out; omega⟩
          · rw [OwnR, listTo_length, listTo_next, cellsF_append, cellsF_one, HK.out]
            exact hown4
          · exact Nat.le_trans hbs hg4.size
        · have q2 : decide ((2147483647 : Int) < (m2 : Int)) = true := decide_eq_true (by omega)
          rw [decide_eq_false h6] at HO
          have HF := Lib.hid (okTo_more HLT.out (show okR t k = false by rw [HO.out]))
          clear h6
          go_wp2_with fail
          go_ret2
          exact ⟨_, by rw [HF.out]; rfl, fun h => absurd (HF.out.symm.trans h) (by decide), fun _ => rfl, below_only HB.out (Nat.le_refl _) HS8.out.2.2 (Nat.le_refl _)⟩
      · have q1 : decide ((2147483647 : Int) < (m1 : Int)) = true := decide_eq_true (by omega)
        rw [decide_eq_false h5, Bool.false_and] at HO
        have HF := Lib.hid (okTo_more HLT.out (show okR t k = false by rw [HO.out]))
        clear h5
        go_wp2_with fail
        go_ret2
        exact ⟨_, by rw [HF.out]; rfl, fun h => absurd (HF.out.symm.trans h) (by decide), fun _ => rfl, below_only HB.out (Nat.le_refl _) HS8.out.2.2 (Nat.le_refl _)⟩
    · have hkq : k = q := by omega
      subst hkq
      have hltn : ¬ a < n := by have := HAK.out; have := HNQ.out; omega
      have HD := Lib.hid (show OwnR wr w.heap.size u5 (listTo (relK t) k) from row_base hO (by omega))
      have HB := Lib.hid hB
      clear hO hR hB
      go_wp2_with fail
      go_ret2
      exact ⟨_, by rw [HOK.out]; rfl, fun _ => HD.out, fun h => absurd (HOK.out.symm.trans h) (by decide), HB.out⟩

/-- The document's TakeRelas, of whatever bytes. -/
theorem ryrel_any {w : World} {A : Option Addr} {t : List UInt8} (hr : Rd w w.heap.size A t) (c : Nat) (hlc : t.length ≤ c) (hcm : c ≤ maxLen) (hl : t.length ≤ 1000000) :
    Calls Try.prog 10 #[.slice A t.length c] w fun r w' => ∃ u, r = .returned (.tuple #[u, .int .i64 (takeEY t.length (okR t) 24)]) ∧ OwnR w' w.heap.size u (takeLY t.length (okR t) (relK t)) ∧ Below w.heap.size w w' := by
  by_cases h1 : t.length % 24 ≠ 0
  · rw [takeEY_odd h1, takeLY_odd h1]
    exact (ryrel_odd A _ c h1).mono fun r w' ⟨e, hw⟩ => ⟨_, e, World.ownsRow_nil _ _ _ _, hw ▸ Below.refl _ _⟩
  · by_cases h2 : 400 < t.length / 24
    · rw [takeEY_big h1 h2, takeLY_big h1 h2]
      exact (ryrel_big A _ c hl h1 h2).mono fun r w' ⟨e, hw⟩ => ⟨_, e, World.ownsRow_nil _ _ _ _, hw ▸ Below.refl _ _⟩
    · have hq : t.length = 24 * (t.length / 24) := by omega
      refine (ryrel_even rfl hq (by omega) hr c hlc hcm).mono fun r w' ⟨u, e, g1, g2, hb⟩ => ⟨u, ?_, ?_, hb⟩
      · rw [e]
        cases ho : okTo (okR t) (t.length / 24) with
        | true => rw [takeEY_ok hq (by omega) ho]; rfl
        | false => rw [takeEY_bad hq (by omega) ho]; rfl
      · cases ho : okTo (okR t) (t.length / 24) with
        | true => rw [takeLY_ok hq (by omega) ho]; exact g1 ho
        | false => rw [takeLY_bad hq (by omega) ho, g2 ho]; exact World.ownsRow_nil _ _ _ _

end Go.Proofs.Ytkadjejjillmmaa
