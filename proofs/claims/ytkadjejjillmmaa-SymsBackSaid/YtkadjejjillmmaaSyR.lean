/-
  Package syms: Put.
-/

import Derived.Test.YtkadjejjillmmaaSyQ
import Derived.Test.YtkadjejjillmmaaParts
import Derived.Test.YtkadjejjillmmaaSyDa
namespace Go.Proofs.Ytkadjejjillmmaa
open Go Go.RowKit

theorem yput_wrong {w : World} {a : Option Addr} {L : List Sym} (h : Syms w w.heap.size a L) (c : Nat) (hl : L.length ≤ 100000) (hr : rightY L = false) :
    Calls Try.prog 14 #[.slice a L.length c] w fun r w' => r = .returned (.tuple #[.slice none 0 0, .slice none 0 0, .int .i64 2]) ∧ Below w.heap.size w w' := by
  have HR := Lib.hid (yright_any h c hl)
  rw [hr] at HR
  clear h hl hr
  generalize L.length = n at *
  go_enter Try.func14, Try.ntmps14
  go_wp2_with (go_at_call 16; refine HR.out.mono ?_; rintro r w1 ⟨rfl, hb1⟩)
  go_ret3
  exact ⟨rfl, hb1⟩

set_option maxRecDepth 10000 in
set_option maxHeartbeats 3200000 in
theorem yput_right {w : World} {a : Option Addr} {L : List Sym} (h : Syms w w.heap.size a L) (c : Nat) (hr : rightY L = true) (hs : sumN L ≤ 50000) :
    Calls Try.prog 14 #[.slice a L.length c] w fun r w' => ∃ u v, r = .returned (.tuple #[u, v, .int .i64 0]) ∧ Own w' w.heap.size u (tabK L L.length) ∧ Own w' w.heap.size v (putsT (texK L L.length)) ∧ (∀ x, u.ownBlock = some x → v.ownBlock ≠ some x) ∧ Below w.heap.size w w' := by
  obtain ⟨hl4, hok⟩ := rightY_all hr
  have HR := Lib.hid (yright_any h c (by omega))
  rw [hr] at HR
  have HH := Lib.hid h
  have HOK := Lib.hid hok
  have HSU := Lib.hid hs
  have HL4 := Lib.hid hl4
  generalize hN : L.length = N at *
  have HN := Lib.hid hN
  have HNW := Lib.hid (fun W => pnew_any W)
  clear h hl4 hok hr hs hN
  go_enter Try.func14, Try.ntmps14
  go_wp2_with (first
    | (go_at_call 16; refine HR.out.mono ?_; rintro r w1 ⟨rfl, hb1⟩; have HB1 := Lib.hid hb1; clear hb1)
    | (go_at_call 31; refine (HNW.out _).mono ?_; rintro r w2 ⟨g, mb, rfl, hp2, hb2⟩; have HP2 := Lib.hid (hp2.base_le HB1.out.size); have HB2 := Lib.hid (HB1.out.trans (hb2.mono HB1.out.size)); have HA := Lib.hid (add_ap HP2.out [] (by decide)); clear hp2 hb2)
    | (go_at_call 32; refine HA.out.mono ?_; rintro r w3 ⟨rfl, v3, hp3, ho3, hf3⟩; have HT3 := Lib.hid (TabSt.added (u := .slice none 0 0) (T := []) ⟨World.ownsRow_nil _ _ _ _, HP2.out, (fun x hx => by simp [Value.ownBlock] at hx), HB2.out⟩ hp3 ho3 hf3); clear hp3 ho3 hf3 HA))
  rw [show (addT [] []).1 = texK L 0 from rfl] at HT3
  clear HR HNW HP2 HB2
  go_loopw [2, 20] (fun u i wr => ∃ (k : Nat) (v : Value), k ≤ N ∧ i = .int .i64 k ∧ TabSt w wr g mb u v (tabK L k) (texK L k)) (fun _ i _ => N - (intOf i).toNat)
  case atStart => exact ⟨0, v3, Nat.zero_le _, rfl, HT3.out⟩
  case round =>
    obtain ⟨k, v, hk, rfl, hT⟩ := hrel
    clear HT3
    by_cases hlt : k < N
    · have HLT := Lib.hid hlt
      obtain ⟨x, hx⟩ : ∃ x, L[k]? = some x := ⟨L[k]'(by rw [HN.out]; exact hlt), List.getElem?_eq_getElem _⟩
      obtain ⟨b, o, rfl, hb, c0, c1, c2, c3, c4, c5⟩ := sym_at (HH.out.below hT.below) hx
      obtain ⟨hrt, ⟨hb0, hb1⟩, ⟨hk0, hk1⟩, hs0, hs1⟩ := okY_facts (HOK.out x (List.mem_of_getElem? hx))
      have hspan : spanT (texK L k) ≤ 60000 := by
        have h1 := texK_span L k (by rw [HN.out]; omega)
        have h2 := sumN_take L k
        have h3 := HSU.out
        have h4 := HL4.out
        omega
      have HADD := Lib.hid (addT_ok hrt hspan).1
      have HTX := Lib.hid (texK_next hx)
      have HTB := Lib.hid (tabK_next hx)
      have HTL := Lib.hid (tabK_length L k)
      have HA := Lib.hid (add_ap (hT.alloc (.cells #[.string ⟨x.name.toArray⟩, .int .i64 x.bind, .int .i64 x.kind, .int .i64 x.sect, .int .u64 (x.value : Int), .int .u64 (x.size : Int)] 51)).pool x.name (by have := (rightT_spec hrt).1; omega))
      have HX := Lib.hid (Box.new wr 51 #[.string ⟨x.name.toArray⟩, .int .i64 x.bind, .int .i64 x.kind, .int .i64 x.sect, .int .u64 (x.value : Int), .int .u64 (x.size : Int)])
      have HT := Lib.hid (hT.alloc (.cells #[.string ⟨x.name.toArray⟩, .int .i64 x.bind, .int .i64 x.kind, .int .i64 x.sect, .int .u64 (x.value : Int), .int .u64 (x.size : Int)] 51))
      obtain ⟨bi, hbi⟩ : ∃ n : Nat, x.bind = (n : Int) := ⟨x.bind.toNat, by omega⟩
      obtain ⟨ki, hki⟩ : ∃ n : Nat, x.kind = (n : Int) := ⟨x.kind.toNat, by omega⟩
      obtain ⟨se, hse⟩ : ∃ n : Nat, x.sect = (n : Int) := ⟨x.sect.toNat, by omega⟩
      have hor := or_low bi ki (by omega) (by omega)
      have HIT := Lib.hid (show itsY (addT (texK L k) x.name).2.1 x = [((addT (texK L k) x.name).2.1, 4), (bi * 16 + ki, 1), (0, 1), (se, 2), (x.value, 8), (x.size, 8)] by
        unfold itsY
        rw [hbi, hki, hse, show ((bi : Int) * 16 + (ki : Int)) = ((bi * 16 + ki : Nat) : Int) by omega]
        have e1 : wrapN ((bi * 16 + ki : Nat) : Int) = bi * 16 + ki := by unfold wrapN; rw [IntKind.wrap_u64]; omega
        have e2 : wrapN (se : Int) = se := by unfold wrapN; rw [IntKind.wrap_u64]; omega
        rw [e1, e2])
      rw [hbi, hki, hse] at HA HX HT
      rw [hbi] at c1
      rw [hki] at c2
      rw [hse] at c3
      have hbi5 : bi ≤ 15 := by omega
      have hki5 : ki ≤ 15 := by omega
      have hse5 : se ≤ 65534 := by omega
      clear hT hx hb hrt hb0 hb1 hk0 hk1 hs0 hs1 hspan hbi hki hse
      rw [HADD.out] at HA
      generalize (addT (texK L k) x.name).2.1 = p at *
      generalize itsY p x = its at *
      generalize (addT (texK L k) x.name).1 = tx at *
      generalize x.value = x4 at *
      generalize x.size = x5 at *
      generalize ByteArray.mk x.name.toArray = sb at *
      obtain ⟨bm, hbm⟩ : ∃ m, bi * 16 = m := ⟨_, rfl⟩
      have e1 : (bi : Int) * 16 = (bm : Int) := by omega
      rw [hbm] at hor HIT
      obtain ⟨bo, hbo⟩ : ∃ m, bm + ki = m := ⟨_, rfl⟩
      rw [hbo] at hor HIT
      have hbm2 : bm ≤ 240 := by omega
      have hbo2 : bo ≤ 255 := by omega
      have e2 : IntKind.i64.wrap (bm : Int) = (bm : Int) := by rw [IntWalk.i64_in _ (by omega)]
      have e3 : IntKind.u64.wrap (bo : Int) = (bo : Int) := by rw [IntWalk.u64_in _ (by omega)]
      have e4 : IntKind.u64.wrap (se : Int) = (se : Int) := by rw [IntWalk.u64_in _ (by omega)]
      clear hbm hbo
      go_wp2_with (first
        | (go_at_call 32; refine HA.out.mono ?_; rintro r w4 ⟨rfl, v4, hp4, ho4, hf4⟩; have HT4 := Lib.hid (HT.out.added hp4 ho4 hf4); (obtain ⟨q0, q1, q2, q3, q4, q5⟩ := six_cells (box_pool HX.out (by decide) (by decide) ho4)); clear hp4 ho4 hf4 HA HT HX))
      have HBX := Lib.hid (show Box (w4.alloc (.cells #[.int .u64 (p : Int), .int .i64 4, .int .u64 (bo : Int), .int .i64 1, .int .u64 0, .int .i64 1, .int .u64 (se : Int), .int .i64 2, .int .u64 (x4 : Int), .int .i64 8, .int .u64 (x5 : Int), .int .i64 8] 73)) w4.heap.size 73 #[.int .u64 (p : Int), .int .i64 4, .int .u64 (bo : Int), .int .i64 1, .int .u64 0, .int .i64 1, .int .u64 (se : Int), .int .i64 2, .int .u64 (x4 : Int), .int .i64 8, .int .u64 (x5 : Int), .int .i64 8] from Box.new _ _ _)
      have HT5 := Lib.hid (HT4.out.alloc (.cells #[.int .u64 (p : Int), .int .i64 4, .int .u64 (bo : Int), .int .i64 1, .int .u64 0, .int .i64 1, .int .u64 (se : Int), .int .i64 2, .int .u64 (x4 : Int), .int .i64 8, .int .u64 (x5 : Int), .int .i64 8] 73))
      have HL6 := Lib.hid (show its.length = 6 ∧ (∀ y ∈ its, y.2 ≤ 8) by rw [HIT.out]; exact ⟨rfl, by simp⟩)
      have HIV := Lib.hid (show (itsV its).toArray = #[.int .u64 (p : Int), .int .i64 4, .int .u64 (bo : Int), .int .i64 1, .int .u64 0, .int .i64 1, .int .u64 (se : Int), .int .i64 2, .int .u64 (x4 : Int), .int .i64 8, .int .u64 (x5 : Int), .int .i64 8] by rw [HIT.out]; rfl)
      clear q0 q1 q2 q3 q4 q5 HT4 hlt
      generalize w4.heap.size = H at *
      generalize hWX : w4.alloc (.cells #[.int .u64 (p : Int), .int .i64 4, .int .u64 (bo : Int), .int .i64 1, .int .u64 0, .int .i64 1, .int .u64 (se : Int), .int .i64 2, .int .u64 (x4 : Int), .int .i64 8, .int .u64 (x5 : Int), .int .i64 8] 73) = w5 at *
      clear hWX
      generalize wr = wx at *
      go_loopw [2, 56] (fun u i wr => ∃ (j : Nat) (v : Value), j ≤ 6 ∧ i = .int .i64 j ∧ TabSt w wr g mb u v (tabK L k ++ itsB (its.take j)) tx ∧ Box wr H 73 (itsV its).toArray) (fun _ i _ => 6 - (intOf i).toNat)
      case atStart => exact ⟨0, v4, Nat.zero_le _, rfl, by rw [List.take_zero, show itsB [] = [] from rfl, List.append_nil]; exact HT5.out, by rw [HIV.out]; exact HBX.out⟩
      case round =>
        obtain ⟨j, v, hj, rfl, hT, hX⟩ := hrel
        clear HT5 HBX
        by_cases hjl : j < 6
        · obtain ⟨y, q, hyq⟩ : ∃ y q, its[j]? = some (y, q) := ⟨_, _, List.getElem?_eq_getElem (show j < its.length by rw [HL6.out.1]; exact hjl)⟩
          obtain ⟨hd0, hd1⟩ := itsV_at _ j y q hyq
          have HS := Lib.hid (itsB_step _ j y q hyq)
          have hq : q ≤ 8 := HL6.out.2 _ (List.mem_of_getElem? hyq)
          have hlen := itsB_le its j HL6.out.2
          have hlen2 : (tabK L k ++ itsB (its.take j)).length ≤ 140737488355000 := by
            have h1 := HTL.out
            have h2 := HL6.out.1
            have h3 := HLT.out
            have h4 := HL4.out
            rw [List.length_append]
            omega
          have d0 : wr.cell? ⟨H, j * 2, none⟩ = some (.int .u64 (y : Int)) := by rw [hX.cell]; simpa using hd0
          have d1 : wr.cell? ⟨H, j * 2 + 1, none⟩ = some (.int .i64 (q : Int)) := by rw [hX.cell]; simpa using hd1
          have hclamp : clampOf (q : Int) = q := by unfold clampOf; omega
          have hT0 := hT.alloc (.cells #[.int .u64 (y : Int), .int .i64 (q : Int)] 73)
          have hP := put_any hT0.row hT0.below.size y q (by omega) hlen2
          rw [hclamp] at hP
          have HP := Lib.hid hP
          have HT0 := Lib.hid hT0
          have HX := Lib.hid hX
          have hGl := hX.lt
          have hb0 : Below wr.heap.size wr (wr.alloc (.cells #[.int .u64 (y : Int), .int .i64 (q : Int)] 73)) := (Below.refl _ _).alloc (Nat.le_refl _) _
          have HB0 := Lib.hid hb0
          clear hd0 hd1 hyq hlen hlen2 hclamp hP hT0 hT hX hb0 hq
          go_wp2_with (go_at_call 33; refine HP.out.mono ?_; rintro r w7 ⟨v7, rfl, hL⟩)
          have HT7 := Lib.hid (HT0.out.laid hL)
          have HX7 := Lib.hid ((HX.out.below HB0.out HX.out.lt).grown hL.2.1 (by have := own_other HT0.out.row (HX.out.below HB0.out HX.out.lt) (by decide); exact fun e => this e.symm))
          clear hL HP HT0 HX HB0 d0 d1
          go_roundw
          case rel => exact ⟨j + 1, v, by omega, by go_num, by rw [HS.out, ← List.append_assoc]; exact HT7.out, HX7.out⟩
          case measure => simp [intOf]; omega
        · have HT7 := Lib.hid (show TabSt w wr g mb u2 v (tabK L (k + 1)) (texK L (k + 1)) by
            rw [show j = 6 by omega, List.take_of_length_le (by rw [HL6.out.1]; exact Nat.le_refl _)] at hT
            rw [HTB.out, HTX.out]
            exact hT)
          clear hT hX
          go_wp2_with fail
          have h3 := wrap_next (Nat.le_trans (Nat.le_of_lt HLT.out) (Nat.le_trans HL4.out (by decide)))
          rw [h3]
          exact ⟨⟨k + 1, v, HLT.out, rfl, HT7.out⟩, step_less HLT.out⟩
    · have hkN : k = N := by omega
      subst hkN
      have HT := Lib.hid hT
      have HY := Lib.hid (bytes_at hT.pool)
      clear hT
      go_wp2_with (go_at_call 34; refine HY.out.mono ?_; rintro r w9 ⟨v9, rfl, ho9, hb9⟩)
      go_ret3
      exact ⟨_, _, rfl, own_below HT.out.row hb9, own_up ho9 HT.out.below.size, fun x hx hv => by
        have h1 := (own_ge HT.out.row x hx).2
        have h2 := (own_ge ho9 x hv).1
        omega, HT.out.below.trans (hb9.mono HT.out.below.size)⟩

/-- Put, of whatever symbols. -/
theorem yput_any {w : World} {a : Option Addr} {L : List Sym} (h : Syms w w.heap.size a L) (c : Nat) (hl : L.length ≤ 100000) (hs : sumN L ≤ 50000) :
    Calls Try.prog 14 #[.slice a L.length c] w fun r w' => ∃ u v, r = .returned (.tuple #[u, v, .int .i64 (errOf (rightY L) 2)]) ∧ Own w' w.heap.size u (tabY L) ∧ Own w' w.heap.size v (txtY L) ∧ (∀ x, u.ownBlock = some x → v.ownBlock ≠ some x) ∧ Below w.heap.size w w' := by
  unfold tabY txtY
  cases hr : rightY L with
  | true => exact yput_right h c hr hs
  | false => exact (yput_wrong h c hl hr).mono fun r w' ⟨e, hb⟩ => ⟨_, _, e, World.ownsRow_nil _ _ _ _, World.ownsRow_nil _ _ _ _, (fun x hx => by simp [Value.ownBlock] at hx), hb⟩

end Go.Proofs.Ytkadjejjillmmaa
