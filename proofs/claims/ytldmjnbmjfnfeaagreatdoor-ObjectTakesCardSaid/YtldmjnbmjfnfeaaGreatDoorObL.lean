/-
  The document's object: its Take, where a section has symbols.
-/
import Derived.Test.YtldmjnbmjfnfeaaGreatDoorObJ
namespace Go.Proofs.YtldmjnbmjfnfeaaGreatDoor
open Go Go.RowKit

set_option maxRecDepth 10000 in
set_option maxHeartbeats 6400000 in
theorem rotake_tabx {w : World} {A : Option Addr} {l : List UInt8} (hr : Rd w w.heap.size A l) (c : Nat) (hlc : l.length ≤ c) (hcm : c ≤ maxLen) (hl : l.length ≤ 140737488355328) (hse : secE l = 0) (p : Nat) (hz : placeS (secL l) = (p : Int)) (hsx0 : symX (secL l) ≠ 0) :
    Calls Tryz.prog 8 #[.slice A l.length c] w (OTake l w) := by
  have hb0 : Below w.heap.size w (w.alloc (.cells #[.int .i64 0, .int .i64 0, .slice none 0 0, .slice none 0 0, .slice none 0 0] 32)) := (Below.refl _ _).alloc (Nat.le_refl _) _
  have hT := rstake_any ((hr.below hb0).more hb0.size) c hlc hcm hl
  have hX0 := Box.new w 32 #[.int .i64 0, .int .i64 0, .slice none 0 0, .slice none 0 0, .slice none 0 0]
  unfold RSTake at hT
  rcases secL_is l with ⟨_, _, _, _, hH⟩ | ⟨hn, _⟩
  · rw [hH, hse] at hT
    have HE := Lib.hid (objE_in hse)
    have HZ := Lib.hid hz
    have HX0N := Lib.hid hsx0
    clear hsx0
    have HT := Lib.hid hT
    have HX0 := Lib.hid hX0
    have HB0 := Lib.hid hb0
    have HNN := Lib.hid (secL_nn l)
    have HFS := Lib.hid (secL_first l)
    have HLN := Lib.hid (secL_length l)
    clear hT hX0 hb0 hse hH hr hlc hl hz
    unfold OTake
    generalize kindT l = kt at *
    generalize machT l = mt at *
    generalize offT l = ot at *
    generalize cntT l = ct at *
    generalize shsT l = st at *
    generalize secL l = S at *
    generalize objE l = oe at *
    generalize l.length = n at *
    go_enter Tryz.func8, Tryz.ntmps8
    go_wp2_with (go_at_call 23; refine HT.out.mono ?_; rintro r w1 ⟨A1, c1, L, rfl, hL1, hS1, hc1, hb1⟩; subst hL1; have HB1 := Lib.hid (HB0.out.trans (hb1.mono HB0.out.size)); have HX1 := Lib.hid (HX0.out.below hb1 (by simp)); have HS1 := Lib.hid hS1; clear hb1 hS1 HT)
    have hb2 : Below w1.heap.size w1 (w1.alloc (.cells #[.int .i64 kt, .int .i64 mt, .int .u64 (ot : Int), .int .i64 (ct : Int), .int .i64 (st : Int)] 64)) := (Below.refl _ _).alloc (Nat.le_refl _) _
    have hX2 := HX1.out.below hb2 HX1.out.lt
    have hH2 := Box.new w1 64 #[.int .i64 kt, .int .i64 mt, .int .u64 (ot : Int), .int .i64 (ct : Int), .int .i64 (st : Int)]
    have hS2 := (HS1.out.below hb2).more hb2.size
    have hB2 := HB1.out.trans (hb2.mono HB1.out.size)
    clear HX1 HS1 HB1 hb2
    generalize w1.alloc (.cells #[.int .i64 kt, .int .i64 mt, .int .u64 (ot : Int), .int .i64 (ct : Int), .int .i64 (st : Int)] 64) = w2 at *
    have KS := Lib.hid (fun W (hW : Below w2.heap.size w2 W) => (⟨hX2.below hW hX2.lt, (hS2.below hW).more hW.size, hB2.trans (hW.mono hB2.size)⟩ :
      Box W w.heap.size 32 #[.int .i64 0, .int .i64 0, .slice none 0 0, .slice none 0 0, .slice none 0 0] ∧ Secs W W.heap.size A1 L ∧ Below w.heap.size w W))
    have HSB := Lib.hid (fun W (hW : Below w2.heap.size w2 W) => (hS2.below hW : Secs W w2.heap.size A1 L))
    have HLN2 := Lib.hid (show L.length ≤ 64 by have := HLN.out; simpa using this)
    obtain ⟨N, hN⟩ : ∃ N, L.length = N := ⟨_, rfl⟩
    have HN := Lib.hid hN
    have hNb : N ≤ 64 := by rw [← hN]; exact HLN2.out
    rw [hN] at hc1 ⊢
    have hmk := make_lists N (by omega)
    have h30 : w2.cell? ⟨w1.heap.size, 0, none⟩ = some (.int .i64 kt) := hH2.cell 0
    have h32 : w2.cell? ⟨w1.heap.size, 1, none⟩ = some (.int .i64 mt) := hH2.cell 1
    have hH2l := hH2.lt
    clear hN hX2 hH2 hS2
    go_upto_region 4 with fail
    go_cut [7] (fun g wx => ∃ G gr, g = .pointer (some ⟨G, 0, none⟩) ∧ DocO w2 wx G gr N kt mt A1 c1 (.slice none 0 0) (List.replicate N ⟨none, 0, []⟩))
    case first =>
      go_region_held_law (fun W => W.cell? ⟨w1.heap.size, 0, none⟩ = some (.int .i64 kt) ∧ W.cell? ⟨w1.heap.size, 1, none⟩ = some (.int .i64 mt)) (go_keep) (fail)
      all_goals go_wp2_with fail
      all_goals go_meet
      all_goals first
        | exact ⟨_, _, rfl, doc_one w2 N (by omega) kt mt A1 c1⟩
        | exact ⟨_, _, rfl, doc_two w2 N (by omega) kt mt A1 c1⟩
    case rest =>
      obtain ⟨G, gr, rfl, hD⟩ := hcut
      have HD := Lib.hid hD
      clear hD h30 h32 hmk
      have HPLC := Lib.hid (place_any (KS.out _ HD.out.below).2.1 c1 (by have := HLN2.out; omega))
      rw [HN.out] at HPLC
      rw [HZ.out] at HPLC
      have q2 : ((p : Int) == -2) = false := beq_eq_false_iff_ne.2 (by omega)
      have hd : decide ((0 : Int) ≤ (p : Int)) = true := decide_eq_true (by omega)
      have HP := Lib.hid (show placeS (secsOf L) ≠ -2 by rw [HZ.out]; omega)
      have HES := Lib.hid (fun (h : symX (secsOf L) ≠ 0) => (HE.out.trans (objS_sym HP.out h) : oe = symX (secsOf L)))
      have HER := Lib.hid (fun (h : symX (secsOf L) = 0) => (HE.out.trans (objS_rel HP.out h) : oe = relUp (secsOf L) (placeS (secsOf L)) (symY (secsOf L)).length (secsOf L).length))
      obtain ⟨x, hx⟩ : ∃ x, L[p]? = some x := by
        rcases placeK_at (secsOf L) (secsOf L).length with h | h | ⟨j, s, hj, h, hs, _⟩
        · have h2 := HZ.out; unfold placeS at h2; omega
        · have h2 := HZ.out; unfold placeS at h2; omega
        · have h2 := HZ.out
          unfold placeS at h2
          obtain rfl : j = p := by omega
          obtain ⟨x, hx, _⟩ := secsOf_get hs
          exact ⟨x, hx⟩
      have hpN : p < N := by rw [← HN.out]; exact (List.getElem?_eq_some_iff.1 hx).1
      have hsx : symX (secsOf L) = symsE (secsOf L) p ∧ symY (secsOf L) = symsL (secsOf L) p := by
        rw [symX, symY, HZ.out, if_neg (by omega), if_neg (by omega)]
        exact ⟨rfl, rfl⟩
      have hnx := HNN.out x.s (List.mem_map_of_mem (List.mem_of_getElem? hx))
      obtain ⟨lk, hlk⟩ : ∃ lk : Nat, x.s.link = (lk : Int) := ⟨x.s.link.toNat, by omega⟩
      have hlt : x.s.link.toNat = lk := by omega
      have hgx := get_secsOf hx
      have hS4 := HSB.out _ HD.out.below
      obtain ⟨b, o, rfl, hb, c0, k1, c2, c3, c4, c5, -⟩ := hS4.at_ hx
      rw [hlk] at c5
      clear c0 k1 c2 c3
      by_cases hfar : N ≤ lk
      · have hd2 : decide ((N : Int) ≤ (lk : Int)) = true := decide_eq_true (by omega)
        have h23 := syms_far hgx (by rw [hlt]; exact List.getElem?_eq_none (by simp; rw [HN.out]; exact hfar))
        have HF := Lib.hid (show oe = 23 by rw [HES.out (by rw [hsx.1, h23.1]; decide), hsx.1, h23.1])
        clear h23 hgx hx hsx hS4 c4
        obtain ⟨hX, -, hBw⟩ := KS.out _ (HD.out.below)
        obtain ⟨r0, r1, r2, r3, r4⟩ := five_cells hX
        obtain ⟨f0, f1, f2, f3, f4⟩ := five_free hX
        have HXk := Lib.hid hX
        have HBk := Lib.hid hBw
        clear hX hBw
        go_wp2_with (go_at_call 24; refine HPLC.out.mono ?_; rintro r w4 ⟨rfl, rfl⟩)
        refine ret_two Tryz.underlying32 Tryz.results8 (fiveO_box HXk.out rfl _ _ _ _ _) (by kernel_rfl) (by rfl) rfl ?_
        exact ⟨noneO, by rw [HF.out]; rfl, noneO_ok _ _, five_below HBk.out (Nat.le_refl _) _ _ _ _ _, fun h0 => absurd (HF.out.symm.trans h0) (by decide), fun _ => rfl⟩
      · have hd2 : decide ((N : Int) ≤ (lk : Int)) = false := decide_eq_false (by omega)
        have hln : lk < N := by omega
        obtain ⟨y, hy⟩ : ∃ y, L[lk]? = some y := ⟨L[lk]'(by rw [HN.out]; exact hln), List.getElem?_eq_getElem _⟩
        have hgy : (secsOf L)[x.s.link.toNat]? = some y.s := by rw [hlt]; exact get_secsOf hy
        obtain ⟨b', o', e', _, -, m1, -, -, m4, -⟩ := hS4.at_ hy
        cases e'
        by_cases hy3 : y.s.kind = 3
        · have q3 : (y.s.kind != 3) = false := by simp [hy3]
          have hT := syms_there hgx hgy hy3
          have hsl : (secsOf L).length = N := by simp; exact HN.out
          rw [hsl] at hT
          have hokx := hS4.get hx
          have hoky := hS4.get hy
          have HBD := Lib.hid HD.out.below
          have HT4 := Lib.hid (fun W (hW : Below w2.heap.size w2 W) => rytake_any (((HSB.out W hW).get hx).rd.more hW.size) (((HSB.out W hW).get hy).rd.more hW.size) x.c y.c hokx.le hokx.cap hoky.le hoky.cap (by have := hokx.fits.data; omega) (by have := hoky.fits.data; omega))
          have HSN := Lib.hid (@sym_not N x.s.data y.s.data)
          have HSO := Lib.hid (@sym_off N x.s.data y.s.data)
          have HSI := Lib.hid (@sym_in N x.s.data y.s.data)
          rw [← hT.1, ← hT.2, ← hsx.1, ← hsx.2] at HSN HSO HSI
          have HLY := Lib.hid (takeLY_length x.s.data.length (okK x.s.data y.s.data) (symK x.s.data y.s.data))
          clear hT hsx hgx hgy hx hy hokx hoky hS4 hnx hlk hlt hy3 hsl hfar
          generalize symX (secsOf L) = sx at *
          generalize symY (secsOf L) = sy at *
          generalize takeLY x.s.data.length (okK x.s.data y.s.data) (symK x.s.data y.s.data) = tl at *
          generalize takeEY x.s.data.length (okK x.s.data y.s.data) 23 = te at *
          generalize x.A = dA at *
          generalize x.s.data.length = dn at *
          generalize x.c = dc at *
          generalize y.A = eA at *
          generalize y.s.data.length = en at *
          generalize y.c = ec at *
          generalize y.s.kind = yk at *
          have hi1 : (0 : Int) ≤ (p : Int) := by omega
          have hi2 : (p : Int) < (N : Int) := by omega
          have hi3 : (0 : Int) ≤ (lk : Int) := by omega
          have hi4 : (lk : Int) < (N : Int) := by omega
          go_upto_region 12 with (go_at_call 24; refine HPLC.out.mono ?_; rintro r w4 ⟨rfl, rfl⟩)
          have KC := Lib.hid (fun W (hW : Below wc.heap.size wc W) => (⟨hW, by rw [hW.cell (p := ⟨b, o + p * 9 + 4, none⟩) (Nat.lt_of_lt_of_le hb HBD.out.size)]; exact c4, by rw [hW.cell (p := ⟨b, o + lk * 9 + 4, none⟩) (Nat.lt_of_lt_of_le hb HBD.out.size)]; exact m4⟩ :
            Below wc.heap.size wc W ∧ W.cell? ⟨b, o + p * 9 + 4, none⟩ = some (.slice dA dn dc) ∧ W.cell? ⟨b, o + lk * 9 + 4, none⟩ = some (.slice eA en ec)))
          have HT5 := Lib.hid (fun W (hW : Below wc.heap.size wc W) => (show Calls Tryz.prog 25 #[.slice dA dn dc, .slice eA en ec] W (fun r w' => ∃ u, r = .returned (.tuple #[u, .int .i64 te]) ∧ OwnY w' wc.heap.size u tl ∧ Below wc.heap.size wc w') from (HT4.out W (HBD.out.trans (hW.mono HBD.out.size))).mono fun r w' ⟨u, h1, h2, h3⟩ => ⟨u, h1, row_base h2 hW.size, hW.trans (h3.mono hW.size)⟩))
          clear HT4
          go_region_held_law (fun W => Below wc.heap.size wc W ∧ W.cell? ⟨b, o + p * 9 + 4, none⟩ = some (.slice dA dn dc) ∧ W.cell? ⟨b, o + lk * 9 + 4, none⟩ = some (.slice eA en ec))
            ((refine KC.out _ ?_; first | assumption | exact (Below.refl _ _).drew))
            ((go_at_call 25; refine (HT5.out _ ((Below.refl _ _).drew)).mono ?_; rintro r w5 ⟨u, rfl, hO5, hb5⟩))
          by_cases hte : te = 0
          · have q0 : (te != 0) = false := by simp [hte]
            obtain ⟨yA, yc, rfl, hyc, hym, hSY⟩ := own_row sym_six hO5
            have HSY := Lib.hid hSY
            have HO5 := Lib.hid (row_base hO5 HBD.out.size)
            have HD5 := Lib.hid (HD.out.later hb5)
            have HB5 := Lib.hid (HBD.out.trans (hb5.mono HBD.out.size))
            obtain ⟨ln, hln⟩ : ∃ ln, tl.length = ln := ⟨_, rfl⟩
            have HLNY := Lib.hid hln
            rw [hln] at hyc HLY ⊢
            have hlb : ln ≤ 400 := HLY.out
            clear hO5 hSY hb5 hln HT5 KC HSN HD c4 c5 m1 m4
            generalize w5 = wz at *
            go_wp2_with fail
            go_loopg [12] ln (fun gk i wx => ∃ j : Nat, j ≤ ln ∧ gk = ln - j ∧ i = .int .i64 j ∧ wz = wx ∧ Hid ((tl.take j).any (farY N) = false))
            case atStart => exact ⟨0, Nat.zero_le _, rfl, rfl, rfl, Lib.hid rfl⟩
            case round =>
              obtain ⟨j, hj, rfl, rfl, rfl, HAN⟩ := hrel
              by_cases hjl : j < ln
              · obtain ⟨s, hs⟩ : ∃ s, tl[j]? = some s := ⟨tl[j]'(by rw [HLNY.out]; exact hjl), List.getElem?_eq_getElem _⟩
                obtain ⟨b2, o2, rfl, hb2, -, -, -, n3, -, -⟩ := sym_at HSY.out hs
                have HFY := Lib.hid (show farY N s = (decide ((N : Int) ≤ s.sect) && decide (s.sect < 65521)) from rfl)
                have HT1 := Lib.hid (fun (h : farY N s = true) => all_false_not _ _ _ _ hs h)
                have HT2 := Lib.hid (fun (h : farY N s = false) => any_take _ _ _ _ hs HAN.out h)
                have HJL := Lib.hid hjl
                clear hs
                generalize farY N s = fy at *
                generalize s.sect = ss at *
                by_cases d1 : (N : Int) ≤ ss
                · have dd1 : decide ((N : Int) ≤ ss) = true := decide_eq_true d1
                  by_cases d2 : ss < 65521
                  · have dd2 : decide (ss < 65521) = true := decide_eq_true d2
                    have HF := Lib.hid (show oe = 23 by
                      have h1 := HSO.out hte (show placedY tl N = false by unfold placedY; rw [HT1.out (by rw [HFY.out, dd1, dd2]; rfl)]; rfl)
                      rw [HES.out (by rw [h1.1]; decide), h1.1])
                    clear d1 d2
                    obtain ⟨hX, -, hBw⟩ := KS.out _ (HB5.out)
                    obtain ⟨r0, r1, r2, r3, r4⟩ := five_cells hX
                    obtain ⟨f0, f1, f2, f3, f4⟩ := five_free hX
                    have HXk := Lib.hid hX
                    have HBk := Lib.hid hBw
                    clear hX hBw
                    go_wp2_with fail
                    refine ret_two Tryz.underlying32 Tryz.results8 (fiveO_box HXk.out rfl _ _ _ _ _) (by kernel_rfl) (by rfl) rfl ?_
                    exact ⟨noneO, by rw [HF.out]; rfl, noneO_ok _ _, five_below HBk.out (Nat.le_refl _) _ _ _ _ _, fun h0 => absurd (HF.out.symm.trans h0) (by decide), fun _ => rfl⟩
                  · have dd2 : decide (ss < 65521) = false := decide_eq_false d2
                    have HAN1 := Lib.hid (HT2.out (by rw [HFY.out, dd2, Bool.and_false]))
                    clear d1 d2
                    go_wp2_with fail
                    go_roundg (ln - (j + 1))
                    case measure => have := HJL.out; omega
                    case rel => exact ⟨j + 1, HJL.out, rfl, by go_num, rfl, HAN1⟩
                · have dd1 : decide ((N : Int) ≤ ss) = false := decide_eq_false d1
                  have HAN1 := Lib.hid (HT2.out (by rw [HFY.out, dd1, Bool.false_and]))
                  clear d1
                  go_wp2_with fail
                  go_roundg (ln - (j + 1))
                  case measure => have := HJL.out; omega
                  case rel => exact ⟨j + 1, HJL.out, rfl, by go_num, rfl, HAN1⟩
              · exact absurd (HSI.out hte (show placedY tl N = true by
                  unfold placedY
                  have h1 := HAN.out
                  rw [List.take_of_length_le (by rw [HLNY.out]; omega)] at h1
                  rw [h1]; rfl)).1 HX0N.out
          · have q0 : (te != 0) = true := by simp [hte]
            have HF := Lib.hid (show oe = te by
              have h1 := HSN.out hte
              rw [HES.out (by rw [h1.1]; exact hte), h1.1])
            have HBt := Lib.hid (HBD.out.trans (hb5.mono HBD.out.size))
            obtain ⟨hX, -, hBw⟩ := KS.out _ (HBt.out)
            obtain ⟨r0, r1, r2, r3, r4⟩ := five_cells hX
            obtain ⟨f0, f1, f2, f3, f4⟩ := five_free hX
            have HXk := Lib.hid hX
            have HBk := Lib.hid hBw
            clear hX hBw
            go_wp2_with fail
            refine ret_two Tryz.underlying32 Tryz.results8 (fiveO_box HXk.out rfl _ _ _ _ _) (by kernel_rfl) (by rfl) rfl ?_
            exact ⟨noneO, by rw [HF.out]; rfl, noneO_ok _ _, five_below HBk.out (Nat.le_refl _) _ _ _ _ _, fun h0 => absurd (HF.out.symm.trans h0) hte, fun _ => rfl⟩
        · have q3 : (y.s.kind != 3) = true := by simp [hy3]
          have h23 := syms_else hgx hgy hy3
          have HF := Lib.hid (show oe = 23 by rw [HES.out (by rw [hsx.1, h23.1]; decide), hsx.1, h23.1])
          clear h23 hgx hx hsx hS4 c4 hgy hy hy3 m4
          generalize y.s.kind = yk at *
          obtain ⟨hX, -, hBw⟩ := KS.out _ (HD.out.below)
          obtain ⟨r0, r1, r2, r3, r4⟩ := five_cells hX
          obtain ⟨f0, f1, f2, f3, f4⟩ := five_free hX
          have HXk := Lib.hid hX
          have HBk := Lib.hid hBw
          clear hX hBw
          go_wp2_with (go_at_call 24; refine HPLC.out.mono ?_; rintro r w4 ⟨rfl, rfl⟩)
          refine ret_two Tryz.underlying32 Tryz.results8 (fiveO_box HXk.out rfl _ _ _ _ _) (by kernel_rfl) (by rfl) rfl ?_
          exact ⟨noneO, by rw [HF.out]; rfl, noneO_ok _ _, five_below HBk.out (Nat.le_refl _) _ _ _ _ _, fun h0 => absurd (HF.out.symm.trans h0) (by decide), fun _ => rfl⟩
  · exact absurd hse hn

end Go.Proofs.YtldmjnbmjfnfeaaGreatDoor
