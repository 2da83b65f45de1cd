/-
  ObjectTakes: bytes are told as the object that the document has.
-/
import Derived.Test.YtldmjnbmjfnfeaaGreatDoorObJ
import Derived.Test.YtldmjnbmjfnfeaaGreatDoorOcC
import Derived.Test.YtldmjnbmjfnfeaaGreatDoorObZ
import Derived.Test.YtldmjnbmjfnfeaaGreatDoorObK
import Derived.Test.YtldmjnbmjfnfeaaGreatDoorObL
import Derived.Test.YtldmjnbmjfnfeaaGreatDoorLawA
import Derived.Test.YtldmjnbmjfnfeaaGreatDoorCsL
namespace Go.Proofs.YtldmjnbmjfnfeaaGreatDoor
open Go Go.RowKit

set_option maxRecDepth 10000 in
set_option maxHeartbeats 6400000 in
theorem rotake_tab {w : World} {A : Option Addr} {l : List UInt8} (hr : Rd w w.heap.size A l) (c : Nat) (hlc : l.length ≤ c) (hcm : c ≤ maxLen) (hl : l.length ≤ 140737488355328) (hse : secE l = 0) (p : Nat) (hz : placeS (secL l) = (p : Int)) (hsx0 : symX (secL l) = 0) :
    Calls Tryz.prog 8 #[.slice A l.length c] w (OTake l w) := by
  have hb0 : Below w.heap.size w (w.alloc (.cells #[.int .i64 0, .int .i64 0, .slice none 0 0, .slice none 0 0, .slice none 0 0] 32)) := (Below.refl _ _).alloc (Nat.le_refl _) _
  have hT := rstake_any ((hr.below hb0).more hb0.size) c hlc hcm hl
  have hX0 := Box.new w 32 #[.int .i64 0, .int .i64 0, .slice none 0 0, .slice none 0 0, .slice none 0 0]
  unfold RSTake at hT
  rcases secL_is l with ⟨_, _, _, _, hH⟩ | ⟨hn, _⟩
  · rw [hH, hse] at hT
    have HE := Lib.hid (objE_in hse)
    have HZ := Lib.hid hz
    have HX0N := Lib.hid hsx0
    clear hsx0
    have HT := Lib.hid hT
    have HX0 := Lib.hid hX0
    have HB0 := Lib.hid hb0
    have HNN := Lib.hid (secL_nn l)
    have HFS := Lib.hid (secL_first l)
    have HLN := Lib.hid (secL_length l)
    clear hT hX0 hb0 hse hH hr hlc hl hz
    unfold OTake
    generalize kindT l = kt at *
    generalize machT l = mt at *
    generalize offT l = ot at *
    generalize cntT l = ct at *
    generalize shsT l = st at *
    generalize secL l = S at *
    generalize objE l = oe at *
    generalize l.length = n at *
    go_enter Tryz.func8, Tryz.ntmps8
    go_wp2_with (go_at_call 23; refine HT.out.mono ?_; rintro r w1 ⟨A1, c1, L, rfl, hL1, hS1, hc1, hb1⟩; subst hL1; have HB1 := Lib.hid (HB0.out.trans (hb1.mono HB0.out.size)); have HX1 := Lib.hid (HX0.out.below hb1 (by simp)); have HS1 := Lib.hid hS1; clear hb1 hS1 HT)
    have hb2 : Below w1.heap.size w1 (w1.alloc (.cells #[.int .i64 kt, .int .i64 mt, .int .u64 (ot : Int), .int .i64 (ct : Int), .int .i64 (st : Int)] 64)) := (Below.refl _ _).alloc (Nat.le_refl _) _
    have hX2 := HX1.out.below hb2 HX1.out.lt
    have hH2 := Box.new w1 64 #[.int .i64 kt, .int .i64 mt, .int .u64 (ot : Int), .int .i64 (ct : Int), .int .i64 (st : Int)]
    have hS2 := (HS1.out.below hb2).more hb2.size
    have hB2 := HB1.out.trans (hb2.mono HB1.out.size)
    clear HX1 HS1 HB1 hb2
    generalize w1.alloc (.cells #[.int .i64 kt, .int .i64 mt, .int .u64 (ot : Int), .int .i64 (ct : Int), .int .i64 (st : Int)] 64) = w2 at *
    have KS := Lib.hid (fun W (hW : Below w2.heap.size w2 W) => (⟨hX2.below hW hX2.lt, (hS2.below hW).more hW.size, hB2.trans (hW.mono hB2.size)⟩ :
      Box W w.heap.size 32 #[.int .i64 0, .int .i64 0, .slice none 0 0, .slice none 0 0, .slice none 0 0] ∧ Secs W W.heap.size A1 L ∧ Below w.heap.size w W))
    have HSB := Lib.hid (fun W (hW : Below w2.heap.size w2 W) => (hS2.below hW : Secs W w2.heap.size A1 L))
    have HLN2 := Lib.hid (show L.length ≤ 64 by have := HLN.out; simpa using this)
    obtain ⟨N, hN⟩ : ∃ N, L.length = N := ⟨_, rfl⟩
    have HN := Lib.hid hN
    have hNb : N ≤ 64 := by rw [← hN]; exact HLN2.out
    rw [hN] at hc1 ⊢
    have hmk := make_lists N (by omega)
    have h30 : w2.cell? ⟨w1.heap.size, 0, none⟩ = some (.int .i64 kt) := hH2.cell 0
    have h32 : w2.cell? ⟨w1.heap.size, 1, none⟩ = some (.int .i64 mt) := hH2.cell 1
    have hH2l := hH2.lt
    clear hN hX2 hH2 hS2
    go_upto_region 4 with fail
    go_cut [7] (fun g wx => ∃ G gr, g = .pointer (some ⟨G, 0, none⟩) ∧ DocO w2 wx G gr N kt mt A1 c1 (.slice none 0 0) (List.replicate N ⟨none, 0, []⟩))
    case first =>
      go_region_held_law (fun W => W.cell? ⟨w1.heap.size, 0, none⟩ = some (.int .i64 kt) ∧ W.cell? ⟨w1.heap.size, 1, none⟩ = some (.int .i64 mt)) (go_keep) (fail)
      all_goals go_wp2_with fail
      all_goals go_meet
      all_goals first
        | exact ⟨_, _, rfl, doc_one w2 N (by omega) kt mt A1 c1⟩
        | exact ⟨_, _, rfl, doc_two w2 N (by omega) kt mt A1 c1⟩
    case rest =>
      obtain ⟨G, gr, rfl, hD⟩ := hcut
      have HD := Lib.hid hD
      clear hD h30 h32 hmk
      have HPLC := Lib.hid (place_any (KS.out _ HD.out.below).2.1 c1 (by have := HLN2.out; omega))
      rw [HN.out] at HPLC
      rw [HZ.out] at HPLC
      have q2 : ((p : Int) == -2) = false := beq_eq_false_iff_ne.2 (by omega)
      have hd : decide ((0 : Int) ≤ (p : Int)) = true := decide_eq_true (by omega)
      have HP := Lib.hid (show placeS (secsOf L) ≠ -2 by rw [HZ.out]; omega)
      have HES := Lib.hid (fun (h : symX (secsOf L) ≠ 0) => (HE.out.trans (objS_sym HP.out h) : oe = symX (secsOf L)))
      have HER := Lib.hid (fun (h : symX (secsOf L) = 0) => (HE.out.trans (objS_rel HP.out h) : oe = relUp (secsOf L) (placeS (secsOf L)) (symY (secsOf L)).length (secsOf L).length))
      obtain ⟨x, hx⟩ : ∃ x, L[p]? = some x := by
        rcases placeK_at (secsOf L) (secsOf L).length with h | h | ⟨j, s, hj, h, hs, _⟩
        · have h2 := HZ.out; unfold placeS at h2; omega
        · have h2 := HZ.out; unfold placeS at h2; omega
        · have h2 := HZ.out
          unfold placeS at h2
          obtain rfl : j = p := by omega
          obtain ⟨x, hx, _⟩ := secsOf_get hs
          exact ⟨x, hx⟩
      have hpN : p < N := by rw [← HN.out]; exact (List.getElem?_eq_some_iff.1 hx).1
      have hsx : symX (secsOf L) = symsE (secsOf L) p ∧ symY (secsOf L) = symsL (secsOf L) p := by
        rw [symX, symY, HZ.out, if_neg (by omega), if_neg (by omega)]
        exact ⟨rfl, rfl⟩
      have hnx := HNN.out x.s (List.mem_map_of_mem (List.mem_of_getElem? hx))
      obtain ⟨lk, hlk⟩ : ∃ lk : Nat, x.s.link = (lk : Int) := ⟨x.s.link.toNat, by omega⟩
      have hlt : x.s.link.toNat = lk := by omega
      have hgx := get_secsOf hx
      have hS4 := HSB.out _ HD.out.below
      obtain ⟨b, o, rfl, hb, c0, k1, c2, c3, c4, c5, -⟩ := hS4.at_ hx
      rw [hlk] at c5
      clear c0 k1 c2 c3
      have hsx1 : symsE (secsOf L) p = 0 := by rw [← hsx.1]; exact HX0N.out
      have hln : lk < N := by
        rcases Nat.lt_or_ge lk N with h | h
        · exact h
        · have h23 := syms_far hgx (by rw [hlt]; exact List.getElem?_eq_none (by simp; rw [HN.out]; exact h))
          rw [h23.1] at hsx1; cases hsx1
      have hd2 : decide ((N : Int) ≤ (lk : Int)) = false := decide_eq_false (by omega)
      obtain ⟨y, hy⟩ : ∃ y, L[lk]? = some y := ⟨L[lk]'(by rw [HN.out]; exact hln), List.getElem?_eq_getElem _⟩
      have hgy : (secsOf L)[x.s.link.toNat]? = some y.s := by rw [hlt]; exact get_secsOf hy
      obtain ⟨b', o', e', _, -, m1, -, -, m4, -⟩ := hS4.at_ hy
      cases e'
      have hy3 : y.s.kind = 3 := by
        by_cases h : y.s.kind = 3
        · exact h
        · have h23 := syms_else hgx hgy h
          rw [h23.1] at hsx1; cases hsx1
      clear hsx1
      have q3 : (y.s.kind != 3) = false := by simp [hy3]
      have hT := syms_there hgx hgy hy3
      have hsl : (secsOf L).length = N := by simp; exact HN.out
      rw [hsl] at hT
      have hokx := hS4.get hx
      have hoky := hS4.get hy
      have HBD := Lib.hid HD.out.below
      have HT4 := Lib.hid (fun W (hW : Below w2.heap.size w2 W) => rytake_any (((HSB.out W hW).get hx).rd.more hW.size) (((HSB.out W hW).get hy).rd.more hW.size) x.c y.c hokx.le hokx.cap hoky.le hoky.cap (by have := hokx.fits.data; omega) (by have := hoky.fits.data; omega))
      have HSN := Lib.hid (@sym_not N x.s.data y.s.data)
      have HSO := Lib.hid (@sym_off N x.s.data y.s.data)
      have HSI := Lib.hid (@sym_in N x.s.data y.s.data)
      rw [← hT.1, ← hT.2, ← hsx.1, ← hsx.2] at HSN HSO HSI
      have HLY := Lib.hid (takeLY_length x.s.data.length (okK x.s.data y.s.data) (symK x.s.data y.s.data))
      clear hT hsx hgx hgy hx hy hokx hoky hS4 hnx hlk hlt hy3 hsl
      generalize symX (secsOf L) = sx at *
      generalize hsy : symY (secsOf L) = sy at *
      have HSY0 := Lib.hid hsy
      clear hsy
      generalize takeLY x.s.data.length (okK x.s.data y.s.data) (symK x.s.data y.s.data) = tl at *
      generalize takeEY x.s.data.length (okK x.s.data y.s.data) 23 = te at *
      have hte : te = 0 := by
        by_cases h : te = 0
        · exact h
        · exact absurd ((HSN.out h).1.symm.trans HX0N.out) h
      have q0 : (te != 0) = false := by simp [hte]
      have HPY := Lib.hid (show placedY tl N = true by
        cases h : placedY tl N
        · exact absurd ((HSO.out hte h).1.symm.trans HX0N.out) (by decide)
        · rfl)
      subst hte
      generalize x.A = dA at *
      generalize x.s.data.length = dn at *
      generalize x.c = dc at *
      generalize y.A = eA at *
      generalize y.s.data.length = en at *
      generalize y.c = ec at *
      generalize y.s.kind = yk at *
      have hi1 : (0 : Int) ≤ (p : Int) := by omega
      have hi2 : (p : Int) < (N : Int) := by omega
      have hi3 : (0 : Int) ≤ (lk : Int) := by omega
      have hi4 : (lk : Int) < (N : Int) := by omega
      go_upto_region 12 with (go_at_call 24; refine HPLC.out.mono ?_; rintro r w4 ⟨rfl, rfl⟩)
      have KC := Lib.hid (fun W (hW : Below wc.heap.size wc W) => (⟨hW, by rw [hW.cell (p := ⟨b, o + p * 9 + 4, none⟩) (Nat.lt_of_lt_of_le hb HBD.out.size)]; exact c4, by rw [hW.cell (p := ⟨b, o + lk * 9 + 4, none⟩) (Nat.lt_of_lt_of_le hb HBD.out.size)]; exact m4⟩ :
        Below wc.heap.size wc W ∧ W.cell? ⟨b, o + p * 9 + 4, none⟩ = some (.slice dA dn dc) ∧ W.cell? ⟨b, o + lk * 9 + 4, none⟩ = some (.slice eA en ec)))
      have HT5 := Lib.hid (fun W (hW : Below wc.heap.size wc W) => (show Calls Tryz.prog 25 #[.slice dA dn dc, .slice eA en ec] W (fun r w' => ∃ u, r = .returned (.tuple #[u, .int .i64 0]) ∧ OwnY w' wc.heap.size u tl ∧ Below wc.heap.size wc w') from (HT4.out W (HBD.out.trans (hW.mono HBD.out.size))).mono fun r w' ⟨u, h1, h2, h3⟩ => ⟨u, h1, row_base h2 hW.size, hW.trans (h3.mono hW.size)⟩))
      clear HT4
      go_region_held_law (fun W => Below wc.heap.size wc W ∧ W.cell? ⟨b, o + p * 9 + 4, none⟩ = some (.slice dA dn dc) ∧ W.cell? ⟨b, o + lk * 9 + 4, none⟩ = some (.slice eA en ec))
        ((refine KC.out _ ?_; first | assumption | exact (Below.refl _ _).drew))
        ((go_at_call 25; refine (HT5.out _ ((Below.refl _ _).drew)).mono ?_; rintro r w5 ⟨u, rfl, hO5, hb5⟩))
      obtain ⟨yA, yc, rfl, hyc, hym, hSY⟩ := own_row sym_six hO5
      have HSY := Lib.hid hSY
      have HO5 := Lib.hid (row_base hO5 HBD.out.size)
      have HD5 := Lib.hid (HD.out.later hb5)
      have HB5 := Lib.hid (HBD.out.trans (hb5.mono HBD.out.size))
      obtain ⟨ln, hln2⟩ : ∃ ln, tl.length = ln := ⟨_, rfl⟩
      have HLNY := Lib.hid hln2
      rw [hln2] at hyc HLY ⊢
      have hlb : ln ≤ 400 := HLY.out
      have HYE := Lib.hid (HSI.out (by first | rfl | trivial) HPY.out).2
      have HER' := Lib.hid (HER.out HX0N.out)
      rw [HZ.out, HYE.out] at HER'
      have HYE := Lib.hid (HSY0.out.trans HYE.out)
      clear hO5 hSY hb5 hln2 HT5 KC HSN HSO HSI HD c4 c5 m1 m4 HES HER
      have HER := HER'
      clear HER'
      generalize w5 = wz at *
      go_wp2_with fail
      go_loopg [12] ln (fun gk i wx => ∃ j : Nat, j ≤ ln ∧ gk = ln - j ∧ i = .int .i64 j ∧ wz = wx)
      case atStart => exact ⟨0, Nat.zero_le _, rfl, rfl, rfl⟩
      case round =>
        obtain ⟨j, hj, rfl, rfl, rfl⟩ := hrel
        by_cases hjl : j < ln
        · obtain ⟨s, hs⟩ : ∃ s, tl[j]? = some s := ⟨tl[j]'(by rw [HLNY.out]; exact hjl), List.getElem?_eq_getElem _⟩
          obtain ⟨b2, o2, rfl, hb2, -, -, -, n3, -, -⟩ := sym_at HSY.out hs
          have HFY := Lib.hid (show (decide ((N : Int) ≤ s.sect) && decide (s.sect < 65521)) = false by
            cases h : (decide ((N : Int) ≤ s.sect) && decide (s.sect < 65521))
            · rfl
            · have h1 : placedY tl N = false := by unfold placedY; rw [all_false_not _ _ _ _ hs (show farY N s = true from h)]; rfl
              rw [HPY.out] at h1; cases h1)
          have HJL := Lib.hid hjl
          clear hs
          generalize s.sect = ss at *
          by_cases d1 : (N : Int) ≤ ss
          · have dd1 : decide ((N : Int) ≤ ss) = true := decide_eq_true d1
            have dd2 : decide (ss < 65521) = false := by have := HFY.out; rw [dd1, Bool.true_and] at this; exact this
            clear d1
            go_wp2_with fail
            go_roundg (ln - (j + 1))
            case measure => have := HJL.out; omega
            case rel => exact ⟨j + 1, HJL.out, rfl, by go_num, rfl⟩
          · have dd1 : decide ((N : Int) ≤ ss) = false := decide_eq_false d1
            clear d1
            go_wp2_with fail
            go_roundg (ln - (j + 1))
            case measure => have := HJL.out; omega
            case rel => exact ⟨j + 1, HJL.out, rfl, by go_num, rfl⟩
        · generalize (some (⟨b, o, none⟩ : Addr)) = A1 at *
          have hBX := HD5.out.box
          obtain ⟨g0, g1, g2, g3, g4⟩ := five_cells hBX
          obtain ⟨-, -, -, gf3, -⟩ := five_free hBX
          have hset := only_set (only_refl wz (some G)) 3 (.slice yA ln yc)
          have hOnG : Only w2.heap.size (CellsOf 32) wz (wz.setCell ⟨G, 3, none⟩ (.slice yA ln yc)) := Only.row hset hBX rfl HD5.out.ge
          have HD6x := Lib.hid (show DocO w2 (wz.setCell ⟨G, 3, none⟩ (.slice yA ln yc)) G gr N kt mt A1 c1 (.slice yA tl.length yc) (List.replicate N ⟨none, 0, []⟩) from
            ⟨by have := hBX.set 3 (.slice yA ln yc); rw [HLNY.out]; simpa using this, row_only HD5.out.rel hOnG (fun cs f hh => absurd (show 49 = 32 from hh) (by decide)), fun q hq => row_only (HD5.out.own q hq) hOnG (fun cs f hh => absurd (show 53 = 32 from hh) (by decide)), HD5.out.below.trans hOnG.1, HD5.out.ge⟩)
          have HOY6x := Lib.hid (show OwnY (wz.setCell ⟨G, 3, none⟩ (.slice yA ln yc)) w2.heap.size (.slice yA tl.length yc) tl from row_only (by have := HO5.out; rwa [HLNY.out] at this ⊢) hOnG (fun cs f hh => absurd (show 51 = 32 from hh) (by decide)))
          obtain ⟨ib, hib, hib0, hib1, hib2'⟩ := info_parts bool_info1
          have hib2 : ib.bytes * N ≤ 281474976710656 := by rw [hib2']; omega
          have hmN : N ≤ maxLen := by unfold maxLen; omega
          clear hset hOnG hBX HD5 HO5 HSY HPY
          go_upto_region 20 with fail
          go_cut [] (fun wx => DocO w2 wx G gr N kt mt A1 c1 (.slice yA tl.length yc) (List.replicate N ⟨none, 0, []⟩) ∧ OwnY wx w2.heap.size (.slice yA tl.length yc) tl)
          case first =>
            go_wp2_with fail
            go_meet
            case rel => exact ⟨HD6x.out, HOY6x.out⟩
          case rest =>
            obtain ⟨hD6, hOY6⟩ := hcut
            have HD6 := Lib.hid hD6
            have HOY6 := Lib.hid hOY6
            have hwz : w2.heap.size ≤ wc.heap.size := hD6.below.size
            clear hD6 hOY6 HD6x HOY6x g0 g1 g2 g3 g4 gf3
            generalize wc = w6 at *
            generalize tl = Y at *
            go_wp2_with (at_make; refine wpList_make_full _ rfl _ _ 70 rfl w2.heap.size 4 ib _ 1 Tryz.underlying70 hib hib0 hib1 .i64 .i64 (N : Int) (N : Int) N rfl rfl rfl rfl hib2 hmN hwz ?_; intro w7 hown7 hg7)
            have hb67 : Below w6.heap.size w6 w7 := below_of_only hg7 (Nat.le_refl _) (by simp)
            have HDR := Lib.hid (show DocR w2 w7 G w6.heap.size gr N kt mt A1 c1 yA yc Y (hadK (secsOf L) 0) (List.replicate N ⟨none, 0, []⟩) from
              ⟨⟨by rw [show (Value.bool false).cells = #[Value.bool false] from rfl, made_one] at hown7; rw [RowBl, hadK, show (secsOf L).length = N by simp; exact HN.out, List.map_replicate]; exact hown7, row_below HD6.out.rel hb67, fun q hq => row_below (HD6.out.own q hq) hb67, HD6.out.below.trans (hb67.mono HD6.out.below.size)⟩, HD6.out.box.below hb67 HD6.out.box.lt, row_below HOY6.out hb67⟩)
            have HQ0 := Lib.hid (show (List.replicate N (⟨none, 0, []⟩ : RLay)).map (·.l) = relaK (secsOf L) 0 by rw [List.map_replicate, relaK, show (secsOf L).length = N by simp; exact HN.out])
            clear hown7 hg7 hb67 HD6 HOY6
            generalize w6.heap.size = gm at *
            go_loopg [14] N (fun gk i wx => ∃ (k : Nat) (Q : List RLay), k ≤ N ∧ gk = N - k ∧ i = .int .i64 k ∧ DocR w2 wx G gm gr N kt mt A1 c1 yA yc Y (hadK (secsOf L) k) Q ∧ Hid (Q.map (·.l) = relaK (secsOf L) k) ∧ Hid (relUp (secsOf L) (p : Int) Y.length k = 0))
            case atStart => exact ⟨0, _, Nat.zero_le _, rfl, rfl, HDR.out, HQ0, Lib.hid rfl⟩
            case round =>
              obtain ⟨k, Q, hk, rfl, rfl, hR, HM, HU⟩ := hrel
              clear HDR HQ0
              have HR := Lib.hid hR
              have HB := Lib.hid hR.rel.below
              by_cases hlt : k < N
              · obtain ⟨x, hx⟩ : ∃ x, L[k]? = some x := ⟨L[k]'(by rw [HN.out]; exact hlt), List.getElem?_eq_getElem _⟩
                have hS4 := HSB.out _ hR.rel.below
                have hokx := hS4.get hx
                obtain ⟨b, o, rfl, hb, -, k1, -, -, k4, k5, k6, -, -⟩ := hS4.at_ hx
                have hgs := get_secsOf hx
                have hnn := HNN.out x.s (List.mem_map_of_mem (List.mem_of_getElem? hx))
                obtain ⟨lk, hlk⟩ : ∃ lk : Nat, x.s.link = (lk : Int) := ⟨x.s.link.toNat, by omega⟩
                obtain ⟨m, hm⟩ : ∃ m : Nat, x.s.inf = (m : Int) := ⟨x.s.inf.toNat, by omega⟩
                have hmt : x.s.inf.toNat = m := by omega
                rw [hlk] at k5
                rw [hm] at k6
                have hHR := hR
                have hsl : (secsOf L).length = N := by simp; exact HN.out
                clear hR hS4
                by_cases h9 : x.s.kind = 9
                · have q9 : (x.s.kind == 9) = true := by simp [h9]
                  have HF := Lib.hid (HER.out.trans (rel_bad hgs HU.out (e := 24) (by decide) (relE_nine h9)))
                  clear hx hgs h9 hokx hHR hnn hsl
                  generalize x.s.kind = kd at *
                  obtain ⟨hX, -, hBw⟩ := KS.out _ (HB.out)
                  obtain ⟨r0, r1, r2, r3, r4⟩ := five_cells hX
                  obtain ⟨f0, f1, f2, f3, f4⟩ := five_free hX
                  have HXk := Lib.hid hX
                  have HBk := Lib.hid hBw
                  clear hX hBw
                  go_upto_region 26 with fail
                  (rename ∀ (a : Act) (w : World), Code.wp _ _ _ a w → _ => hKK; revert hKK; (repeat (rename ∀ (a : Act) (w : World), Code.wp _ _ _ a w → _ => hK2; clear hK2)); intro hKK)
                  repeat (first | go_skip | go_guarded | go_step | go_upon)
                  refine ret_two Tryz.underlying32 Tryz.results8 (fiveO_box HXk.out rfl _ _ _ _ _) (by kernel_rfl) (by rfl) rfl ?_
                  exact ⟨noneO, by rw [HF.out]; rfl, noneO_ok _ _, five_below HBk.out (Nat.le_refl _) _ _ _ _ _, fun h0 => absurd (HF.out.symm.trans h0) (by decide), fun _ => rfl⟩
                · have q9 : (x.s.kind == 9) = false := by simp [h9]
                  by_cases h4 : x.s.kind = 4
                  · have q4 : (x.s.kind != 4) = false := by simp [h4]
                    have ra : decide ((p : Int) < 0) = false := decide_eq_false (by omega)
                    obtain ⟨bad, hbad⟩ : ∃ bad : Bool, decide ((p : Int) < 0 ∨ x.s.link ≠ (p : Int) ∨ x.s.inf < 1 ∨ ((secsOf L).length : Int) ≤ x.s.inf ∨ (hadK (secsOf L) k)[x.s.inf.toNat]? = some true) = bad := ⟨_, rfl⟩
                    have HBB := Lib.hid hbad
                    rw [hlk, hm, hsl] at hbad
                    have hm2 : ((m : Int)).toNat = m := by omega
                    rw [hm2] at hbad
                    have hcellm := fun (h : m < N) => hHR.rel.cell h
                    go_upto_region 29 with fail
                    go_cut [159] (fun s wx => s = .bool bad ∧ wr = wx)
                    case first =>
                      (rename ∀ (a : Act) (w : World), Code.wp _ _ _ a w → _ => hKK; revert hKK; (repeat (rename ∀ (a : Act) (w : World), Code.wp _ _ _ a w → _ => hK2; clear hK2)); intro hKK)
                      by_cases e2 : lk = p
                      · have r2 : ((lk : Int) != (p : Int)) = false := by simp [e2]
                        by_cases e3 : m < 1
                        · have r3 : decide ((m : Int) < 1) = true := decide_eq_true (by omega)
                          have hB := Lib.hid (show bad = true by rw [← hbad]; exact decide_eq_true (.inr (.inr (.inl (by omega)))))
                          clear hbad hcellm hgs hx h4 hokx
                          go_wp2_with fail
                          go_meet
                          case rel => exact ⟨by rw [hB.out], rfl⟩
                        · have r3 : decide ((m : Int) < 1) = false := decide_eq_false (by omega)
                          by_cases e4 : N ≤ m
                          · have r4' : decide ((N : Int) ≤ (m : Int)) = true := decide_eq_true (by omega)
                            have hB := Lib.hid (show bad = true by rw [← hbad]; exact decide_eq_true (.inr (.inr (.inr (.inl (by omega))))))
                            clear hbad hcellm hgs hx h4 hokx
                            go_wp2_with fail
                            go_meet
                            case rel => exact ⟨by rw [hB.out], rfl⟩
                          · have r4' : decide ((N : Int) ≤ (m : Int)) = false := decide_eq_false (by omega)
                            have hmN2 : m < N := by omega
                            have hnm : ¬ N ≤ m := e4
                            obtain ⟨⟨bm, hbm, d1⟩, -, -, -⟩ := hcellm hmN2
                            have hB := Lib.hid (show bad = bm by
                              rw [← hbad, hbm]
                              cases bm
                              · refine decide_eq_false ?_
                                rintro (h | h | h | h | h)
                                · omega
                                · exact h (by rw [e2])
                                · omega
                                · omega
                                · cases h
                              · exact decide_eq_true (.inr (.inr (.inr (.inr rfl)))))
                            clear hbad hcellm hgs hx h4 hokx hbm
                            go_wp2_with fail
                            go_meet
                            case rel => exact ⟨by rw [hB.out], rfl⟩
                      · have r2 : ((lk : Int) != (p : Int)) = true := bne_iff_ne.2 (by omega)
                        have hB := Lib.hid (show bad = true by rw [← hbad]; exact decide_eq_true (.inr (.inl (by omega))))
                        clear hbad hcellm hgs hx h4 hokx
                        go_wp2_with fail
                        go_meet
                        case rel => exact ⟨by rw [hB.out], rfl⟩
                    case rest =>
                      obtain ⟨rfl, rfl⟩ := hcut
                      clear hbad hcellm hm2
                      cases bad with
                      | true =>
                        have HF := Lib.hid (HER.out.trans (rel_bad hgs HU.out (e := 24) (by decide) (relE_out h4 (of_decide_eq_true HBB.out))))
                        clear hx hgs h4 h9 hokx hHR hnn hsl
                        generalize x.s.kind = kd at *
                        obtain ⟨hX, -, hBw⟩ := KS.out _ (HB.out)
                        obtain ⟨r0, r1, r2, r3, r4⟩ := five_cells hX
                        obtain ⟨f0, f1, f2, f3, f4⟩ := five_free hX
                        have HXk := Lib.hid hX
                        have HBk := Lib.hid hBw
                        clear hX hBw
                        go_upto_region 30 with fail
                        (rename ∀ (a : Act) (w : World), Code.wp _ _ _ a w → _ => hKK; revert hKK; (repeat (rename ∀ (a : Act) (w : World), Code.wp _ _ _ a w → _ => hK2; clear hK2)); intro hKK)
                        repeat (first | go_skip | go_guarded | go_step | go_upon)
                        refine ret_two Tryz.underlying32 Tryz.results8 (fiveO_box HXk.out rfl _ _ _ _ _) (by kernel_rfl) (by rfl) rfl ?_
                        exact ⟨noneO, by rw [HF.out]; rfl, noneO_ok _ _, five_below HBk.out (Nat.le_refl _) _ _ _ _ _, fun h0 => absurd (HF.out.symm.trans h0) (by decide), fun _ => rfl⟩
                      | false =>
                        have hbn := of_decide_eq_false HBB.out
                        have hmN2 : m < N := by
                          rcases Nat.lt_or_ge m N with h | h
                          · exact h
                          · exact absurd (.inr (.inr (.inr (.inl (by rw [hsl, hm]; omega))))) hbn
                        have e2 : lk = p := by
                          by_cases h : lk = p
                          · exact h
                          · exact absurd (.inr (.inl (by omega))) hbn
                        have hlp : x.s.link = (p : Int) := by omega
                        have hE := relE_in (n := Y.length) h4 hbn
                        have HT := Lib.hid (ryrel_any (hokx.rd.more hHR.rel.below.size) x.c hokx.le hokx.cap (by have := hokx.fits.data; omega))
                        have HBAD := Lib.hid (fun (e : Int) (he : e ≠ 0) (h : relsE Y.length x.s.data = e) => (HER.out.trans (rel_bad hgs HU.out he (hE.trans h)) : oe = e))
                        have HNX := Lib.hid (fun (h : relsE Y.length x.s.data = 0) => rel_four_next hgs HU.out h4 (hE.trans h))
                        have HNE := Lib.hid (@relsE_not Y.length x.s.data)
                        have HFE := Lib.hid (fun (h : takeEY x.s.data.length (okR x.s.data) 24 = 0) => (relsE_fit h).trans (congrArg (fun b => errOf b 24) (fit_any_sym (n := Y.length) h)))
                        rw [hmt] at HNX
                        rw [show takeLY x.s.data.length (okR x.s.data) (relK x.s.data) = relsL x.s.data from rfl] at HT
                        clear hbn hE hx hgs h4 h9 hokx hHR hnn hsl hmt HBB
                        generalize relsE Y.length x.s.data = re at *
                        generalize takeEY x.s.data.length (okR x.s.data) 24 = te at *
                        have htl4 : (relsL x.s.data).length ≤ 400 := takeLY_length _ _ _
                        generalize relsL x.s.data = tl at *
                        generalize x.A = dA at *
                        generalize x.s.data.length = dn at *
                        generalize x.c = dc at *
                        generalize x.s.kind = kd at *
                        by_cases hte : te = 0
                        · have q0 : (te != 0) = false := by simp [hte]
                          have HF0 := Lib.hid (HFE.out hte)
                          clear HNE HFE hte
                          go_wp2_with (go_at_call 26; refine HT.out.mono ?_; rintro r w8 ⟨u8, rfl, hO8, hb8⟩; have HR8 := Lib.hid (HR.out.later hb8); (obtain ⟨A8, c8, rfl, hc8, hm8, hS8⟩ := own_row rel_four hO8); have HO8 := Lib.hid (row_base hO8 HB.out.size); have HS8 := Lib.hid hS8; clear hO8 hb8 hS8 HT)
                          have HBOX := Lib.hid HR8.out.box
                          have g3 : w8.cell? ⟨G, 3, none⟩ = some (.slice yA Y.length yc) := HBOX.out.cell 3
                          have g4 : w8.cell? ⟨G, 4, none⟩ = some (.slice (some ⟨gr, 0, none⟩) N N) := HBOX.out.cell 4
                          obtain ⟨tn, htn⟩ : ∃ tn, tl.length = tn := ⟨_, rfl⟩
                          have HTN := Lib.hid htn
                          obtain ⟨ny, hny⟩ : ∃ ny, Y.length = ny := ⟨_, rfl⟩
                          have HNY := Lib.hid hny
                          rw [htn] at hc8 ⊢
                          rw [htn] at htl4
                          rw [hny] at g3
                          clear htn hny k1 k4 k5 k6
                          go_loopg [18] tn (fun gk i wx => ∃ j q : Nat, j ≤ tn ∧ gk = tn - j ∧ i = .int .i64 j ∧ wx = w8.drewN q ∧ Hid ((tl.take j).any (fun r => decide ((ny : Int) ≤ r.sym)) = false))
                          case atStart => exact ⟨0, 0, Nat.zero_le _, rfl, rfl, rfl, Lib.hid rfl⟩
                          case round =>
                            obtain ⟨j, q, hj, rfl, rfl, rfl, HAN⟩ := hrel
                            by_cases hjl : j < tn
                            · obtain ⟨r, hr⟩ : ∃ r, tl[j]? = some r := ⟨tl[j]'(by rw [HTN.out]; exact hjl), List.getElem?_eq_getElem _⟩
                              obtain ⟨b2, o2, rfl, hb2, -, n1, -, -⟩ := rel_at HS8.out hr
                              have hi5 : (0 : Int) ≤ (j : Int) := by omega
                              have hi6 : (j : Int) < (tn : Int) := by omega
                              by_cases hsy : (ny : Int) ≤ r.sym
                              · have dz : decide ((ny : Int) ≤ r.sym) = true := decide_eq_true hsy
                                have HF := Lib.hid (show oe = 24 from HBAD.out 24 (by decide) (by rw [HF0.out, HNY.out, all_false_not _ _ _ _ hr dz]; rfl))
                                clear hr hsy
                                generalize r.sym = rs at *
                                go_wp2_with fail
                                go_quiet (fail)
                                obtain ⟨hX, -, -⟩ := KS.out _ HR8.out.rel.below
                                obtain ⟨r0, r1, r2, r3, r4⟩ := five_cells hX
                                obtain ⟨f0, f1, f2, f3, f4⟩ := five_free hX
                                have HXn := Lib.hid (fun n => KS.out _ (below_drewN HR8.out.rel.below n))
                                clear hX
                                go_upto_region 38 with fail
                                (rename ∀ (a : Act) (w : World), Code.wp _ _ _ a w → _ => hKK; revert hKK; (repeat (rename ∀ (a : Act) (w : World), Code.wp _ _ _ a w → _ => hK2; clear hK2)); intro hKK)
                                repeat (first | go_skip | go_guarded | go_step | go_upon)
                                refine ret_two Tryz.underlying32 Tryz.results8 (fiveO_box (HXn.out _).1 rfl _ _ _ _ _) (by kernel_rfl) (by rfl) rfl ?_
                                exact ⟨noneO, by rw [HF.out]; rfl, noneO_ok _ _, five_below (HXn.out _).2.2 (Nat.le_refl _) _ _ _ _ _, fun h0 => absurd (HF.out.symm.trans h0) (by decide), fun _ => rfl⟩
                              · have dz : decide ((ny : Int) ≤ r.sym) = false := decide_eq_false hsy
                                have HAN1 := Lib.hid (any_take _ _ _ _ hr HAN.out dz)
                                have HJL := Lib.hid hjl
                                clear hr hsy
                                generalize r.sym = rs at *
                                go_wp2_with fail
                                go_quiet (fail)
                                go_wp2_with fail
                                go_roundg (tn - (j + 1))
                                case measure => have := HJL.out; omega
                                case rel => exact ⟨j + 1, _, HJL.out, rfl, by go_num, by first | rfl | (simp; rfl), HAN1⟩
                            · have HAL := Lib.hid (show tl.any (fun r => decide ((ny : Int) ≤ r.sym)) = false by
                                have := HAN.out
                                rwa [List.take_of_length_le (by rw [HTN.out]; omega)] at this)
                              have HF := Lib.hid (HNX.out (by rw [HF0.out, HNY.out, HAL.out]; rfl))
                              have HRq := Lib.hid (HR8.out.later (below_drewN (Below.refl _ _) q))
                              obtain ⟨⟨bx, _, y1⟩, z1, ⟨y2, y3⟩, z2⟩ := HRq.out.rel.cell hmN2
                              obtain ⟨hG1, hG2⟩ := HRq.out.apart
                              have hGr := HRq.out.rel.apart
                              have hG1' := Ne.symm hG1
                              have hG2' := Ne.symm hG2
                              have hGr' := Ne.symm hGr
                              have HPT := Lib.hid (HRq.out.put (q := ⟨A8, c8, tl⟩) (row_below HO8.out (below_drewN (Below.refl _ _) q)) m)
                              rw [show RLay.val ⟨A8, c8, tl⟩ = .slice A8 tl.length c8 from rfl, HTN.out] at HPT
                              have HLT := Lib.hid hlt
                              clear HRq HR8 HBOX HS8
                              go_wp2_with fail
                              go_roundg (N - (k + 1))
                              case measure => have := HLT.out; omega
                              case rel => exact ⟨k + 1, Q.set m ⟨A8, c8, tl⟩, HLT.out, rfl, by go_num, by rw [HF.out.2.1]; exact HPT.out, Lib.hid (by rw [HF.out.2.2, ← HM.out, List.map_set]), Lib.hid HF.out.1⟩
                        · have q0 : (te != 0) = true := by simp [hte]
                          have HF := Lib.hid (HBAD.out te hte (HNE.out hte))
                          clear HBAD HNX HNE HFE
                          go_upto_region 33 with (go_at_call 26; refine HT.out.mono ?_; rintro r w8 ⟨u8, rfl, hO8, hb8⟩; (obtain ⟨hX, -, hBw⟩ := KS.out _ (HB.out.trans (hb8.mono HB.out.size))); (obtain ⟨r0, r1, r2, r3, r4⟩ := five_cells hX); (obtain ⟨f0, f1, f2, f3, f4⟩ := five_free hX); have HXk := Lib.hid hX; have HBk := Lib.hid hBw; clear hX hBw hO8 hb8)
                          (rename ∀ (a : Act) (w : World), Code.wp _ _ _ a w → _ => hKK; revert hKK; (repeat (rename ∀ (a : Act) (w : World), Code.wp _ _ _ a w → _ => hK2; clear hK2)); intro hKK)
                          repeat (first | go_skip | go_guarded | go_step | go_upon)
                          refine ret_two Tryz.underlying32 Tryz.results8 (fiveO_box HXk.out rfl _ _ _ _ _) (by kernel_rfl) (by rfl) rfl ?_
                          exact ⟨noneO, by rw [HF.out]; rfl, noneO_ok _ _, five_below HBk.out (Nat.le_refl _) _ _ _ _ _, fun h0 => absurd (HF.out.symm.trans h0) hte, fun _ => rfl⟩
                  · have q4 : (x.s.kind != 4) = true := by simp [h4]
                    have HF := Lib.hid (rel_other hgs HU.out h9 h4)
                    have HLT := Lib.hid hlt
                    clear hx hgs h9 h4 hokx hHR hnn hsl
                    generalize x.s.kind = kd at *
                    go_wp2_with fail
                    go_roundg (N - (k + 1))
                    case measure => have := HLT.out; omega
                    case rel => exact ⟨k + 1, Q, HLT.out, rfl, by go_num, by rw [HF.out.2.1]; exact HR.out, Lib.hid (by rw [HF.out.2.2]; exact HM.out), Lib.hid HF.out.1⟩
              · have hkn : k = N := by omega
                subst hkn
                obtain ⟨hX, hS5, hBw⟩ := KS.out _ hR.rel.below
                obtain ⟨r0, r1, r2, r3, r4⟩ := five_cells hX
                obtain ⟨f0, f1, f2, f3, f4⟩ := five_free hX
                have hBox := hR.box
                obtain ⟨g0, g1, g2, g3, g4⟩ := five_cells hBox
                have HXk := Lib.hid hX
                have HBk := Lib.hid hBw
                have HS5 := Lib.hid hS5
                have hlen := hR.rel.lens.2
                have HQL := Lib.hid hlen
                have HQR := Lib.hid (show wr.ownsRow w2.heap.size 49 1 (.slice (some ⟨gr, 0, none⟩) Q.length k) Q.length (Q.map RLay.val) by rw [hlen]; exact hR.rel.rel)
                have HF := Lib.hid (show oe = 0 from HER.out.trans (by have := HU.out; rwa [← (show (secsOf L).length = k by simp; exact HN.out)] at this))
                have HQM := Lib.hid (show Q.map (·.l) = relaK (secsOf L) (secsOf L).length by rw [show (secsOf L).length = k by simp; exact HN.out]; exact HM.out)
                clear hX hS5 hBw hBox hR hlen
                go_upto_region 41 with fail
                (rename ∀ (a : Act) (w : World), Code.wp _ _ _ a w → _ => hKK; revert hKK; (repeat (rename ∀ (a : Act) (w : World), Code.wp _ _ _ a w → _ => hK2; clear hK2)); intro hKK)
                repeat (first | go_skip | go_guarded | go_step | go_upon)
                have hgb := five_only wr w.heap.size (.int .i64 kt) (.int .i64 mt) (.slice A1 k c1) (.slice yA Y.length yc) (.slice (some ⟨gr, 0, none⟩) k k)
                have hon : Only w.heap.size (CellsOf 32) wr _ := Only.row hgb HXk.out rfl (Nat.le_refl _)
                refine ret_two Tryz.underlying32 Tryz.results8 (fiveO_box HXk.out rfl _ _ _ _ _) (by kernel_rfl) (by rfl) rfl ?_
                exact ⟨⟨kt, mt, A1, c1, L, yA, yc, Y, some ⟨gr, 0, none⟩, k, Q⟩, by rw [HF.out]; unfold ObjV.val ObjV.cells; simp only [HN.out, HQL.out]; rfl,
                  ⟨(secs_off HS5.out HXk.out plain_zero hgb).more hgb.size, syms_lieR HR.out.syms hon, lists_lieR HQR.out HR.out.rel.own hon, by rw [HN.out]; exact hc1, by rw [HQL.out]; exact Nat.le_refl _⟩, HBk.out.trans hon.1, fun _ => ⟨rfl, rfl, rfl, HYE.out.symm, HQM.out⟩, fun h => absurd HF.out h⟩
  · exact absurd hse hn

end Go.Proofs.YtldmjnbmjfnfeaaGreatDoor

namespace Go.Proofs.YtldmjnbmjfnfeaaGreatDoor
open Go Go.RowKit

/-- The document's Take, of whatever bytes. -/
theorem rotake_any {w : World} {A : Option Addr} {l : List UInt8} (hr : Rd w w.heap.size A l) (c : Nat) (hlc : l.length ≤ c) (hcm : c ≤ maxLen) (hl : l.length ≤ 140737488355328) :
    Calls Tryz.prog 8 #[.slice A l.length c] w (OTake l w) := by
  by_cases hse : secE l = 0
  · rcases placeK_at (secL l) (secL l).length with h | h | ⟨j, s, _, h, _⟩
    · exact rotake_none hr c hlc hcm hl hse h
    · exact rotake_two hr c hlc hcm hl hse h
    · by_cases hx : symX (secL l) = 0
      · exact rotake_tab hr c hlc hcm hl hse j h hx
      · exact rotake_tabx hr c hlc hcm hl hse j h hx
  · exact rotake_bad hr c hlc hcm hl hse

theorem relaK_small (S : List Sect) : ∀ k, ∀ l ∈ relaK S k, l.length ≤ 400
  | 0, l, h => by
    rw [relaK] at h
    have := List.eq_of_mem_replicate h
    subst this
    exact Nat.zero_le _
  | k + 1, l, h => by
    have ih := relaK_small S k
    rcases hx : S[k]? with _ | x
    · rw [show relaK S (k + 1) = relaK S k by simp [relaK, hx]] at h
      exact ih l h
    · by_cases h4 : x.kind = 4
      · rw [show relaK S (k + 1) = (relaK S k).set x.inf.toNat (relsL x.data) by simp [relaK, hx, h4]] at h
        rcases List.mem_or_eq_of_mem_set h with h | h
        · exact ih l h
        · rw [h]; exact takeLY_length _ _ _
      · rw [show relaK S (k + 1) = relaK S k by simp [relaK, hx, h4]] at h
        exact ih l h
theorem symY_small (S : List Sect) : (symY S).length ≤ 400 := by
  unfold symY
  split
  · exact Nat.zero_le _
  · unfold symsL
    split
    · exact Nat.zero_le _
    · split
      · exact Nat.zero_le _
      · split
        · unfold symL
          split
          · exact takeLY_length _ _ _
          · exact Nat.zero_le _
        · exact Nat.zero_le _
/-- Two that are told of the same bytes are alike, and not great. -/
theorem told_like {l : List UInt8} {o o' : ObjV} (h : objE l = 0 → o.kind = kindT l ∧ o.machine = machT l ∧ secsOf o.L = secL l ∧ o.Y = symY (secL l) ∧ o.Q.map (·.l) = relaK (secL l) (secL l).length) (hn : objE l ≠ 0 → o = noneO)
    (h' : objE l = 0 → o'.kind = kindT l ∧ o'.machine = machT l ∧ secsOf o'.L = secL l ∧ o'.Y = symY (secL l) ∧ o'.Q.map (·.l) = relaK (secL l) (secL l).length) (hn' : objE l ≠ 0 → o' = noneO) :
    o.Like o' ∧ o.L.length ≤ 100000 ∧ o.Y.length ≤ 100000 ∧ o.Q.length ≤ 100000 ∧ o'.Q.length ≤ 100000 ∧ ∀ q ∈ o.Q, q.l.length ≤ 100000 := by
  by_cases he : objE l = 0
  · obtain ⟨a1, a2, a3, a4, a5⟩ := h he
    obtain ⟨b1, b2, b3, b4, b5⟩ := h' he
    have hS := secL_length l
    have hl1 : o.L.length = (secL l).length := by rw [← a3]; simp
    have hl2 : o.Q.length = (secL l).length := by
      have := congrArg List.length a5
      rw [relaK_length] at this
      simpa using this
    have hl3 : o'.Q.length = (secL l).length := by
      have := congrArg List.length b5
      rw [relaK_length] at this
      simpa using this
    refine ⟨⟨by rw [a1, b1], by rw [a2, b2], by rw [a3, b3, sameAll_refl], by rw [a4, b4], fun k => by rw [a5, b5]⟩, by omega, by rw [a4]; have := symY_small (secL l); omega, by omega, by omega, fun q hq => ?_⟩
    have h1 : q.l ∈ relaK (secL l) (secL l).length := by rw [← a5]; exact List.mem_map_of_mem hq
    have := relaK_small _ _ _ h1
    omega
  · rw [hn he, hn' he]
    exact ⟨⟨rfl, rfl, rfl, rfl, fun _ => rfl⟩, Nat.zero_le _, Nat.zero_le _, Nat.zero_le _, Nat.zero_le _, fun q hq => by cases hq⟩

set_option maxRecDepth 10000 in
set_option maxHeartbeats 6400000 in
theorem otakes_walk (a0 : Option Addr) (len0 cap0 : Nat) (z0 : List Int) (w : World) (hM : Mg w) (w0 : IsRow .u8 w a0 len0 cap0 z0) :
    Calls Tryz.prog 3 #[.slice a0 len0 cap0] w fun e w' => e = .returned (.bool true) ∧ Below w.heap.size w w' := by
  obtain ⟨l, hlen, hrd, hlc, hcm⟩ := row_bytes w0
  clear w0
  subst hlen
  obtain ⟨i0, hi, hz0, hz1, hz2⟩ := info_parts u8_info
  have hpos := hM.pos
  have HW := Lib.hid (fun W (hW : Below w.heap.size w W) => oworks_any (hM.below hW hpos))
  by_cases hbig : 8000 < l.length
  · have hd : decide ((8000 : Int) < (l.length : Int)) = true := decide_eq_true (by omega)
    clear hbig hrd hlc hcm hM
    generalize l.length = N at *
    go_enter Tryz.func3, Tryz.ntmps3
    go_wp2_with fail
    refine (HW.out _ (Below.refl _ _)).mono ?_
    rintro r w1 ⟨rfl, hb1⟩
    go_wp2_with fail
    go_ret
    exact ⟨rfl, hb1⟩
  · have hd : decide ((8000 : Int) < (l.length : Int)) = false := decide_eq_false (by omega)
    have hl : l.length ≤ 140737488355328 := by omega
    have hsum : ([] : List UInt8).length + l.length ≤ 140737488355328 := by simpa using hl
    have hb0 := (Below.refl w.heap.size w).alloc (Nat.le_refl _) (.cells #[] 5)
    have HR := Lib.hid hrd
    have HT1 := Lib.hid (fun W A c (hr : Rd W W.heap.size A l) (hc : l.length ≤ c) (hW : Below w.heap.size w W) => otake_any hr c hc hl (hM.below hW hpos))
    have HT2 := Lib.hid (fun W (hW : Below w.heap.size w W) => rotake_any ((hrd.below hW).more hW.size) cap0 hlc hcm hl)
    clear hbig hrd hlc hcm hM hl
    go_enter Tryz.func3, Tryz.ntmps3
    go_wp2_with (at_builtin; refine wpList_append_bytes (by rfl) (.tmp 12) (.tmp 13) _ (by rfl) w.heap.size i0 Tryz.underlying22 hi hz0 hz1 hz2 (.slice (some ⟨w.heap.size, 0, none⟩) 0 0) [] (by rfl) (by exact own_new w) w.heap.size a0 l.length cap0 l rfl (by rfl) (HR.out.below hb0) hsum hb0.size ?_; intro v1 w1 hown1 hg1 hat1; have HB1 := Lib.hid (hb0.grown hg1 hb0.size (by simp [Value.ownBlock])); rw [List.nil_append] at hown1; have HO1 := Lib.hid hown1; (obtain ⟨A1, c1, rfl, hlc1, _, hrd1⟩ := own_slice hown1); have HR1 := Lib.hid hrd1; have HL1 := Lib.hid hlc1; clear hg1 hat1 hown1 hrd1 hlc1 hsum hb0)
    refine (HT1.out _ _ _ HR1.out HL1.out HB1.out).mono ?_
    rintro r w2 ⟨o, rfl, hOk, hb2, ho, hon⟩
    have HB2 := Lib.hid (HB1.out.trans (hb2.mono HB1.out.size))
    have HO2 := Lib.hid (own_below HO1.out hb2)
    have HK2 := Lib.hid hOk
    have HT := Lib.hid (And.intro ho hon)
    have hb3 : Below w2.heap.size w2 (w2.alloc (.cells o.cells.toArray 28)) := (Below.refl _ _).alloc (Nat.le_refl _) _
    have HB3 := Lib.hid (HB2.out.trans (hb3.mono HB2.out.size))
    have HB23 := Lib.hid hb3
    have hX3 := Box.new w2 28 o.cells.toArray
    have HX3 := Lib.hid hX3
    clear hOk ho hon hb2 hb3 hX3 HT1 HR1 HL1 HO1
    rw [show o.cells.toArray = #[.int .i64 o.kind, .int .i64 o.machine, .slice o.aS o.L.length o.cS, .slice o.aY o.Y.length o.cY, .slice o.aR o.Q.length o.cR] from rfl] at HB3 HB23 HX3
    rw [show o.val = .agg #[.int .i64 o.kind, .int .i64 o.machine, .slice o.aS o.L.length o.cS, .slice o.aY o.Y.length o.cY, .slice o.aR o.Q.length o.cR] from rfl]
    go_wp2_with fail
    refine (HT2.out _ HB3.out).mono ?_
    rintro r w4 ⟨p, rfl, hOk, hb4, ho, hon⟩
    have HB4 := Lib.hid (HB3.out.trans (hb4.mono HB3.out.size))
    have HB24 := Lib.hid (HB23.out.trans (hb4.mono HB23.out.size))
    obtain ⟨hLk, s1, s2, s3, s4, s5⟩ := told_like HT.out.1 HT.out.2 ho hon
    have hb5 : Below w4.heap.size w4 (w4.alloc (.cells p.cells.toArray 32)) := (Below.refl _ _).alloc (Nat.le_refl _) _
    have hX5 := Box.new w4 32 p.cells.toArray
    have HB25 := Lib.hid (HB24.out.trans (hb5.mono HB24.out.size))
    have HB5 := Lib.hid (HB4.out.trans (hb5.mono HB4.out.size))
    have HSM := Lib.hid (osame_any (w := w4.alloc (.cells p.cells.toArray 32)) o p ((HK2.out.below HB25.out).more HB25.out.size) ((hOk.below hb5).more hb5.size) hLk s1 s2 s3 s4 s5)
    have hx3 := (HX3.out.below (hb4.trans (hb5.mono hb4.size)) (by simp))
    clear hLk s1 s2 s3 s4 s5 hOk ho hon hb4 HT
    rw [show p.cells.toArray = #[.int .i64 p.kind, .int .i64 p.machine, .slice p.aS p.L.length p.cS, .slice p.aY p.Y.length p.cY, .slice p.aR p.Q.length p.cR] from rfl] at HB5 HB25 HSM hX5 hb5 hx3
    rw [show o.val = .agg #[.int .i64 o.kind, .int .i64 o.machine, .slice o.aS o.L.length o.cS, .slice o.aY o.Y.length o.cY, .slice o.aR o.Q.length o.cR] from rfl, show p.val = .agg #[.int .i64 p.kind, .int .i64 p.machine, .slice p.aS p.L.length p.cS, .slice p.aY p.Y.length p.cY, .slice p.aR p.Q.length p.cR] from rfl] at HSM
    rw [show p.val = .agg #[.int .i64 p.kind, .int .i64 p.machine, .slice p.aS p.L.length p.cS, .slice p.aY p.Y.length p.cY, .slice p.aR p.Q.length p.cR] from rfl]
    obtain ⟨x0, x1, x2, x3, x4⟩ := five_cells hx3
    obtain ⟨y0, y1, y2, y3, y4⟩ := five_cells hX5
    have HRD := Lib.hid (fun W (hW : Below w2.heap.size w2 W) (hW' : Below w.heap.size w W) => And.intro (conv_own (own_below HO2.out hW)) (conv_rd (HR.out.below hW') cap0))
    obtain ⟨st, hst⟩ : ∃ s : ByteArray, s = ⟨l.toArray⟩ := ⟨_, rfl⟩
    rw [← hst] at HRD
    have q1 : (st.toList == st.toList) = true := by simp
    have q2 : (objE l == objE l) = true := by simp
    clear hst hX5 hb5 hx3 HX3 HK2 HO2 HB23 HB24
    generalize objE l = ee at *
    generalize l.length = ln at *
    go_wp2_with (go_at_call 9; refine HSM.out.mono ?_; rintro r w6 ⟨rfl, hb6⟩; have HB6 := Lib.hid (HB5.out.trans (hb6.mono HB5.out.size)); (obtain ⟨cv1, cv2⟩ := HRD.out _ (HB25.out.trans (hb6.mono HB25.out.size)) HB6.out); clear hb6)
    refine (HW.out _ HB6.out).mono ?_
    rintro r w7 ⟨rfl, hb7⟩
    have HB7 := Lib.hid (HB6.out.trans (hb7.mono HB6.out.size))
    clear hb7
    go_wp2_with fail
    go_ret
    exact ⟨rfl, HB7.out⟩

end Go.Proofs.YtldmjnbmjfnfeaaGreatDoor
