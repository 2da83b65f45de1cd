/-
  The document's object: its Take, where no section has symbols.
-/
import Derived.Test.YtldmjnbmjfnfeaaGreatDoorObJ
namespace Go.Proofs.YtldmjnbmjfnfeaaGreatDoor
open Go Go.RowKit

set_option maxRecDepth 10000 in
set_option maxHeartbeats 6400000 in
theorem rotake_none {w : World} {A : Option Addr} {l : List UInt8} (hr : Rd w w.heap.size A l) (c : Nat) (hlc : l.length ≤ c) (hcm : c ≤ maxLen) (hl : l.length ≤ 140737488355328) (hse : secE l = 0) (hz : placeS (secL l) = -1) :
    Calls Tryz.prog 8 #[.slice A l.length c] w (OTake l w) := by
  have hb0 : Below w.heap.size w (w.alloc (.cells #[.int .i64 0, .int .i64 0, .slice none 0 0, .slice none 0 0, .slice none 0 0] 32)) := (Below.refl _ _).alloc (Nat.le_refl _) _
  have hT := rstake_any ((hr.below hb0).more hb0.size) c hlc hcm hl
  have hX0 := Box.new w 32 #[.int .i64 0, .int .i64 0, .slice none 0 0, .slice none 0 0, .slice none 0 0]
  unfold RSTake at hT
  rcases secL_is l with ⟨_, _, _, _, hH⟩ | ⟨hn, _⟩
  · rw [hH, hse] at hT
    have HE := Lib.hid (objE_in hse)
    have HZ := Lib.hid hz
    have HT := Lib.hid hT
    have HX0 := Lib.hid hX0
    have HB0 := Lib.hid hb0
    have HNN := Lib.hid (secL_nn l)
    have HFS := Lib.hid (secL_first l)
    have HLN := Lib.hid (secL_length l)
    clear hT hX0 hb0 hse hH hr hlc hl hz
    unfold OTake
    generalize kindT l = kt at *
    generalize machT l = mt at *
    generalize offT l = ot at *
    generalize cntT l = ct at *
    generalize shsT l = st at *
    generalize secL l = S at *
    generalize objE l = oe at *
    generalize l.length = n at *
    go_enter Tryz.func8, Tryz.ntmps8
    go_wp2_with (go_at_call 23; refine HT.out.mono ?_; rintro r w1 ⟨A1, c1, L, rfl, hL1, hS1, hc1, hb1⟩; subst hL1; have HB1 := Lib.hid (HB0.out.trans (hb1.mono HB0.out.size)); have HX1 := Lib.hid (HX0.out.below hb1 (by simp)); have HS1 := Lib.hid hS1; clear hb1 hS1 HT)
    have hb2 : Below w1.heap.size w1 (w1.alloc (.cells #[.int .i64 kt, .int .i64 mt, .int .u64 (ot : Int), .int .i64 (ct : Int), .int .i64 (st : Int)] 64)) := (Below.refl _ _).alloc (Nat.le_refl _) _
    have hX2 := HX1.out.below hb2 HX1.out.lt
    have hH2 := Box.new w1 64 #[.int .i64 kt, .int .i64 mt, .int .u64 (ot : Int), .int .i64 (ct : Int), .int .i64 (st : Int)]
    have hS2 := (HS1.out.below hb2).more hb2.size
    have hB2 := HB1.out.trans (hb2.mono HB1.out.size)
    clear HX1 HS1 HB1 hb2
    generalize w1.alloc (.cells #[.int .i64 kt, .int .i64 mt, .int .u64 (ot : Int), .int .i64 (ct : Int), .int .i64 (st : Int)] 64) = w2 at *
    have KS := Lib.hid (fun W (hW : Below w2.heap.size w2 W) => (⟨hX2.below hW hX2.lt, (hS2.below hW).more hW.size, hB2.trans (hW.mono hB2.size)⟩ :
      Box W w.heap.size 32 #[.int .i64 0, .int .i64 0, .slice none 0 0, .slice none 0 0, .slice none 0 0] ∧ Secs W W.heap.size A1 L ∧ Below w.heap.size w W))
    have HSB := Lib.hid (fun W (hW : Below w2.heap.size w2 W) => (hS2.below hW : Secs W w2.heap.size A1 L))
    have HLN2 := Lib.hid (show L.length ≤ 64 by have := HLN.out; simpa using this)
    obtain ⟨N, hN⟩ : ∃ N, L.length = N := ⟨_, rfl⟩
    have HN := Lib.hid hN
    have hNb : N ≤ 64 := by rw [← hN]; exact HLN2.out
    rw [hN] at hc1 ⊢
    have hmk := make_lists N (by omega)
    have h30 : w2.cell? ⟨w1.heap.size, 0, none⟩ = some (.int .i64 kt) := hH2.cell 0
    have h32 : w2.cell? ⟨w1.heap.size, 1, none⟩ = some (.int .i64 mt) := hH2.cell 1
    have hH2l := hH2.lt
    clear hN hX2 hH2 hS2
    go_upto_region 4 with fail
    go_cut [7] (fun g wx => ∃ G gr, g = .pointer (some ⟨G, 0, none⟩) ∧ DocO w2 wx G gr N kt mt A1 c1 (.slice none 0 0) (List.replicate N ⟨none, 0, []⟩))
    case first =>
      go_region_held_law (fun W => W.cell? ⟨w1.heap.size, 0, none⟩ = some (.int .i64 kt) ∧ W.cell? ⟨w1.heap.size, 1, none⟩ = some (.int .i64 mt)) (go_keep) (fail)
      all_goals go_wp2_with fail
      all_goals go_meet
      all_goals first
        | exact ⟨_, _, rfl, doc_one w2 N (by omega) kt mt A1 c1⟩
        | exact ⟨_, _, rfl, doc_two w2 N (by omega) kt mt A1 c1⟩
    case rest =>
      obtain ⟨G, gr, rfl, hD⟩ := hcut
      have HD := Lib.hid hD
      clear hD h30 h32 hmk
      have HPLC := Lib.hid (place_any (KS.out _ HD.out.below).2.1 c1 (by have := HLN2.out; omega))
      rw [HN.out] at HPLC
      rw [HZ.out] at HPLC
      have q2 : ((-1 : Int) == -2) = false := rfl
      have hd : decide ((0 : Int) ≤ -1) = false := by decide
      have hY : symY (secsOf L) = [] := by rw [symY, HZ.out]; rfl
      have hX : symX (secsOf L) = 0 := by rw [symX, HZ.out]; rfl
      have HER := Lib.hid (show oe = relUp (secsOf L) (-1) 0 (secsOf L).length by rw [HE.out, objS_rel (by rw [HZ.out]; decide) hX, HZ.out, hY]; rfl)
      obtain ⟨yA, yc, Y, hYv, hYe⟩ : ∃ (yA : Option Addr) (yc : Nat) (Y : List Sym), (Value.slice none 0 0 = .slice yA Y.length yc ∧ yA = none ∧ yc = 0) ∧ Y = [] := ⟨none, 0, [], ⟨rfl, rfl, rfl⟩, rfl⟩
      have HYE := Lib.hid (show symY (secsOf L) = Y by rw [hYe]; exact hY)
      have HOY6 := Lib.hid (show OwnY wc w2.heap.size (.slice yA Y.length yc) Y by rw [← hYv.1, hYe]; exact World.ownsRow_nil _ _ _ _)
      rw [hYv.1] at HD
      rw [show (0 : Nat) = Y.length by rw [hYe]; rfl] at HER
      have HD6 := HD
      clear hY hX hYv hYe
      obtain ⟨ib, hib, hib0, hib1, hib2'⟩ := info_parts bool_info1
      have hib2 : ib.bytes * N ≤ 281474976710656 := by rw [hib2']; omega
      have hmN : N ≤ maxLen := by unfold maxLen; omega
      have hwz : w2.heap.size ≤ wc.heap.size := HD.out.below.size
      clear HD
      generalize wc = w6 at *
      go_wp2_with (first
        | (go_at_call 24; refine HPLC.out.mono ?_; rintro r w4 ⟨rfl, rfl⟩)
        | (at_make; refine wpList_make_full _ rfl _ _ 70 rfl w2.heap.size 4 ib _ 1 Tryz.underlying70 hib hib0 hib1 .i64 .i64 (N : Int) (N : Int) N rfl rfl rfl rfl hib2 hmN hwz ?_; intro w7 hown7 hg7))
      clear HPLC
      have hb67 : Below w6.heap.size w6 w7 := below_of_only hg7 (Nat.le_refl _) (by simp)
      have HDR := Lib.hid (show DocR w2 w7 G w6.heap.size gr N kt mt A1 c1 yA yc Y (hadK (secsOf L) 0) (List.replicate N ⟨none, 0, []⟩) from
        ⟨⟨by rw [show (Value.bool false).cells = #[Value.bool false] from rfl, made_one] at hown7; rw [RowBl, hadK, show (secsOf L).length = N by simp; exact HN.out, List.map_replicate]; exact hown7, row_below HD6.out.rel hb67, fun q hq => row_below (HD6.out.own q hq) hb67, HD6.out.below.trans (hb67.mono HD6.out.below.size)⟩, HD6.out.box.below hb67 HD6.out.box.lt, row_below HOY6.out hb67⟩)
      have HQ0 := Lib.hid (show (List.replicate N (⟨none, 0, []⟩ : RLay)).map (·.l) = relaK (secsOf L) 0 by rw [List.map_replicate, relaK, show (secsOf L).length = N by simp; exact HN.out])
      clear hown7 hg7 hb67 HD6 HOY6
      generalize w6.heap.size = gm at *
      go_loopg [14] N (fun gk i wx => ∃ (k : Nat) (Q : List RLay), k ≤ N ∧ gk = N - k ∧ i = .int .i64 k ∧ DocR w2 wx G gm gr N kt mt A1 c1 yA yc Y (hadK (secsOf L) k) Q ∧ Hid (Q.map (·.l) = relaK (secsOf L) k) ∧ Hid (relUp (secsOf L) (-1) Y.length k = 0))
      case atStart => exact ⟨0, _, Nat.zero_le _, rfl, rfl, HDR.out, HQ0, Lib.hid rfl⟩
      case round =>
        obtain ⟨k, Q, hk, rfl, rfl, hR, HM, HU⟩ := hrel
        clear HDR HQ0
        have HR := Lib.hid hR
        have HB := Lib.hid hR.rel.below
        by_cases hlt : k < N
        · obtain ⟨x, hx⟩ : ∃ x, L[k]? = some x := ⟨L[k]'(by rw [HN.out]; exact hlt), List.getElem?_eq_getElem _⟩
          have hS4 := HSB.out _ hR.rel.below
          have hokx := hS4.get hx
          obtain ⟨b, o, rfl, hb, -, k1, -, -, k4, k5, k6, -, -⟩ := hS4.at_ hx
          have hgs := get_secsOf hx
          have hnn := HNN.out x.s (List.mem_map_of_mem (List.mem_of_getElem? hx))
          obtain ⟨lk, hlk⟩ : ∃ lk : Nat, x.s.link = (lk : Int) := ⟨x.s.link.toNat, by omega⟩
          obtain ⟨m, hm⟩ : ∃ m : Nat, x.s.inf = (m : Int) := ⟨x.s.inf.toNat, by omega⟩
          have hmt : x.s.inf.toNat = m := by omega
          rw [hlk] at k5
          rw [hm] at k6
          have hHR := hR
          have hsl : (secsOf L).length = N := by simp; exact HN.out
          clear hR hS4
          by_cases h9 : x.s.kind = 9
          · have q9 : (x.s.kind == 9) = true := by simp [h9]
            have HF := Lib.hid (HER.out.trans (rel_bad hgs HU.out (e := 24) (by decide) (relE_nine h9)))
            clear hx hgs h9 hokx hHR hnn hsl
            generalize x.s.kind = kd at *
            obtain ⟨hX, -, hBw⟩ := KS.out _ (HB.out)
            obtain ⟨r0, r1, r2, r3, r4⟩ := five_cells hX
            obtain ⟨f0, f1, f2, f3, f4⟩ := five_free hX
            have HXk := Lib.hid hX
            have HBk := Lib.hid hBw
            clear hX hBw
            go_wp2_with fail
            refine ret_two Tryz.underlying32 Tryz.results8 (fiveO_box HXk.out rfl _ _ _ _ _) (by kernel_rfl) (by rfl) rfl ?_
            exact ⟨noneO, by rw [HF.out]; rfl, noneO_ok _ _, five_below HBk.out (Nat.le_refl _) _ _ _ _ _, fun h0 => absurd (HF.out.symm.trans h0) (by decide), fun _ => rfl⟩
          · have q9 : (x.s.kind == 9) = false := by simp [h9]
            by_cases h4 : x.s.kind = 4
            · have q4 : (x.s.kind != 4) = false := by simp [h4]
              have ra : decide ((-1 : Int) < 0) = true := by decide
              have HF := Lib.hid (HER.out.trans (rel_bad hgs HU.out (e := 24) (by decide) (relE_out h4 (.inl (by decide)))))
              clear hx hgs h4 h9 hokx hHR hnn hsl
              generalize x.s.kind = kd at *
              obtain ⟨hX, -, hBw⟩ := KS.out _ (HB.out)
              obtain ⟨r0, r1, r2, r3, r4⟩ := five_cells hX
              obtain ⟨f0, f1, f2, f3, f4⟩ := five_free hX
              have HXk := Lib.hid hX
              have HBk := Lib.hid hBw
              clear hX hBw
              go_wp2_with fail
              refine ret_two Tryz.underlying32 Tryz.results8 (fiveO_box HXk.out rfl _ _ _ _ _) (by kernel_rfl) (by rfl) rfl ?_
              exact ⟨noneO, by rw [HF.out]; rfl, noneO_ok _ _, five_below HBk.out (Nat.le_refl _) _ _ _ _ _, fun h0 => absurd (HF.out.symm.trans h0) (by decide), fun _ => rfl⟩
            · have q4 : (x.s.kind != 4) = true := by simp [h4]
              have HF := Lib.hid (rel_other hgs HU.out h9 h4)
              have HLT := Lib.hid hlt
              clear hx hgs h9 h4 hokx hHR hnn hsl
              generalize x.s.kind = kd at *
              go_wp2_with fail
              go_roundg (N - (k + 1))
              case measure => have := HLT.out; omega
              case rel => exact ⟨k + 1, Q, HLT.out, rfl, by go_num, by rw [HF.out.2.1]; exact HR.out, Lib.hid (by rw [HF.out.2.2]; exact HM.out), Lib.hid HF.out.1⟩
        · have hkn : k = N := by omega
          subst hkn
          obtain ⟨hX, hS5, hBw⟩ := KS.out _ hR.rel.below
          obtain ⟨r0, r1, r2, r3, r4⟩ := five_cells hX
          obtain ⟨f0, f1, f2, f3, f4⟩ := five_free hX
          have hBox := hR.box
          obtain ⟨g0, g1, g2, g3, g4⟩ := five_cells hBox
          have HXk := Lib.hid hX
          have HBk := Lib.hid hBw
          have HS5 := Lib.hid hS5
          have hlen := hR.rel.lens.2
          have HQL := Lib.hid hlen
          have HQR := Lib.hid (show wr.ownsRow w2.heap.size 49 1 (.slice (some ⟨gr, 0, none⟩) Q.length k) Q.length (Q.map RLay.val) by rw [hlen]; exact hR.rel.rel)
          have HF := Lib.hid (show oe = 0 from HER.out.trans (by have := HU.out; rwa [← (show (secsOf L).length = k by simp; exact HN.out)] at this))
          have HQM := Lib.hid (show Q.map (·.l) = relaK (secsOf L) (secsOf L).length by rw [show (secsOf L).length = k by simp; exact HN.out]; exact HM.out)
          clear hX hS5 hBw hBox hR hlen
          go_wp2_with fail
          have hgb := five_only wr w.heap.size (.int .i64 kt) (.int .i64 mt) (.slice A1 k c1) (.slice yA Y.length yc) (.slice (some ⟨gr, 0, none⟩) k k)
          have hon : Only w.heap.size (CellsOf 32) wr _ := Only.row hgb HXk.out rfl (Nat.le_refl _)
          refine ret_two Tryz.underlying32 Tryz.results8 (fiveO_box HXk.out rfl _ _ _ _ _) (by kernel_rfl) (by rfl) rfl ?_
          exact ⟨⟨kt, mt, A1, c1, L, yA, yc, Y, some ⟨gr, 0, none⟩, k, Q⟩, by rw [HF.out]; unfold ObjV.val ObjV.cells; simp only [HN.out, HQL.out]; rfl,
            ⟨(secs_off HS5.out HXk.out plain_zero hgb).more hgb.size, syms_lieR HR.out.syms hon, lists_lieR HQR.out HR.out.rel.own hon, by rw [HN.out]; exact hc1, by rw [HQL.out]; exact Nat.le_refl _⟩, HBk.out.trans hon.1, fun _ => ⟨rfl, rfl, rfl, HYE.out.symm, HQM.out⟩, fun h => absurd HF.out h⟩
  · exact absurd hse hn

end Go.Proofs.YtldmjnbmjfnfeaaGreatDoor
