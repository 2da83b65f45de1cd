/-
  SymsTakes' walk.
-/

import Derived.Test.YtkadjejjillmmaaSyV
import Derived.Test.YtkadjejjillmmaaLawA
import Derived.Test.YtkadjejjillmmaaParts
namespace Go.Proofs.Ytkadjejjillmmaa
open Go Go.RowKit

set_option maxRecDepth 10000 in
set_option maxHeartbeats 3200000 in
theorem ytakes_walk (a0 : Option Addr) (len0 cap0 : Nat) (z0 : List Int) (a1 : Option Addr) (len1 cap1 : Nat) (z1 : List Int) (w : World) (w0 : IsRow .u8 w a0 len0 cap0 z0) (w1 : IsRow .u8 w a1 len1 cap1 z1) :
    Calls Try.prog 3 #[.slice a0 len0 cap0, .slice a1 len1 cap1] w fun e w' => e = .returned (.bool true) ∧ Below w.heap.size w w' := by
  obtain ⟨t, hlen, hrd, hlc, hcm⟩ := row_bytes w0
  obtain ⟨ns, hlen', hrd', hlc', hcm'⟩ := row_bytes w1
  have HW := Lib.hid (fun (W : World) => yworks_any (w := W))
  by_cases hbig : t.length ≤ 12000 ∧ ns.length ≤ 12000
  · obtain ⟨hb1, hb2⟩ := hbig
    have d1 : decide ((12000 : Int) < (len0 : Int)) = false := decide_eq_false (by omega)
    have d2 : decide ((12000 : Int) < (len1 : Int)) = false := decide_eq_false (by omega)
    have HT := Lib.hid (fun W (hW : Below w.heap.size w W) => ytake_any ((hrd.below hW).more hW.size) ((hrd'.below hW).more hW.size) cap0 cap1 (by omega) (by omega) (by omega))
    have HR := Lib.hid (fun W (hW : Below w.heap.size w W) => rytake_any ((hrd.below hW).more hW.size) ((hrd'.below hW).more hW.size) cap0 cap1 (by omega) hcm (by omega) hcm' (by omega) (by omega))
    have HTR := Lib.hid (fun W (hW : Below w.heap.size w W) => yrel_any ((hrd.below hW).more hW.size) cap0 (by omega))
    have HRR := Lib.hid (fun W (hW : Below w.heap.size w W) => ryrel_any ((hrd.below hW).more hW.size) cap0 (by omega) hcm (by omega))
    have HLS := Lib.hid (show (takeLY t.length (okK t ns) (symK t ns)).length ≤ 100000 by
      unfold takeLY
      split
      · simp
      · split
        · simp
        · split
          · rw [listTo_length]; omega
          · simp)
    have HLR := Lib.hid (show (takeLY t.length (okR t) (relK t)).length ≤ 100000 by
      unfold takeLY
      split
      · simp
      · split
        · simp
        · split
          · rw [listTo_length]; omega
          · simp)
    generalize takeEY t.length (okK t ns) 23 = e1 at *
    generalize takeLY t.length (okK t ns) (symK t ns) = L1 at *
    generalize takeEY t.length (okR t) 24 = e2 at *
    generalize takeLY t.length (okR t) (relK t) = L2 at *
    rw [hlen, hlen'] at HT HR
    rw [hlen] at HTR HRR
    have q1 : (e1 == e1) = true := by simp
    have q2 : (e2 == e2) = true := by simp
    clear hlen hrd hlc hcm hlen' hrd' hlc' hcm' hb1 hb2 w0 w1
    go_enter Try.func3, Try.ntmps3
    go_wp2_with fail
    refine (HT.out _ (Below.refl _ _)).mono ?_
    rintro r w2 ⟨u2, rfl, hO2, hb2⟩
    obtain ⟨A2, c2, rfl, _, _, hS2⟩ := own_row sym_six hO2
    have HS2 := Lib.hid hS2
    have HB2 := Lib.hid hb2
    clear hO2 hS2 hb2 HT
    go_wp2_with fail
    refine (HR.out _ HB2.out).mono ?_
    rintro r w3 ⟨u3, rfl, hO3, hb3⟩
    obtain ⟨A3, c3, rfl, _, _, hS3⟩ := own_row sym_six hO3
    have HS3 := Lib.hid hS3
    have HS23 := Lib.hid (HS2.out.up hb3)
    have HB3 := Lib.hid (HB2.out.trans (hb3.mono HB2.out.size))
    clear hO3 hS3 hb3 HR HS2
    go_wp2_with fail
    refine (HTR.out _ HB3.out).mono ?_
    rintro r w4 ⟨u4, rfl, hO4, hb4⟩
    obtain ⟨A4, c4, rfl, _, _, hS4⟩ := own_row rel_four hO4
    have HS4 := Lib.hid hS4
    have HS24 := Lib.hid (HS23.out.up hb4)
    have HS34 := Lib.hid (HS3.out.up hb4)
    have HB4 := Lib.hid (HB3.out.trans (hb4.mono HB3.out.size))
    clear hO4 hS4 hb4 HTR HS23 HS3
    go_wp2_with fail
    refine (HRR.out _ HB4.out).mono ?_
    rintro r w5 ⟨u5, rfl, hO5, hb5⟩
    obtain ⟨A5, c5, rfl, _, _, hS5⟩ := own_row rel_four hO5
    have HSM := Lib.hid (ysame_any (HS24.out.up hb5) (HS34.out.up hb5) (Nat.le_refl _) c2 c3 HLS.out)
    rw [alikeL_refl sameY_refl] at HSM
    have HS5 := Lib.hid hS5
    have HS45 := Lib.hid (HS4.out.up hb5)
    have HB5 := Lib.hid (HB4.out.trans (hb5.mono HB4.out.size))
    have HRL := Lib.hid (fun W (hW : Below w5.heap.size w5 W) => yrsame_any (HS45.out.up hW) (HS5.out.up hW) (Nat.le_refl _) c4 c5 HLR.out)
    rw [alikeL_refl sameR_refl] at HRL
    clear hO5 hS5 hb5 HRR HS24 HS34 HS4
    generalize L1.length = n1 at *
    generalize L2.length = n2 at *
    go_wp2_with (first
      | (go_at_call 11; refine HSM.out.mono ?_; rintro r w6 ⟨rfl, hb6⟩; have HB6 := Lib.hid hb6; clear hb6)
      | (go_at_call 12; refine (HRL.out _ HB6.out).mono ?_; rintro r w7 ⟨rfl, hb7⟩; have HB7 := Lib.hid (HB5.out.trans ((HB6.out.trans (hb7.mono HB6.out.size)).mono HB5.out.size)); clear hb7)
      | (go_at_call 6; refine (HW.out _).mono ?_; rintro r w8 ⟨rfl, hb8⟩; have HB8 := Lib.hid (HB7.out.trans (hb8.mono HB7.out.size)); clear hb8))
    go_ret
    exact ⟨rfl, HB8.out⟩
  · clear hrd hrd' hlc hlc' hcm hcm' w0 w1
    have hd : (decide ((12000 : Int) < (len0 : Int)) = true) ∨ (decide ((12000 : Int) < (len0 : Int)) = false ∧ decide ((12000 : Int) < (len1 : Int)) = true) := by
      by_cases h1 : 12000 < t.length
      · exact .inl (decide_eq_true (by omega))
      · exact .inr ⟨decide_eq_false (by omega), decide_eq_true (by omega)⟩
    clear hbig hlen hlen'
    go_enter Try.func3, Try.ntmps3
    rcases hd with d1 | ⟨d1, d2⟩
    all_goals
      go_wp2_with (go_at_call 6; refine (HW.out _).mono ?_; rintro r w8 ⟨rfl, hb8⟩; have HB8 := Lib.hid hb8; clear hb8)
      go_ret
      exact ⟨rfl, HB8.out⟩

end Go.Proofs.Ytkadjejjillmmaa
