/-
  SectsBack.
-/

import Derived.Test.YtnnemmkgjldhiaaDoorSeBd
import Derived.Test.YtnnemmkgjldhiaaDoorSeY
import Derived.Test.YtnnemmkgjldhiaaDoorSeZ
namespace Go.Proofs.YtnnemmkgjldhiaaDoor
open Go Go.RowKit

theorem SecsIn.below {w w' : World} {B : Nat} {a : Option Addr} {L : List Lay} (h : SecsIn w B a L) (hb : Below B w w') : SecsIn w' B a L :=
  ⟨fun hl => by
    obtain ⟨b, o, e, hlt, hc⟩ := h.row hl
    exact ⟨b, o, e, hlt, fun i x hx j v hv => by rw [hb.cell (p := ⟨b, o + i * 9 + j, none⟩) hlt]; exact hc i x hx j v hv⟩, fun x hx => by
    obtain ⟨h1, h2⟩ := h.rd x hx
    exact ⟨h1.below hb, h2⟩⟩
theorem own_empty_len {w : World} {base : Nat} {v : Value} (h : Own w base v []) : ∃ A c, v = .slice A 0 c := by
  obtain ⟨A, c, e, _⟩ := own_slice h
  exact ⟨A, c, e⟩

set_option maxRecDepth 10000 in
set_option maxHeartbeats 6400000 in
theorem sback_walk (kind machine : Int) (a : Option Addr) (c : Nat) (L : List Lay) (w : World) (hS : SecsIn w w.heap.size a L) (hlc : L.length ≤ c) (hM : Mg w) :
    Calls Tryd.prog 5 #[.int .i64 kind, .int .i64 machine, .slice a L.length c] w fun e w' => e = .returned (.bool true) ∧ Below w.heap.size w w' := by
  have HW := Lib.hid (sworks_any hM)
  have HM := Lib.hid hM
  have HS := Lib.hid hS
  have hMp := hM.pos
  obtain ⟨n, hn⟩ : ∃ n, L.length = n := ⟨_, rfl⟩
  have HNL := Lib.hid hn
  rw [hn] at hlc ⊢
  clear hM hS hn
  go_enter Tryd.func5, Tryd.ntmps5
  go_wp2_with fail
  refine HW.out.mono ?_
  rintro r w1 ⟨rfl, hb1⟩
  have HB1 := Lib.hid hb1
  have HBK := Lib.hid (bulk_any (HS.out.below hb1) c)
  rw [HNL.out] at HBK
  clear hb1 HW
  go_wp2_with fail
  refine HBK.out.mono ?_
  rintro r w2 ⟨k, rfl, hk, q, rfl⟩
  have HB2 := Lib.hid (below_drewN HB1.out q)
  clear HBK
  by_cases hbig : 8000 < k
  · have hd : decide ((8000 : Int) < k) = true := decide_eq_true hbig
    clear hk hbig
    go_wp2_with fail
    go_ret
    exact ⟨rfl, HB2.out⟩
  · have hd : decide ((8000 : Int) < k) = false := decide_eq_false hbig
    obtain ⟨hn8, hall⟩ := hk (by omega)
    have HSS := Lib.hid (((HS.out.below HB2.out).secs hall))
    have HALL := Lib.hid hall
    have HPU := Lib.hid (sput_any kind machine (HSS.out.more HB2.out.size) (HM.out.below HB2.out hMp) c (by rw [HNL.out]; exact hlc) (by rw [HNL.out]; omega))
    rw [HNL.out] at HPU
    clear hk hbig hall
    cases hmay : mayPut kind machine (secsOf L) with
    | false =>
      have h1 : putE kind machine (secsOf L) = 2 ∧ putR kind machine (secsOf L) = [] := by simp [putE, putR, hmay]
      rw [h1.1, h1.2] at HPU
      clear h1 hmay
      go_wp2_with fail
      refine HPU.out.mono ?_
      rintro r w3 ⟨v3, rfl, ho3, hb3⟩
      obtain ⟨A3, c3, rfl⟩ := own_empty_len ho3
      have HB3 := Lib.hid (HB2.out.trans (hb3.mono HB2.out.size))
      clear hb3 ho3
      go_wp2_with fail
      go_ret
      exact ⟨rfl, HB3.out⟩
    | true =>
      have h1 : putE kind machine (secsOf L) = 0 ∧ putR kind machine (secsOf L) = fileB kind machine (secsOf L) := by simp [putE, putR, hmay]
      rw [h1.1, h1.2] at HPU
      have hm2 := hmay
      unfold mayPut at hm2
      simp only [Bool.and_eq_true, decide_eq_true_eq] at hm2
      obtain ⟨m, z, hR⟩ := right_is hm2.1
      have hnm : n = m + 1 := by rw [← HNL.out]; have := hR.len; simpa using this
      obtain ⟨t1, ⟨o, t2⟩, t3, t4⟩ := put_take hR hm2.2 (fun s hs => by
        obtain ⟨x, hx, rfl⟩ := List.mem_map.1 hs
        have := (HS.out.rd x hx).2.2.2
        exact ⟨this.flags, this.addr, (HALL.out x hx).1⟩)
      obtain ⟨p1, p2⟩ := put_again (kind := kind) (machine := machine) hR
      have hm1 := hR.one
      have hm63 := hR.most
      obtain ⟨T, hT⟩ : ∃ T, putsT (gat ((secsOf L).map (·.name))).1 = T := ⟨_, rfl⟩
      rw [hT] at t3 p1 p2
      have hfit := secL_fits (fileB kind machine (secsOf L))
      rw [t3] at hfit
      have hpa : putE kind machine (tabled (secsOf L) T) = 0 ∧ putR kind machine (tabled (secsOf L) T) = fileB kind machine (secsOf L) := by
        have : mayPut kind machine (tabled (secsOf L) T) = true := by
          unfold mayPut
          rw [p2, decide_eq_true hm2.2.1, decide_eq_true hm2.2.2]
          rfl
        rw [putE, putR, if_pos this, if_pos this]
        exact ⟨rfl, p1⟩
      have HR := Lib.hid hR
      have HT1 := Lib.hid (And.intro t1 (And.intro t2 t3))
      have HPA := Lib.hid hpa
      have HFIT := Lib.hid hfit
      subst hnm
      clear h1 hmay hm2 hR t1 t2 t3 p1 p2 hT hfit hpa
      generalize fileB kind machine (secsOf L) = fb at *
      go_wp2_with fail
      refine HPU.out.mono ?_
      rintro r w3 ⟨v3, rfl, ho3, hb3⟩
      obtain ⟨A3, c3, rfl, hc3, _, hrd3⟩ := own_slice ho3
      have HB3 := Lib.hid (HB2.out.trans (hb3.mono HB2.out.size))
      have HO3 := Lib.hid ho3
      have HTK := Lib.hid (stake_any hrd3 c3 hc3 (by omega) (HM.out.below HB3.out hMp))
      unfold STake at HTK
      rw [HT1.out.1, HT1.out.2.1, HT1.out.2.2] at HTK
      clear ho3 hb3 hc3 hrd3 HPU
      go_wp2_with fail
      refine HTK.out.mono ?_
      rintro r w4 ⟨u4, rfl, hT4, hb4⟩
      obtain ⟨L2, A2, c2, hL2, rfl, hc2, _, hS2, _⟩ := told_secs hT4 HFIT.out
      have hl2 : L2.length = m + 1 := by
        have := congrArg List.length hL2
        rw [tabled_length] at this
        simpa [HNL.out] using this
      obtain ⟨z2, hz2⟩ : ∃ z2, L2[m]? = some z2 := ⟨L2[m]'(by omega), List.getElem?_eq_getElem _⟩
      obtain ⟨b2, o2, rfl, hb2, -, -, -, -, m4, -⟩ := hS2.at_ hz2
      have HB4 := Lib.hid (HB3.out.trans (hb4.mono HB3.out.size))
      have HS2 := Lib.hid hS2
      have HO4 := Lib.hid (own_below HO3.out hb4)
      have HL2 := Lib.hid hL2
      have HZ2 := Lib.hid hz2
      have HL2l := Lib.hid hl2
      rw [hl2] at hc2 ⊢
      clear hT4 hS2 hb4 hL2 hz2 hl2 HTK HO3
      obtain ⟨i2, hj2, hy0, hy1, hy2⟩ := info_parts sect_info
      obtain ⟨zl, hzl⟩ : ∃ zl, L[m]? = some zl := ⟨L[m]'(by rw [HNL.out]; omega), List.getElem?_eq_getElem _⟩
      have HZL := Lib.hid hzl
      clear hzl
      obtain ⟨bL, oL, rfl, hbL, hcL⟩ := HSS.out.row (by rw [HNL.out]; omega)
      have hbh : Below w4.heap.size w4 (w4.alloc (.cells #[.int .i64 kind, .int .i64 machine, .int .u64 (o : Int), .int .i64 ((m + 1 : Nat) : Int), .int .i64 (m : Int)] 26)) := (Below.refl _ _).alloc (Nat.le_refl _) _
      have hbe : Below w4.heap.size w4 ((w4.alloc (.cells #[.int .i64 kind, .int .i64 machine, .int .u64 (o : Int), .int .i64 ((m + 1 : Nat) : Int), .int .i64 (m : Int)] 26)).alloc (.cells #[] 36)) := hbh.alloc (by simp) _
      have HCL := Lib.hid (show ∀ j u, (cellsL L)[j]? = some u → ((w4.alloc (.cells #[.int .i64 kind, .int .i64 machine, .int .u64 (o : Int), .int .i64 ((m + 1 : Nat) : Int), .int .i64 (m : Int)] 26)).alloc (.cells #[] 36)).cell? ((⟨bL, oL, none⟩ : Addr).add j) = some u from fun j u hu => by
        obtain ⟨x, hx, hv⟩ := cellsL_get L j u hu
        obtain ⟨b', o', e', _, hc'⟩ := (HS.out.below HB4.out).row (by rw [HNL.out]; omega)
        cases e'
        rw [addr_add, hbe.cell (p := ⟨bL, oL + j, none⟩) (by have := HB4.out.size; show bL < _; omega)]
        have := hc' _ x hx _ u hv
        rwa [show oL + j / 9 * 9 + j % 9 = oL + j by omega] at this)
      have HOE := Lib.hid (own_empty (w4.alloc (.cells #[.int .i64 kind, .int .i64 machine, .int .u64 (o : Int), .int .i64 ((m + 1 : Nat) : Int), .int .i64 (m : Int)] 26)) w4.heap.size (by simp) 36 9)
      have H1 := Lib.hid (show ∀ u ∈ cellsL L, u.oneCell' = true from fun u hu => by
        obtain ⟨x, _, hx⟩ := List.mem_flatMap.1 hu
        exact cells_one x u hx)
      have HLN := Lib.hid (show (cellsL L).length = (m + 1) * 9 by rw [cellsL_length, HNL.out])
      have HBE := Lib.hid hbe
      have hmx : 0 + (m + 1) ≤ maxLen := by unfold maxLen; omega
      have hby : (0 + (m + 1)) * 96 ≤ 140737488355328 := by omega
      have hm0 : 0 < m + 1 := by omega
      clear hbh hbe hcL
      go_wp2_with (at_builtin; refine wpList_append_lies _ (by rfl) (.tmp 63) (.tmp 64) _ (by rfl) w4.heap.size 36 i2 _ 9 96 Tryd.underlying27 hj2 hy0 hy1 hy2 (by rfl) (by decide) (.slice (some ⟨w4.heap.size + 1, 0, none⟩) 0 0) 0 [] (by rfl) (by have := HOE.out; simpa using this) ⟨bL, oL, none⟩ (m + 1) c (cellsL L) (by rfl) HLN.out HCL.out H1.out hm0 hmx hby (by simp; omega) _ rfl ?_; intro g5 cap5 w5 hown5 hg5 hat5 hlt5; rw [Nat.zero_add, List.nil_append] at hown5; have hon5 := row_turns (by have := HOE.out; simpa using this) hg5 (by simp; omega); have hB45 : Below w4.heap.size w4 w5 := HBE.out.trans hon5.1; have m45 := m4; rw [← hB45.cell (p := ⟨b2, o2 + m * 9 + 4, none⟩) hb2] at m45; have hcell5 := World.ownsRow.cellAt (g := g5) (cap := cap5) hown5 (m * 9 + 4) (by omega); rw [cellsL_at L m zl 4 _ HZL.out rfl, show zl.dv = .slice zl.A zl.s.data.length zl.c from rfl] at hcell5; have hfree5 := World.ownsRow.frozenAt (g := g5) (cap := cap5) hown5 (m * 9 + 4); clear hg5 hat5 hon5)
      have hL5 : OwnL w5 w4.heap.size (.slice (some ⟨g5, 0, none⟩) L.length cap5) L := by rw [OwnL, HNL.out]; exact hown5
      obtain ⟨hL6, hg6⟩ := ownl_last hL5 HZL.out ⟨{ zl.s with data := z2.s.data }, z2.A, z2.c⟩ rfl
      rw [show Lay.dv ⟨{ zl.s with data := z2.s.data }, z2.A, z2.c⟩ = .slice z2.A z2.s.data.length z2.c from rfl] at hL6 hg6
      have hon6 := row_turns hL5 hg6 hB45.size
      have hB46 : Below w4.heap.size w4 _ := hB45.trans hon6.1
      have HS6 := Lib.hid (HS2.out.below hB46)
      have hsz6 : w4.heap.size ≤ (w5.setCell ⟨g5, m * 9 + 4, none⟩ (.slice z2.A z2.s.data.length z2.c)).heap.size := hB46.size
      have hP6 := sput_any kind machine (HS6.out.more hsz6) ((HM.out.below HB4.out hMp).below hB46 (by have := HB4.out.size; omega)) c2 (by rw [HL2l.out]; exact hc2) (by rw [HL2l.out]; omega)
      rw [HL2.out, HPA.out.1, HPA.out.2, HL2l.out] at hP6
      have HP6 := Lib.hid hP6
      have HO6 := Lib.hid (own_below HO4.out hB46)
      have HL6 := Lib.hid hL6
      have HB6 := Lib.hid (HB4.out.trans (hB46.mono HB4.out.size))
      have HOK6 := Lib.hid (show ∀ x ∈ L.set m ⟨{ zl.s with data := z2.s.data }, z2.A, z2.c⟩, x.Ok (w5.setCell ⟨g5, m * 9 + 4, none⟩ (.slice z2.A z2.s.data.length z2.c)) (w5.setCell ⟨g5, m * 9 + 4, none⟩ (.slice z2.A z2.s.data.length z2.c)).heap.size from by
        intro x hx
        rcases List.mem_or_eq_of_mem_set hx with hx | rfl
        · have h1 := ((HSS.out.ok x hx))
          exact ⟨((HS.out.below HB6.out).rd x hx).1.more (Nat.le_trans HB4.out.size hsz6), h1.le, h1.cap, h1.fits⟩
        · have h1 := (HS6.out.get HZ2.out)
          have h2 := (HSS.out.get HZL.out).fits
          exact ⟨h1.rd.more hsz6, h1.le, h1.cap, ⟨h2.kind, h2.link, h2.inf, h2.algn, h2.ent, h2.flags, h2.addr, h1.fits.data, h2.name⟩⟩)
      have hSame : secsOf (L.set m ⟨{ zl.s with data := z2.s.data }, z2.A, z2.c⟩) = tabled (secsOf L) T := by
        have hzl := get_secsOf HZL.out
        have hd2 : z2.s.data = T := by
          have h1 := get_secsOf HZ2.out
          rw [HL2.out, tabled_get HR.out.len HR.out.last, if_pos rfl] at h1
          injection h1 with h1
          rw [← h1]
        rw [hd2]
        exact tabled_set (t := T) (by rw [HNL.out]) HZL.out rfl
      have HSA := Lib.hid hSame
      clear hL5 hL6 hg6 hon6 hB46 hP6 hSame hown5 hcell5 hfree5 m45 hB45 HOE HCL
      generalize hw6 : w5.setCell ⟨g5, m * 9 + 4, none⟩ (.slice z2.A z2.s.data.length z2.c) = w6 at *
      refine HP6.out.mono ?_
      rintro r w7 ⟨v7, rfl, ho7, hb7⟩
      obtain ⟨A7, c7, rfl, _, _, _⟩ := own_slice ho7
      have HO7 := Lib.hid ho7
      have HB7 := Lib.hid (HB6.out.trans (hb7.mono HB6.out.size))
      obtain ⟨A8, c8, e8, _, _, hS8⟩ := ownl_secs (row_below HL6.out hb7) (fun x hx => ((HOK6.out x hx).below hb7).more hb7.size)
      injection e8 with e81 e82 e83
      subst e81 e83
      have hSm := rsame_any ((HS6.out.below (hb7.mono hsz6)).more (Nat.le_trans hsz6 hb7.size)) hS8 (Nat.le_refl _) c2 cap5 (by rw [HL2l.out]; omega)
      rw [HL2.out, HSA.out, sameAll_refl, HL2l.out, List.length_set, HNL.out] at hSm
      have HSm := Lib.hid hSm
      have HO67 := Lib.hid (own_below HO6.out hb7)
      clear hb7 ho7 hS8 hSm HP6 HO6 HL6 HOK6 HS6
      go_wp2_with fail
      refine HSm.out.mono ?_
      rintro r w8 ⟨rfl, hb8⟩
      have hc7 := conv_own (own_below HO7.out hb8)
      have hc3 := conv_own (own_below HO67.out hb8)
      have HB8 := Lib.hid (HB7.out.trans (hb8.mono HB7.out.size))
      clear hb8 HSm HO7 HO67
      generalize ByteArray.mk fb.toArray = sb at *
      have hq : (sb.toList == sb.toList) = true := by simp
      go_wp2_with fail
      go_ret
      exact ⟨rfl, HB8.out⟩

end Go.Proofs.YtnnemmkgjldhiaaDoor
