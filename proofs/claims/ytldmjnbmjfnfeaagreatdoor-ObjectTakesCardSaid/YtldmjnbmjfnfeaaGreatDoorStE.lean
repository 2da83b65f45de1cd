/-
  The document's Take of sections: a file whose header may be.
-/
import Derived.Test.YtldmjnbmjfnfeaaGreatDoorStD
import Derived.Test.YtldmjnbmjfnfeaaGreatDoorSeZ
import Derived.Deep.CutBlock
namespace Go.Proofs.YtldmjnbmjfnfeaaGreatDoor
open Go Go.RowKit

theorem ownu_cell {w : World} {base g n c : Nat} {l : List Nat} (h : OwnU w base (.slice (some ⟨g, 0, none⟩) n c) l) {j x : Nat} (hj : l[j]? = some x) : w.cell? ⟨g, j, none⟩ = some (.int .u64 (x : Int)) := by
  obtain ⟨A, c', e, hx⟩ := ownu_at h
  have hl := (List.getElem?_eq_some_iff.1 hj).1
  obtain ⟨g', e2, _, hc⟩ := hx (by omega)
  injection e with e1 _ _
  rw [e2] at e1
  injection e1 with e1
  injection e1 with e1 _ _
  rw [e1]
  exact hc j x hj

set_option maxRecDepth 10000 in
set_option maxHeartbeats 12800000 in
theorem rstake_good {w : World} {A : Option Addr} {l : List UInt8} (hr : Rd w w.heap.size A l) (c : Nat) (hlc : l.length ≤ c) (hcm : c ≤ maxLen) (hbig : ¬ 1048576 < l.length) (hte : takeE l = 0) :
    Calls Tryz.prog 23 #[.slice A l.length c] w (RSTake l w) := by
  obtain ⟨i0, hi, hz0, hz1, hz2⟩ := info_parts u64_info
  obtain ⟨i2, hj2, hy0, hy1, hy2⟩ := info_parts sect_info
  have hl : l.length ≤ 140737488355328 := by omega
  have hXR := Box.new w 64 #[.int .i64 0, .int .i64 0, .int .u64 0, .int .i64 0, .int .i64 0]
  have hb0 : Below w.heap.size w ((w.alloc (.cells #[.int .i64 0, .int .i64 0, .int .u64 0, .int .i64 0, .int .i64 0] 64)).alloc (.cells #[.int .i64 0, .int .i64 0, .int .u64 0, .int .i64 0, .int .i64 0] 64)) := ((Below.refl _ _).alloc (Nat.le_refl _) _).alloc (by simp) _
  have HXR0 := Lib.hid (box_keep hXR (.cells #[.int .i64 0, .int .i64 0, .int .u64 0, .int .i64 0, .int .i64 0] 64))
  have HN0 := Lib.hid (show Box ((w.alloc (.cells #[.int .i64 0, .int .i64 0, .int .u64 0, .int .i64 0, .int .i64 0] 64)).alloc (.cells #[.int .i64 0, .int .i64 0, .int .u64 0, .int .i64 0, .int .i64 0] 64)) (w.heap.size + 1) 64 #[.int .i64 0, .int .i64 0, .int .u64 0, .int .i64 0, .int .i64 0] by simpa using Box.new (w.alloc (.cells #[.int .i64 0, .int .i64 0, .int .u64 0, .int .i64 0, .int .i64 0] 64)) 64 #[.int .i64 0, .int .i64 0, .int .u64 0, .int .i64 0, .int .i64 0])
  have hd : decide ((1048576 : Int) < (l.length : Int)) = false := decide_eq_false (by omega)
  have HTK := Lib.hid (rtake_any (hr.below hb0) hb0.size c hlc hl)
  obtain ⟨hn1, hn, hs1, hsn, hin, _, _, hH⟩ := take_facts hte
  unfold TakeIs at HTK
  rw [hH, hte] at HTK
  have HE1 := Lib.hid (show secE l = if errUp l (offT l) (cntT l) ≠ 0 then errUp l (offT l) (cntT l) else tellE l (offT l) (cntT l) (shsT l) by unfold secE; rw [if_neg hbig, if_neg (by simp [hte])])
  have HSH := Lib.hid (show secE l = 0 → secH l = hdV (numT (l.take 64) 16 2 : Int) (numT (l.take 64) 18 2 : Int) (offT l) (cntT l : Int) (shsT l : Int) from fun h => by unfold secH; rw [if_pos h, hH])
  have HSL := Lib.hid (show secE l = 0 → secL l = secsT l (offT l) (cntT l) (shsT l) from fun h => by unfold secL; rw [if_pos h])
  have HBAD := Lib.hid (fun e (h : secE l = e) (he : e ≠ 0) => sec_bad h he)
  have HFIT := Lib.hid (secL_fits l)
  have HB0 := Lib.hid hb0
  have HRD := Lib.hid hr
  have HIN := Lib.hid hin
  have HLC := Lib.hid hlc
  have HCM := Lib.hid hcm
  have HL := Lib.hid hl
  unfold RSTake
  clear hXR hb0 hH hte hr hin hlc hcm
  generalize secE l = se at *
  generalize secH l = sh at *
  generalize secL l = sl at *
  generalize numT (l.take 64) 16 2 = y0 at *
  generalize numT (l.take 64) 18 2 = y1 at *
  generalize offT l = off at *
  generalize cntT l = n at *
  generalize shsT l = s at *
  have hoff : off ≤ l.length := by have := HIN.out; omega
  have e1 := IntWalk.i64_in (off : Int) (by omega)
  generalize hln : l.length = ln at *
  have HLN := Lib.hid hln
  clear hln hbig
  go_enter Tryz.func23, Tryz.ntmps23
  go_wp2_with (go_at_call 52; refine HTK.out.mono ?_; rintro r w1 ⟨rfl, hb1⟩; have HB1 := Lib.hid (HB0.out.trans (hb1.mono HB0.out.size)); have HX1 := Lib.hid (HXR0.out.below hb1 HXR0.out.lt); have HN1 := Lib.hid (HN0.out.below hb1 HN0.out.lt); clear hb1 HTK)
  have hb3 : Below w1.heap.size w1 ((w1.alloc (.cells #[.int .i64 (y0 : Int), .int .i64 (y1 : Int), .int .u64 (off : Int), .int .i64 (n : Int), .int .i64 (s : Int)] 64)).alloc (.cells #[.slice A ln c, .int .i64 (off : Int), .int .i64 0] 105)) := ((Below.refl _ _).alloc (Nat.le_refl _) _).alloc (by simp) _
  have HH3 := Lib.hid (box_keep (Box.new w1 64 #[.int .i64 (y0 : Int), .int .i64 (y1 : Int), .int .u64 (off : Int), .int .i64 (n : Int), .int .i64 (s : Int)]) (.cells #[.slice A ln c, .int .i64 (off : Int), .int .i64 0] 105))
  have hC3 : Box ((w1.alloc (.cells #[.int .i64 (y0 : Int), .int .i64 (y1 : Int), .int .u64 (off : Int), .int .i64 (n : Int), .int .i64 (s : Int)] 64)).alloc (.cells #[.slice A ln c, .int .i64 (off : Int), .int .i64 0] 105)) (w1.heap.size + 1) 105 #[.slice A ln c, .int .i64 (off : Int), .int .i64 0] := by simpa using Box.new (w1.alloc (.cells #[.int .i64 (y0 : Int), .int .i64 (y1 : Int), .int .u64 (off : Int), .int .i64 (n : Int), .int .i64 (s : Int)] 64)) 105 #[.slice A ln c, .int .i64 (off : Int), .int .i64 0]
  have HB3 := Lib.hid (HB1.out.trans (hb3.mono HB1.out.size))
  have HX3 := Lib.hid (HX1.out.below hb3 HX1.out.lt)
  have HN3 := Lib.hid (HN1.out.below hb3 HN1.out.lt)
  have hws1 := HB1.out.size
  have HS3 := Lib.hid (show TkSt w ((w1.alloc (.cells #[.int .i64 (y0 : Int), .int .i64 (y1 : Int), .int .u64 (off : Int), .int .i64 (n : Int), .int .i64 (s : Int)] 64)).alloc (.cells #[.slice A ln c, .int .i64 (off : Int), .int .i64 0] 105)) (w1.heap.size + 1) (.slice A ln c) (.slice none 0 0) (.slice none 0 0) [] l off 0 from
    ⟨⟨by simpa using hC3, ⟨A, c, by rw [HLN.out], by rw [HLN.out]; exact HLC.out, HCM.out, HRD.out.below HB3.out⟩, by rw [HLN.out]; omega, by omega⟩, World.ownsRow_nil _ _ _ _, rfl, (fun x hx => by cases hx), World.ownsRow_nil _ _ _ _⟩)
  clear hb3 hC3 HB0 HXR0 HN0 HX1 HN1 HB1
  generalize (w1.alloc (.cells #[.int .i64 (y0 : Int), .int .i64 (y1 : Int), .int .u64 (off : Int), .int .i64 (n : Int), .int .i64 (s : Int)] 64)).alloc (.cells #[.slice A ln c, .int .i64 (off : Int), .int .i64 0] 105) = w3 at *
  generalize w1.heap.size = H at *
  go_loopg [9, 10, 11, 12] n (fun gk u ua f i wr => ∃ (k : Nat) (L : List Lay), k ≤ n ∧ gk = n - k ∧ i = .int .i64 k ∧ f = .bool (firstZ l off k) ∧ Hid (errUp l off k = 0) ∧ TkSt w wr (H + 1) (.slice A ln c) u ua L l off k ∧ Only w.heap.size TakeObj w3 wr)
  case atStart => exact ⟨0, [], Nat.zero_le _, rfl, rfl, rfl, Lib.hid rfl, HS3.out, Only.refl _ _ _⟩
  case round =>
    obtain ⟨k, L, hk, rfl, rfl, rfl, HER, hSt, hOn⟩ := hrel
    clear HS3
    have hH := hOn.2 _ _ HH3.out (fun hh => by revert hh; show ¬ (_ ∨ _ ∨ _); decide)
    have h3 : wr.cell? ⟨H, 3, none⟩ = some (.int .i64 (n : Int)) := (show Box wr H 64 _ from hH).cell 3
    by_cases hlt : k < n
    · have hin2 : off + 64 * k + 64 ≤ l.length := by have := HIN.out; rw [HLN.out]; omega
      have HEN := Lib.hid (rentry_any hSt.cur (by rw [HLN.out]; exact HL.out) hin2)
      have HSt := Lib.hid hSt
      have HOn := Lib.hid hOn
      have HLT := Lib.hid hlt
      have hLl := hSt.len
      generalize hfz : firstZ l off k = fz at *
      have HFZ := Lib.hid hfz
      clear hSt hOn hH hin2 hfz
      go_wp2_with fail
      refine HEN.out.mono ?_
      rintro r w4 ⟨ux, rfl, hux, hR4, hG4⟩
      obtain ⟨ns, hns⟩ : ∃ ns, entN l (off + 64 * k) = ns := ⟨_, rfl⟩
      have hnl : ns.length = 10 := by rw [← hns]; rfl
      rw [hns] at hux
      obtain ⟨Ax, cx, rfl, hxc⟩ := ownu_at hux
      obtain ⟨gx, rfl, hgx, hcell⟩ := hxc (by omega)
      have hwr := HOn.out.1.size
      have hws3 := HB3.out.size
      have hO4 : Only w.heap.size TakeObj wr w4 := Only.row (g := H + 1) hG4 HSt.out.cur.1 (Or.inl rfl) HSt.out.cur.2.2.2
      have HUX := Lib.hid hux
      have hEA : EntAt w4 gx 0 ns := ⟨hnl, fun j x hx => by rw [Nat.zero_add]; exact hcell j x hx⟩
      have HSE := Lib.hid (rsection_any (B := w.heap.size) (HRD.out.below (HB3.out.trans (HOn.out.trans hO4).1)) c (by rw [HLN.out]; exact HLC.out) HCM.out (by rw [HLN.out]; exact HL.out) (cx := cx) hEA (by rw [← hns]; exact entN_lt l _))
      unfold SecIs at HSE
      rw [HLN.out] at HSE
      have HOW := Lib.hid hO4
      have HG4s := Lib.hid hG4.size
      have HEA := Lib.hid hEA
      have HR4 := Lib.hid hR4
      have HNL := Lib.hid hnl
      have HNS := Lib.hid hns
      have HOL4 := Lib.hid (row_only HSt.out.out (Only.row (base := w.heap.size) (bad := CellsOf 105) (g := H + 1) hG4 HSt.out.cur.1 rfl HSt.out.cur.2.2.2) (fun cs f hh => absurd (show 39 = 105 from hh) (by decide)))
      have HOU4 := Lib.hid (row_only HSt.out.ats (Only.row (base := w.heap.size) (bad := CellsOf 105) (g := H + 1) hG4 HSt.out.cur.1 rfl HSt.out.cur.2.2.2) (fun cs f hh => absurd (show 37 = 105 from hh) (by decide)))
      have HKL4 := Lib.hid (HSt.out.keep.only (Only.row (base := w.heap.size) (bad := CellsOf 105) (g := H + 1) hG4 HSt.out.cur.1 rfl HSt.out.cur.2.2.2) (fun cs f hh => absurd (show 5 = 105 from hh) (by decide)))
      have HSECS := Lib.hid HSt.out.secs
      clear HEN HSt hux hR4 hG4 hns hO4 hEA hcell hxc
      rw [hnl]
      go_wp2_with fail
      refine HSE.out.mono ?_
      rintro r w5 ⟨y, rfl, hy, hb5⟩
      obtain ⟨⟨nm, kd, fl, ad, dt, lk, inf, al, ec⟩, A5, c5⟩ := y
      rw [show Lay.val ⟨⟨nm, kd, fl, ad, dt, lk, inf, al, ec⟩, A5, c5⟩ = .agg #[.string ⟨nm.toArray⟩, .int .i64 kd, .int .u64 (fl : Int), .int .u64 (ad : Int), .slice A5 dt.length c5, .int .i64 lk, .int .i64 inf, .int .i64 al, .int .i64 ec] from rfl]
      obtain ⟨e, he⟩ : ∃ e, entE ns ln = e := ⟨_, rfl⟩
      have HERk := Lib.hid (show errUp l off (k + 1) = e by rw [errUp, if_neg (by simp [HER.out]), HNS.out, HLN.out, he])
      rw [he] at hy ⊢
      have HO5 := Lib.hid (HOn.out.trans (HOW.out.trans (Only.below (bad := TakeObj) hb5 (Nat.le_trans (Nat.le_trans hws3 hwr) HOW.out.1.size))))
      have HB5 := Lib.hid hb5
      have HX5 := Lib.hid (show Box w5 w.heap.size 64 _ from HO5.out.2 _ _ HX3.out (fun hh => by revert hh; show ¬ (_ ∨ _ ∨ _); decide))
      have HN5 := Lib.hid (show Box w5 (w.heap.size + 1) 64 _ from HO5.out.2 _ _ HN3.out (fun hh => by revert hh; show ¬ (_ ∨ _ ∨ _); decide))
      clear hb5 he HOW HSE
      by_cases he0 : e = 0
      · have q0 : (e != 0) = false := by simp [he0]
        obtain ⟨hys, hykeep, hyle, hycm⟩ := hy he0
        have HYS := Lib.hid hys
        have HYK := Lib.hid (And.intro hykeep (And.intro hyle hycm))
        have HERk0 := Lib.hid (show errUp l off (k + 1) = 0 from HERk.out.trans he0)
        have hb6 : Below w5.heap.size w5 (w5.alloc (.cells #[.string ⟨nm.toArray⟩, .int .i64 kd, .int .u64 (fl : Int), .int .u64 (ad : Int), .slice A5 dt.length c5, .int .i64 lk, .int .i64 inf, .int .i64 al, .int .i64 ec] 39)) := (Below.refl _ _).alloc (Nat.le_refl _) _
        have HY6 := Lib.hid (Box.new w5 39 #[.string ⟨nm.toArray⟩, .int .i64 kd, .int .u64 (fl : Int), .int .u64 (ad : Int), .slice A5 dt.length c5, .int .i64 lk, .int .i64 inf, .int .i64 al, .int .i64 ec])
        have HR6 := Lib.hid ((HR4.out.below HB5.out).below hb6)
        have HUX6 := Lib.hid (row_below (row_below HUX.out HB5.out) hb6)
        have HOL6 := Lib.hid (row_below (row_below HOL4.out HB5.out) hb6)
        have HOU6 := Lib.hid (row_below (row_below HOU4.out HB5.out) hb6)
        have HB56 := Lib.hid (HB5.out.trans (hb6.mono HB5.out.size))
        have HB65 := Lib.hid hb6
        have HO6 := Lib.hid (HO5.out.then_ hb6 (Nat.le_trans hws3 (by exact Nat.le_refl _)))
        clear hy hys hykeep hyle hycm he0 hb6 HR4 HUX HOL4 HOU4 HX5 HN5
        go_upto_block 2 with fail
        generalize w5.alloc (.cells #[.string ⟨nm.toArray⟩, .int .i64 kd, .int .u64 (fl : Int), .int .u64 (ad : Int), .slice A5 dt.length c5, .int .i64 lk, .int .i64 inf, .int .i64 al, .int .i64 ec] 39) = w6 at *
        have HFN := Lib.hid (show k ≠ 0 → firstZ l off (k + 1) = fz from fun h => by rw [← HFZ.out]; unfold firstZ; rw [if_neg (by omega), if_neg h])
        have HF0 := Lib.hid (show k = 0 → fz = true ∧ firstZ l off (k + 1) = ns.all fun x => decide (x = 0) from fun h => by
          refine ⟨by rw [← HFZ.out]; unfold firstZ; rw [if_pos h], ?_⟩
          unfold firstZ
          rw [if_neg (by omega), all_zero ns HNL.out, ← HNS.out, h]
          rfl)
        go_cut [11] (fun f wx => f = .bool (firstZ l off (k + 1)) ∧ w6 = wx)
        case first =>
          go_wp2_with fail
          go_loopg [11, 16] 10 (fun gk f t wx => ∃ j : Nat, j ≤ 10 ∧ gk = 10 - j ∧ t = .int .i64 j ∧ (∃ b : Bool, f = .bool b ∧ Hid (b = if k = 0 then (ns.take j).all (fun x => decide (x = 0)) else fz)) ∧ (k = 0 ∨ j = 0) ∧ w6 = wx)
          case atStart => exact ⟨0, Nat.zero_le _, rfl, rfl, ⟨fz, rfl, Lib.hid (by
            by_cases h : k = 0
            · rw [if_pos h, (HF0.out h).1]; rfl
            · rw [if_neg h])⟩, .inr rfl, rfl⟩
          case round =>
            obtain ⟨j, hj, rfl, rfl, ⟨bj, rfl, HBJ⟩, hkj, rfl⟩ := hrel
            by_cases hk0 : k = 0
            · have qk : ((k : Int) == 0) = true := by simp [hk0]
              by_cases hjl : j < 10
              · obtain ⟨x, hx⟩ : ∃ x, ns[j]? = some x := ⟨ns[j]'(by rw [HNL.out]; exact hjl), List.getElem?_eq_getElem _⟩
                have cx0 := ownu_cell HUX6.out hx
                obtain ⟨bx, hbx⟩ : ∃ bx, decide (x = 0) = bx := ⟨_, rfl⟩
                have q2 : ((x : Int) == 0) = bx := by rw [← hbx]; exact nat_beq x 0
                have HNX := Lib.hid (show (bj && bx) = if k = 0 then (ns.take (j + 1)).all (fun x => decide (x = 0)) else fz by
                  have h1 := HBJ.out
                  rw [if_pos hk0] at h1 ⊢
                  rw [List.take_add_one, hx, h1, ← hbx]
                  simp)
                have d1 : decide ((j : Int) < 10) = true := decide_eq_true (by omega)
                have HK0 := Lib.hid hk0
                clear hx hbx hkj hk0
                cases bj with
                | true =>
                  go_wp2_with fail
                  go_roundg (10 - (j + 1))
                  case measure => omega
                  case rel => exact ⟨j + 1, hjl, rfl, by go_num, ⟨bx, rfl, Lib.hid (by simpa using HNX.out)⟩, .inl HK0.out, rfl⟩
                | false =>
                  go_wp2_with fail
                  go_roundg (10 - (j + 1))
                  case measure => omega
                  case rel => exact ⟨j + 1, hjl, rfl, by go_num, ⟨false, rfl, Lib.hid (by simpa using HNX.out)⟩, .inl HK0.out, rfl⟩
              · have hj10 : j = 10 := by omega
                have HF := Lib.hid (show firstZ l off (k + 1) = bj by
                  have h1 := HBJ.out
                  rw [if_pos hk0, hj10, List.take_of_length_le (by rw [HNL.out]; exact Nat.le_refl _)] at h1
                  rw [(HF0.out hk0).2, h1])
                have d1 : decide ((j : Int) < 10) = false := decide_eq_false (by omega)
                clear hkj hk0 hjl
                go_wp2_with fail
                go_meet
                exact ⟨by rw [HF.out], rfl⟩
            · have hj0 : j = 0 := hkj.resolve_left hk0
              have qk : ((k : Int) == 0) = false := by simp; omega
              have HF := Lib.hid (show firstZ l off (k + 1) = bj by
                have h1 := HBJ.out
                rw [if_neg hk0] at h1
                rw [HFN.out hk0, h1])
              have d1 : decide ((j : Int) < 10) = true := decide_eq_true (by omega)
              clear hkj hk0 hj0
              go_wp2_with fail
              go_meet
              exact ⟨by rw [HF.out], rfl⟩
        case rest =>
          obtain ⟨rfl, rfl⟩ := hcut
          have h63 : k + 1 ≤ maxLen := by unfold maxLen; omega
          have H63 := Lib.hid h63
          have HBY := Lib.hid (show (k + 1) * 96 ≤ 140737488355328 by omega)
          have HBY2 := Lib.hid (show (k + 1) * 8 ≤ 140737488355328 by omega)
          have HZ6 := Lib.hid (show w.heap.size ≤ w6.heap.size from HO6.out.1.size |> Nat.le_trans hws3)
          have HLl := Lib.hid hLl
          rw [hLl] at HOL6
          have hal := atsZ_length l off k
          rw [hal] at HOU6
          have HAL := Lib.hid hal
          have hY := HY6.out
          obtain ⟨x0, x1, x2, x3, x4, x5, x6, x7, x8⟩ := nine_cells hY
          have HNM := Lib.hid (show ∃ p, ns[0]? = some p ∧ nameN ns = p from by
            obtain ⟨p, hp⟩ : ∃ p, ns[0]? = some p := ⟨ns[0]'(by rw [HNL.out]; decide), List.getElem?_eq_getElem _⟩
            exact ⟨p, hp, by unfold nameN; rw [List.getD_eq_getElem?_getD, hp]; rfl⟩)
          clear hY h63 hal hLl
          obtain ⟨fz1, hf1⟩ : ∃ b, firstZ l off (k + 1) = b := ⟨_, rfl⟩
          rw [hf1]
          have HF1 := Lib.hid hf1
          clear hf1
          obtain ⟨p0, hp0, hnm0⟩ := HNM.out
          have HNMp := Lib.hid hnm0
          have HP0 := Lib.hid hp0
          clear hp0 hnm0
          go_wp2_with (first
            | (at_builtin; refine wpList_append_lies _ (by rfl) (.tmp 74) (.tmp 76) _ (by rfl) w.heap.size 39 i2 _ 9 96 Tryz.underlying24 hj2 hy0 hy1 hy2 (by rfl) (by decide) u9 k (cellsL L) (by rfl) (HOL6.out.alloc _) ⟨w6.heap.size, 0, none⟩ 1 1 (Lay.cells ⟨⟨nm, kd, fl, ad, dt, lk, inf, al, ec⟩, A5, c5⟩) (by rfl) rfl (fun j u h => cells_at ⟨⟨nm, kd, fl, ad, dt, lk, inf, al, ec⟩, A5, c5⟩ w6 _ j u h) (cells_one _) (by decide) H63.out HBY.out (by simp; exact Nat.le_succ_of_le HZ6.out) _ rfl ?_; intro g8 cap8 w8 hown8 hg8 hat8 hlt8; have HG8 := Lib.hid hg8; have HOW8 := Lib.hid hown8; have hon8 := row_turns (HOL6.out.alloc _) hg8 (by simp; exact Nat.le_succ_of_le HZ6.out); have HON8 := Lib.hid ((Only.alloc (Only.refl _ _ _) HZ6.out _).trans hon8); have HUX8 := Lib.hid (row_only HUX6.out HON8.out (fun cs f hh => absurd (show 37 = 39 from hh) (by decide))); have HOU8 := Lib.hid (row_only HOU6.out HON8.out (fun cs f hh => absurd (show 37 = 39 from hh) (by decide))); have cg := ownu_cell HUX8.out HP0.out; clear hg8 hown8 hat8 hlt8 hon8)
            | (at_builtin; refine wpList_append_own_at _ (by rfl) (.tmp 78) (.tmp 82) _ (by rfl) w.heap.size 37 i0 (.int .u64 0) 1 8 Tryz.underlying106 hi hz0 hz1 hz2 rfl (by decide) u10 k (placeV (atsZ l off k)) (by rfl) (HOU8.out.alloc _) ⟨w8.heap.size, 0, none⟩ 1 1 [.int .u64 (p0 : Int)] (by rfl) rfl (cell_one_new _ _ _) (by simp [Value.oneCell']) H63.out HBY2.out (by have := HON8.out.1.size; have := HZ6.out; simp; omega) ?_; intro v9 w9 hown9 hg9 hn9 hat9; clear hn9))
          have hz8 : w.heap.size ≤ w8.heap.size := Nat.le_trans HZ6.out HON8.out.1.size
          have hon9 := row_turns (HOU8.out.alloc (.cells #[.int .u64 (p0 : Int)] 37)) hg9 (by simp; omega)
          have ho89 := (Only.alloc (Only.refl _ _ w8) hz8 (.cells #[.int .u64 (p0 : Int)] 37)).trans hon9
          have hT89 := take_nums ho89
          have hT68 := take_sect HON8.out
          have hS9 : TkSt w w9 (H + 1) (.slice A ln c) (.slice (some ⟨g8, 0, none⟩) (k + 1) cap8) v9 (L ++ [⟨⟨nm, kd, fl, ad, dt, lk, inf, al, ec⟩, A5, c5⟩]) l off (k + 1) := by
            refine ⟨?_, ?_, ?_, ?_, ?_⟩
            · have h1 := (HR6.out.only HON8.out (fun cs f hh => absurd (show 105 = 39 from hh) (by decide))).only ho89 (fun cs f hh => absurd (show 105 = 37 from hh) (by decide))
              rwa [show off + 64 * k + 64 = off + 64 * (k + 1) by omega] at h1
            · have h1 : OwnL w8 w.heap.size (.slice (some ⟨g8, 0, none⟩) (k + 1) cap8) (L ++ [⟨⟨nm, kd, fl, ad, dt, lk, inf, al, ec⟩, A5, c5⟩]) := by
                rw [OwnL, cellsL_append, List.length_append, HLl.out, show cellsL [(⟨⟨nm, kd, fl, ad, dt, lk, inf, al, ec⟩, A5, c5⟩ : Lay)] = Lay.cells ⟨⟨nm, kd, fl, ad, dt, lk, inf, al, ec⟩, A5, c5⟩ by simp [cellsL]]
                exact HOW8.out
              exact row_only h1 ho89 (fun cs f hh => absurd (show 39 = 37 from hh) (by decide))
            · rw [secsZ_next, ← HSECS.out, HNS.out, ← HYS.out]
              simp [secsOf]
            · have h4 : Only w.heap.size TakeObj w4 w9 := ((Only.below (bad := TakeObj) HB56.out (Nat.le_trans (Nat.le_trans hws3 hwr) HG4s.out)).trans hT68).trans hT89
              intro x hx
              rcases List.mem_append.1 hx with hx | hx
              · exact (HKL4.out.only h4 (fun cs f hh => by revert hh; show ¬ (_ ∨ _ ∨ _); decide)) x hx
              · rw [List.mem_singleton.1 hx]
                refine ⟨?_, HYK.out.2⟩
                have h5 : Only w.heap.size TakeObj w5 w9 := ((Only.below (bad := TakeObj) (HB65.out) (Nat.le_trans (Nat.le_trans (Nat.le_trans hws3 hwr) HG4s.out) HB5.out.size)).trans hT68).trans hT89
                exact HYK.out.1.imp (fun h => h.below h4.1) (fun h => row_only (own_up h (Nat.le_trans (Nat.le_trans hws3 hwr) HG4s.out)) h5 (fun cs f hh => by revert hh; show ¬ (_ ∨ _ ∨ _); decide))
            · rw [OwnU, atsZ_next, HNS.out, HNMp.out, placeV_append, List.length_append, HAL.out]
              exact hown9
          have HS9 := Lib.hid hS9
          have HO9 := Lib.hid ((HO6.out.trans hT68).trans hT89)
          clear hS9 hT89 hT68 ho89 hon9 hown9 hg9 hat9
          go_wp2_with fail
          go_roundg (n - (k + 1))
          case measure => have := HLT.out; omega
          case rel => exact ⟨k + 1, _, HLT.out, rfl, by go_num, by rw [HF1.out], HERk0, HS9.out, HO9.out⟩
      · have q0 : (e != 0) = true := by simpa using he0
        have hse : se = e := by
          have h1 := errUp_stays (l := l) (off := off) (k := k + 1) (by rw [HERk.out]; exact he0) n HLT.out
          rw [HE1.out, if_pos (by rw [h1, HERk.out]; exact he0), h1, HERk.out]
        obtain ⟨hH1, hL1⟩ := HBAD.out e hse he0
        have HF := Lib.hid (And.intro hse (And.intro hH1 hL1))
        have hX5 := HX5.out
        have hN5 := HN5.out
        have r0 := hX5.cell 0
        have r1 := hX5.cell 1
        have r2 := hX5.cell 2
        have r3 := hX5.cell 3
        have r4 := hX5.cell 4
        have n0 := hN5.cell 0
        have n1 := hN5.cell 1
        have n2 := hN5.cell 2
        have n3 := hN5.cell 3
        have n4 := hN5.cell 4
        simp at r0 r1 r2 r3 r4 n0 n1 n2 n3 n4
        have f0 := hX5.free 0
        have f1 := hX5.free 1
        have f2 := hX5.free 2
        have f3 := hX5.free 3
        have f4 := hX5.free 4
        have hlt5 := hX5.lt
        have hlt6 := hN5.lt
        have HB5w := Lib.hid (HB3.out.trans HO5.out.1)
        clear hy he0 hse hH1 hL1 hX5 hN5 HN5
        go_wp2_with fail
        have hb6 := five_box HX5.out (.int .i64 0) (.int .i64 0) (.int .u64 0) (.int .i64 0) (.int .i64 0)
        have HZ6 := Lib.hid (hb6.below ((Below.refl _ _).alloc (Nat.le_refl _) (.cells #[.string ⟨nm.toArray⟩, .int .i64 kd, .int .u64 (fl : Int), .int .u64 (ad : Int), .slice A5 dt.length c5, .int .i64 lk, .int .i64 inf, .int .i64 al, .int .i64 ec] 39)) hb6.lt)
        refine ret_three Tryz.underlying64 Tryz.results23 HZ6.out (by kernel_rfl) (by rfl) rfl ?_
        exact ⟨none, 0, [], by rw [HF.out.1, HF.out.2.1]; rfl, by rw [HF.out.2.2]; rfl, secs_nil _ _, Nat.le_refl _, (five_below HB5w.out (Nat.le_refl _) _ _ _ _ _).alloc (Nat.le_of_lt hb6.lt) _⟩
    · obtain rfl : k = n := by omega
      have hLl := hSt.len
      obtain ⟨x, hx⟩ : ∃ x, L[s]? = some x := ⟨L[s]'(by omega), List.getElem?_eq_getElem _⟩
      have hxs := get_secsOf hx
      rw [hSt.secs, secsZ_get _ _ _ _ hsn] at hxs
      injection hxs with hxs
      have hout := hSt.out
      rw [OwnL, hLl] at hout
      rcases hout.2 with ⟨_, h0⟩ | ⟨go, co, cur, rfl, hgo, hgc, hnc, hcmx, _⟩
      · omega
      have hcells : ∀ j v, x.cells[j]? = some v → wr.cell? ⟨go, s * 9 + j, none⟩ = some v := fun j v hv => by
        have hj : j < 9 := (List.getElem?_eq_some_iff.1 hv).1
        have h1 := World.ownsRow.cellAt (g := go) (cap := co) hout (s * 9 + j) (by omega)
        rw [h1]
        exact cellsL_at L s x j v hx hv
      have k1 := hcells 1 (.int .i64 x.s.kind) rfl
      have hH' : Box wr H 64 _ := hH
      have h4 : wr.cell? ⟨H, 4, none⟩ = some (.int .i64 (s : Int)) := hH'.cell 4
      have hkd : x.s.kind = (kindN (entN l (off + 64 * s)) : Int) := by rw [← hxs]; rfl
      have hse : se = tellE l off k s := by rw [HE1.out, if_neg (by simp [HER.out])]
      obtain ⟨ff, hff⟩ : ∃ b, firstZ l off k = b := ⟨_, rfl⟩
      have hff2 : ff = decide (entN l off = List.replicate 10 0) := by rw [← hff]; unfold firstZ; rw [if_neg (by omega)]
      obtain ⟨bad, hbad⟩ : ∃ b, (!(decide (x.s.kind = 3) && ff)) = b := ⟨_, rfl⟩
      have HTB := Lib.hid (show bad = true → se = 22 from fun h => by
        rw [hse]
        unfold tellE
        rw [if_neg]
        rintro ⟨h1, h2, _⟩
        rw [← hbad, hff2, decide_eq_true h1, hkd, h2] at h
        simp at h)
      have HTG := Lib.hid (show bad = false → se = if namesOk l (tblT l off s) off k then 0 else 22 from fun h => by
        rw [← hbad, hff2] at h
        simp only [Bool.not_eq_false', Bool.and_eq_true, decide_eq_true_eq] at h
        rw [hse]
        unfold tellE
        by_cases hno : namesOk l (tblT l off s) off k
        · rw [if_pos ⟨h.2, by rw [hkd] at h; omega, hno⟩, if_pos hno]
        · rw [if_neg (fun hh => hno hh.2.2), if_neg hno])
      have HXF := Lib.hid (show Box wr w.heap.size 64 _ from hOn.2 _ _ HX3.out (fun hh => by revert hh; show ¬ (_ ∨ _ ∨ _); decide))
      have HNF := Lib.hid (show Box wr (w.heap.size + 1) 64 _ from hOn.2 _ _ HN3.out (fun hh => by revert hh; show ¬ (_ ∨ _ ∨ _); decide))
      have HBF := Lib.hid (HB3.out.trans hOn.1)
      have HSt := Lib.hid hSt
      have HOn := Lib.hid hOn
      have HXX := Lib.hid hx
      have HXS := Lib.hid hxs
      have HLl := Lib.hid hLl
      have HFF := Lib.hid hff
      have HBD := Lib.hid hbad
      rw [hff]
      clear hse hff hff2 hbad hx hxs hout hgc hnc hcmx hcells hH hH' hkd hSt hOn hLl hgo
      generalize x.s.kind = kx at *
      go_upto_region 24 with fail
      go_cut [94] from 84 to 94 (fun b wx => b = .bool bad ∧ wr = wx)
      case first =>
        have hb := HBD.out
        by_cases hk3 : kx = 3
        · have q3 : (kx != 3) = false := by simp [hk3]
          rw [decide_eq_true hk3, Bool.true_and] at hb
          clear hk3
          cases ff with
          | true =>
            subst hb
            go_wp2_with fail
            go_meet
            exact ⟨rfl, rfl⟩
          | false =>
            subst hb
            go_wp2_with fail
            go_meet
            exact ⟨rfl, rfl⟩
        · have q3 : (kx != 3) = true := by simpa using hk3
          rw [decide_eq_false hk3, Bool.false_and] at hb
          subst hb
          clear hk3
          go_wp2_with fail
          go_meet
          exact ⟨rfl, rfl⟩
      case rest =>
        obtain ⟨rfl, rfl⟩ := hcut
        cases bad with
        | true =>
          have hse := HTB.out rfl
          obtain ⟨hH1, hL1⟩ := HBAD.out 22 hse (by decide)
          have HF := Lib.hid (And.intro hse (And.intro hH1 hL1))
          clear hse hH1 hL1
          have hX5 := HXF.out
          have hN5 := HNF.out
          have r0 := hX5.cell 0
          have r1 := hX5.cell 1
          have r2 := hX5.cell 2
          have r3 := hX5.cell 3
          have r4 := hX5.cell 4
          have n0 := hN5.cell 0
          have n1 := hN5.cell 1
          have n2 := hN5.cell 2
          have n3 := hN5.cell 3
          have n4 := hN5.cell 4
          simp at r0 r1 r2 r3 r4 n0 n1 n2 n3 n4
          have f0 := hX5.free 0
          have f1 := hX5.free 1
          have f2 := hX5.free 2
          have f3 := hX5.free 3
          have f4 := hX5.free 4
          clear hX5 hN5
          go_wp2_with fail
          have hb6 := five_box HXF.out (.int .i64 0) (.int .i64 0) (.int .u64 0) (.int .i64 0) (.int .i64 0)
          refine ret_three Tryz.underlying64 Tryz.results23 hb6 (by kernel_rfl) (by rfl) rfl ?_
          exact ⟨none, 0, [], by rw [HF.out.1, HF.out.2.1]; rfl, by rw [HF.out.2.2]; rfl, secs_nil _ _, Nat.le_refl _, five_below HBF.out (Nat.le_refl _) _ _ _ _ _⟩
        | false =>
          have hse := HTG.out rfl
          have HSE := Lib.hid hse
          clear hse
          obtain ⟨Aa, ca, hua, hac⟩ := ownu_at HSt.out.ats
          rw [atsZ_length] at hua
          subst hua
          obtain ⟨ga, rfl, _, _⟩ := hac (by rw [atsZ_length]; omega)
          have hse := HSE.out
          obtain ⟨tbl, htb⟩ : ∃ tbl, tblT l off s = tbl := ⟨_, rfl⟩
          rw [htb] at HSE
          have HTBL := Lib.hid htb
          have HXD := Lib.hid (show x.s.data = tbl by rw [← HXS.out, ← htb]; rfl)
          have HTL := Lib.hid (show tbl.length ≤ 65536 by
            rw [← htb]
            exact dataT_len l _ rfl (errUp_ok HER.out s hsn))
          have HS0 := Lib.hid (show OwnL wr w.heap.size (.slice (some ⟨go, 0, none⟩) k co) (nameL tbl l off L 0) by
            rw [nameL_zero]; exact HSt.out.out)
          have HK0 := Lib.hid HSt.out.keep
          have HA0 := Lib.hid HSt.out.ats
          have HSC := Lib.hid HSt.out.secs
          clear hse htb hac
          go_wp2_with fail
          go_loopg [17] k (fun gk i wx => ∃ j : Nat, j ≤ k ∧ gk = k - j ∧ i = .int .i64 j ∧ Hid (namesOk l tbl off j) ∧ OwnL wx w.heap.size (.slice (some ⟨go, 0, none⟩) k co) (nameL tbl l off L j) ∧ KeepL wx w.heap.size L ∧ OwnU wx w.heap.size (.slice (some ⟨ga, 0, none⟩) k ca) (atsZ l off k) ∧ Only w.heap.size TakeObj w3 wx)
          case atStart => exact ⟨0, Nat.zero_le _, rfl, rfl, Lib.hid (fun i hi => by omega), HS0.out, HK0.out, HA0.out, HOn.out⟩
          case round =>
            obtain ⟨j, hj, rfl, rfl, HNO, hOL, hKP, hAT, hOx⟩ := hrel
            clear HS0 HK0 HA0 HXF HNF HBF HSt HOn
            have hHx : Box wr H 64 _ := hOx.2 _ _ HH3.out (fun hh => by revert hh; show ¬ (_ ∨ _ ∨ _); decide)
            have HXFx := Lib.hid (show Box wr w.heap.size 64 _ from hOx.2 _ _ HX3.out (fun hh => by revert hh; show ¬ (_ ∨ _ ∨ _); decide))
            have HNFx := Lib.hid (show Box wr (w.heap.size + 1) 64 _ from hOx.2 _ _ HN3.out (fun hh => by revert hh; show ¬ (_ ∨ _ ∨ _); decide))
            have HBx := Lib.hid (HB3.out.trans hOx.1)
            have hll := nameL_length tbl l off L j
            rw [HLl.out] at hll
            have hgo : go < wr.heap.size := by
              rcases hOL.2 with ⟨e, _⟩ | ⟨g', c', cur, e, _, hg, _⟩
              · cases e
              · injection e with e1 _ _
                injection e1 with e1
                injection e1 with e1 _ _
                rw [e1]
                exact (Array.getElem?_eq_some_iff.1 hg).1
            by_cases hjl : j < k
            · obtain ⟨xj, hxj⟩ : ∃ x, L[j]? = some x := ⟨L[j]'(by rw [HLl.out]; exact hjl), List.getElem?_eq_getElem _⟩
              obtain ⟨p, hp⟩ : ∃ p, nameN (entN l (off + 64 * j)) = p := ⟨_, rfl⟩
              have hp64 : p < two64 := by
                rw [← hp]
                exact entN_lt l (off + 64 * j) _ (by show (entN l (off + 64 * j)).getD 0 0 ∈ entN l (off + 64 * j); rw [List.getD_eq_getElem?_getD, List.getElem?_eq_getElem (by rw [entN_length]; decide)]; exact List.getElem_mem _)
              have hcj : wr.cell? ⟨ga, j, none⟩ = some (.int .u64 (p : Int)) := ownu_cell hAT (by rw [atsZ_get _ _ _ _ hjl, hp])
              have h4 : wr.cell? ⟨H, 4, none⟩ = some (.int .i64 (s : Int)) := hHx.cell 4
              have hOL' : wr.ownsRow w.heap.size 39 9 (.slice (some ⟨go, 0, none⟩) k co) k (cellsL (nameL tbl l off L j)) := by have h := hOL; rw [OwnL, hll] at h; exact h
              have hc4 : wr.cell? ⟨go, s * 9 + 4, none⟩ = some (.slice x.A x.s.data.length x.c) := by
                rw [World.ownsRow.cellAt (g := go) (cap := co) hOL' (s * 9 + 4) (by omega)]
                refine cellsL_at _ s _ 4 _ (nameL_get tbl l off L j s x HXX.out) ?_
                split <;> rfl
              have hlta : ga < wr.heap.size := World.block_lt_of_cell? wr _ hcj
              have hltH : H < wr.heap.size := World.block_lt_of_cell? wr _ h4
              have KS := Lib.hid (fun (W : World) (hW : Below wr.heap.size wr W) => (⟨(hW.cell (p := ⟨H, 4, none⟩) hltH).trans h4, (hW.cell (p := ⟨go, s * 9 + 4, none⟩) hgo).trans hc4, (hW.cell (p := ⟨ga, j, none⟩) hlta).trans hcj⟩ :
                W.cell? ⟨H, 4, none⟩ = some (.int .i64 (s : Int)) ∧ W.cell? ⟨go, s * 9 + 4, none⟩ = some (.slice x.A x.s.data.length x.c) ∧ W.cell? ⟨ga, j, none⟩ = some (.int .u64 (p : Int))))
              obtain ⟨rd1, rd2, rd3⟩ := hKP.rd HBx.out.size (List.mem_of_getElem? HXX.out)
              have HAC := Lib.hid (fun (W : World) (hW : Below wr.heap.size wr W) => rat_any ((rd1.below hW).more hW.size) x.c rd2 rd3 (by rw [HXD.out]; exact Nat.le_trans HTL.out (by decide)) p hp64)
              rw [HXD.out] at HAC
              have HP := Lib.hid hp
              have HXJ := Lib.hid hxj
              have HOL := Lib.hid hOL
              have HKP := Lib.hid hKP
              have HAT := Lib.hid hAT
              have HOx := Lib.hid hOx
              have HLL := Lib.hid hll
              have HJL := Lib.hid hjl
              have hB6 : Below wr.heap.size wr wr.drew := (Below.refl _ _).drew
              have hxd : x.s.data.length = tbl.length := by rw [HXD.out]
              rw [hxd] at KS hc4
              clear hp hp64 hHx hOL' hxj rd1 rd2 rd3 hOL hKP hAT hOx hll hxd
              generalize x.A = xA at *
              generalize x.c = xc at *
              obtain ⟨txt, htx⟩ : ∃ txt, (atT tbl p).1 = txt := ⟨_, rfl⟩
              obtain ⟨er, her⟩ : ∃ er, (atT tbl p).2 = er := ⟨_, rfl⟩
              have HTX := Lib.hid htx
              have HEr := Lib.hid her
              rw [htx, her] at HAC
              clear htx her
              generalize tbl.length = tn at *
              go_wp2_with fail
              go_region_held_law (fun W => W.cell? ⟨H, 4, none⟩ = some (.int .i64 (s : Int)) ∧ W.cell? ⟨go, s * 9 + 4, none⟩ = some (.slice xA tn xc) ∧ W.cell? ⟨ga, j, none⟩ = some (.int .u64 (p : Int)))
                ((refine KS.out _ ?_; (repeat' (first | with_reducible assumption | with_reducible refine below_drewN ?_ _ | with_reducible refine Below.drew ?_))))
                (first
                  | (go_at_call 55; refine (HAC.out _ (by (repeat' (first | with_reducible assumption | with_reducible refine below_drewN ?_ _ | with_reducible refine Below.drew ?_)))).mono ?_; rintro r w8 ⟨rfl, hb8⟩; have hB8 : Below wr.heap.size wr w8 := Below.trans (by (repeat' (first | with_reducible assumption | with_reducible refine below_drewN ?_ _ | with_reducible refine Below.drew ?_))) (hb8.mono (by exact hB6.size)); clear hb8 hB6 HAC))
              have HB8 := Lib.hid hB8
              clear hB8 KS h4 hc4 hcj
              by_cases her0 : er = 0
              · have q0 : (er != 0) = false := by simp [her0]
                have hOL8 : OwnL w8 w.heap.size (.slice (some ⟨go, 0, none⟩) (nameL tbl l off L j).length co) (nameL tbl l off L j) := by rw [HLL.out]; exact row_below HOL.out HB8.out
                have hzj : (nameL tbl l off L j)[j]? = some xj := by rw [nameL_get tbl l off L j j xj HXJ.out, if_neg (by omega)]
                obtain ⟨hOL9, hg9⟩ := ownl_name hOL8 hzj txt
                have hOL8' : w8.ownsRow w.heap.size 39 9 (.slice (some ⟨go, 0, none⟩) k co) k (cellsL (nameL tbl l off L j)) := by have h := hOL8; rw [OwnL, HLL.out] at h; exact h
                have hc0 : w8.cell? ⟨go, j * 9, none⟩ = some (.string ⟨xj.s.name.toArray⟩) := by
                  rw [World.ownsRow.cellAt (g := go) (cap := co) hOL8' (j * 9) (by omega)]
                  exact cellsL_at _ j xj 0 _ hzj rfl
                have hfr := World.ownsRow.frozenAt (g := go) (cap := co) hOL8' (j * 9)
                have hws : w.heap.size ≤ w8.heap.size := Nat.le_trans HBx.out.size HB8.out.size
                have hon := take_sect (row_turns hOL8 hg9 hws)
                have HO9 := Lib.hid ((HOx.out.then_ HB8.out HB3.out.size).trans hon)
                have HKP9 := Lib.hid ((HKP.out.only (Only.below (bad := TakeObj) HB8.out HBx.out.size) (fun cs f hh => by revert hh; show ¬ (_ ∨ _ ∨ _); decide)).only (row_turns hOL8 hg9 hws) (fun cs f hh => absurd (show 5 = 39 from hh) (by decide)))
                have HAT9 := Lib.hid (row_only (row_below HAT.out HB8.out) (row_turns hOL8 hg9 hws) (fun cs f hh => absurd (show 37 = 39 from hh) (by decide)))
                have HOL9 := Lib.hid (show OwnL (w8.setCell ⟨go, j * 9, none⟩ (.string ⟨txt.toArray⟩)) w.heap.size (.slice (some ⟨go, 0, none⟩) k co) (nameL tbl l off L (j + 1)) by
                  rw [nameL_next tbl l off L j xj HXJ.out, HP.out, HTX.out]
                  rw [HLL.out] at hOL9
                  exact hOL9)
                have HNO1 := Lib.hid (show namesOk l tbl off (j + 1) from fun i hi => by
                  rcases Nat.lt_or_ge i j with h | h
                  · exact HNO.out i h
                  · rw [show i = j by omega, HP.out, HEr.out, her0])
                clear hOL8 hzj hOL9 hg9 hOL8' hon her0
                generalize ByteArray.mk xj.s.name.toArray = sj at *
                go_wp2_with fail
                go_roundg (k - (j + 1))
                case measure => have := HJL.out; omega
                case rel => exact ⟨j + 1, HJL.out, rfl, by go_num, HNO1, HOL9.out, HKP9.out, HAT9.out, HO9.out⟩
              · have q0 : (er != 0) = true := by simpa using her0
                have hse : se = 22 := by
                  rw [HSE.out, if_neg]
                  intro h
                  have := h j HJL.out
                  rw [HP.out, HEr.out] at this
                  exact her0 this
                obtain ⟨hH1, hL1⟩ := HBAD.out 22 hse (by decide)
                have HF := Lib.hid (And.intro hse (And.intro hH1 hL1))
                have HXF8 := Lib.hid (HXFx.out.below HB8.out HXFx.out.lt)
                have HNF8 := Lib.hid (HNFx.out.below HB8.out HNFx.out.lt)
                have HBF8 := Lib.hid (HBx.out.trans (HB8.out.mono HBx.out.size))
                clear hse hH1 hL1 her0
                have hX5 := HXF8.out
                have hN5 := HNF8.out
                have r0 := hX5.cell 0
                have r1 := hX5.cell 1
                have r2 := hX5.cell 2
                have r3 := hX5.cell 3
                have r4 := hX5.cell 4
                have n0 := hN5.cell 0
                have n1 := hN5.cell 1
                have n2 := hN5.cell 2
                have n3 := hN5.cell 3
                have n4 := hN5.cell 4
                simp at r0 r1 r2 r3 r4 n0 n1 n2 n3 n4
                have f0 := hX5.free 0
                have f1 := hX5.free 1
                have f2 := hX5.free 2
                have f3 := hX5.free 3
                have f4 := hX5.free 4
                clear hX5 hN5
                go_wp2_with fail
                have hb6 := five_box HXF8.out (.int .i64 0) (.int .i64 0) (.int .u64 0) (.int .i64 0) (.int .i64 0)
                refine ret_three Tryz.underlying64 Tryz.results23 hb6 (by kernel_rfl) (by rfl) rfl ?_
                exact ⟨none, 0, [], by rw [HF.out.1, HF.out.2.1]; rfl, by rw [HF.out.2.2]; rfl, secs_nil _ _, Nat.le_refl _, five_below HBF8.out (Nat.le_refl _) _ _ _ _ _⟩
            · obtain rfl : j = k := by omega
              have hse : se = 0 := by rw [HSE.out, if_pos HNO.out]
              have HF := Lib.hid (And.intro hse (And.intro (HSH.out hse) (HSL.out hse)))
              have hX5 := HXFx.out
              have r0 := hX5.cell 0
              have r1 := hX5.cell 1
              have r2 := hX5.cell 2
              have r3 := hX5.cell 3
              have r4 := hX5.cell 4
              have n0 := hHx.cell 0
              have n1 := hHx.cell 1
              have n2 := hHx.cell 2
              have n3 := hHx.cell 3
              have n4 := hHx.cell 4
              simp at r0 r1 r2 r3 r4 n0 n1 n2 n3 n4
              have f0 := hX5.free 0
              have f1 := hX5.free 1
              have f2 := hX5.free 2
              have f3 := hX5.free 3
              have f4 := hX5.free 4
              have HOL := Lib.hid hOL
              have HKP := Lib.hid hKP
              have HLL := Lib.hid hll
              clear hse hX5 hHx hOL hKP hAT hOx hll
              go_wp2_with fail
              have hb6 := five_box HXFx.out (.int .i64 (y0 : Int)) (.int .i64 (y1 : Int)) (.int .u64 (off : Int)) (.int .i64 (j : Int)) (.int .i64 (s : Int))
              refine ret_three Tryz.underlying64 Tryz.results23 hb6 (by kernel_rfl) (by rfl) rfl ?_
              have hgr : wr.grownBy _ (some w.heap.size) := only_set (only_set (only_set (only_set (only_set (only_refl wr (some w.heap.size)) 0 (.int .i64 (y0 : Int))) 1 (.int .i64 (y1 : Int))) 2 (.int .u64 (off : Int))) 3 (.int .i64 (j : Int))) 4 (.int .i64 (s : Int))
              have hon : Only w.heap.size (CellsOf 64) wr _ := Only.row hgr HXFx.out rfl (Nat.le_refl _)
              have hsecs : secsOf (nameL tbl l off L j) = sl := by rw [HF.out.2.2]; exact nameL_all HSC.out HTBL.out.symm
              have hk := nameL_keep (HKP.out.only hon (fun cs f hh => absurd (show 5 = 64 from hh) (by decide))) tbl l off j
              have hsz := Nat.le_trans HBx.out.size hon.1.size
              have hOLf := row_only HOL.out hon (fun cs f hh => absurd (show 39 = 64 from hh) (by decide))
              obtain ⟨Af, cf, ef, hlf, _, hSf⟩ := ownl_secs hOLf (fun y hy => by
                obtain ⟨g1, g2, g3⟩ := hk.rd hsz hy
                exact ⟨g1, g2, g3, HFIT.out _ (by rw [← hsecs]; exact List.mem_map_of_mem hy)⟩)
              injection ef with ef1 ef2 ef3
              subst ef1 ef3
              exact ⟨_, _, nameL tbl l off L j, by rw [HF.out.1, HF.out.2.1, HLL.out]; rfl, hsecs, hSf, hlf, HBx.out.trans hon.1⟩

theorem rstake_any {w : World} {A : Option Addr} {l : List UInt8} (hr : Rd w w.heap.size A l) (c : Nat) (hlc : l.length ≤ c) (hcm : c ≤ maxLen) (hl : l.length ≤ 140737488355328) :
    Calls Tryz.prog 23 #[.slice A l.length c] w (RSTake l w) := by
  by_cases hbad : 1048576 < l.length ∨ takeE l ≠ 0
  · exact rstake_bad hr c hlc hl hbad
  · have h1 : ¬ 1048576 < l.length := fun h => hbad (.inl h)
    have h2 : takeE l = 0 := by
      by_cases h : takeE l = 0
      · exact h
      · exact absurd (.inr h) hbad
    exact rstake_good hr c hlc hcm h1 h2

end Go.Proofs.YtldmjnbmjfnfeaaGreatDoor
